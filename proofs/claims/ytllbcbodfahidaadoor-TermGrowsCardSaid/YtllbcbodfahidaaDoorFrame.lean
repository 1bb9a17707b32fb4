/-
  What the rows' condition gives: the months' lengths are in their variable; a world that meets the condition.
-/
import Derived.Test.YtllbcbodfahidaaDoorBase
import Derived.ProofKit
import Derived.LaidMore
import Derived.OpenShut
import Derived.Stop.Joined
namespace Go.Proofs.YtllbcbodfahidaaDoor
open Go.ChangeShapes Go.WideShapes Go.ChangeAt Go.WideMaps Go.WideElems Go.RowKit

def lst : List (String × DataW Unit) := [("toll/civil.lengths", Rows.laid_toll_civil_lengths)]
theorem own : ownKnob Tryd.prog.godebug = none := by kernel_rfl
theorem laidOut : laidOutB Tryd.prog = true := by kernel_rfl
theorem gTab : Tryd.prog.globalNamed "toll/civil.lengths" = some 0 := by kernel_rfl
theorem tTab : (Tryd.prog.globals[0]?).map (·.type) = some 48 := by kernel_rfl
theorem cells3 : Tryd.prog.cellsOf 3 = 1 := by kernel_rfl

theorem door_met (os : Os) (args : Array Value) : laidMetH Tryd.prog lst ((World.doorLaid Tryd.prog 400 os).forCall (fun _ _ => 0) ⟨#[], args, []⟩).memory :=
  laidMetH_of_parts3 (fuel := 8) (laidMet_of_run' 8 (by kernel_rfl) (by kernel_rfl)) (by kernel_rfl) (by kernel_rfl)

theorem tab_data : ∀ j, j < 12 → ∀ (xs : List (DataW Unit × List MemPlace)), (Rows.laid_toll_civil_lengths : DataW Unit) = .agg (xs.map (·.1)) → (xs[j]?).map (·.1) = some (.lit (.int .i64 (lens.getD j 0))) := by
  intro j hj xs h
  have h1 : ∃ ys : List (DataW Unit), (Rows.laid_toll_civil_lengths : DataW Unit) = .agg ys ∧ ∀ j, j < 12 → ys[j]? = some (.lit (.int .i64 (lens.getD j 0))) := by
    refine ⟨lens.map fun x => .lit (.int .i64 x), rfl, fun j hj => ?_⟩
    have hl : lens.length = 12 := rfl
    rw [List.getElem?_map, List.getElem?_eq_getElem (by rw [hl]; exact hj), List.getD_eq_getElem?_getD, List.getElem?_eq_getElem (by rw [hl]; exact hj)]
    rfl
  obtain ⟨ys, e, hy⟩ := h1
  rw [e] at h
  have : ys = xs.map (·.1) := DataW.agg.inj h
  rw [← List.getElem?_map, ← this]
  exact hy j hj

theorem of_laid {W : World} (h : laidMetH Tryd.prog lst W) : Tab W := by
  rw [MakeChecks.laidMetH_plain _ _ _ (by kernel_rfl)] at h
  obtain ⟨ps, ⟨g0, t0, cs0, f0, p0, q0, hg0, ht0, hv0, hd0, _⟩, _, _⟩ := h
  obtain rfl := Option.some.inj (gTab.symm.trans hg0)
  obtain rfl := Option.some.inj (tTab.symm.trans ht0)
  obtain ⟨xs, m1, rfl, hx1, hlen, hn, hel⟩ := DataW.trod_array Tryd.underlying48 hd0
  simp only [Prod.mk.injEq] at hx1
  intro j hj
  have hc := World.var?_cell hg0 hv0 j
  have h1 := hel j hj
  have h2 := tab_data j hj xs hx1.1
  cases hxj : xs[j]? with
  | none => rw [hxj] at h2; cases h2
  | some x =>
    rw [hxj] at h1 h2
    obtain ⟨k, e1, e2, _⟩ := DataW.trod_int Tryd.underlying3 h1
    rw [e2] at h2
    have hk : k = lens.getD j 0 := by
      have := Option.some.inj h2
      exact (Lit.int.inj (DataW.lit.inj this)).2
    rw [hc]
    rw [cells3, Nat.mul_one] at e1
    have h3 : (cs0.toList.drop j)[0]? = some (.int .i64 k) := by
      have : ((cs0.toList.drop j).take 1)[0]? = some (.int .i64 k) := by rw [e1]; rfl
      rw [List.getElem?_take, if_pos (by omega)] at this
      exact this
    rw [List.getElem?_drop, Nat.add_zero] at h3
    rw [← Array.getElem?_toList, h3, hk]

end Go.Proofs.YtllbcbodfahidaaDoor
