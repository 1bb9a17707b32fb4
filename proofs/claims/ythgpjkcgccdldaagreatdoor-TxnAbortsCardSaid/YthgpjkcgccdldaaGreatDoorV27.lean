/-
  What the rows' condition gives: the library's table is in its variable; a world that meets the condition.
-/
import Derived.Test.YthgpjkcgccdldaaGreatDoorV24
import Derived.ProofKit
import Derived.LaidMore
import Derived.OpenShut
import Derived.Stop.Joined

namespace Go.Proofs.YthgpjkcgccdldaaGreatDoor
open Go.ChangeShapes Go.WideShapes Go.ChangeAt Go.WideMaps Go.WideElems Go.RowKit

def lst : List (String × DataW Unit) := [("math/bits.deBruijn64tab", Rows.laid_math_bits_deBruijn64tab)]
theorem own : ownKnob Tryz.prog.godebug = none := by kernel_rfl
theorem laidOut : laidOutB Tryz.prog = true := by kernel_rfl
theorem gTab : Tryz.prog.globalNamed "math/bits.deBruijn64tab" = some 1 := by kernel_rfl
theorem tTab : (Tryz.prog.globals[1]?).map (·.type) = some 264 := by kernel_rfl
theorem cells5 : Tryz.prog.cellsOf 5 = 1 := by kernel_rfl

theorem door_met (os : Os) (args : Array Value) : laidMetH Tryz.prog lst ((World.doorLaid Tryz.prog 400 os).forCall (fun _ _ => 0) ⟨#[], args, []⟩).memory :=
  laidMetH_of_parts3 (fuel := 8) (laidMet_of_run' 8 (by kernel_rfl) (by kernel_rfl)) (by kernel_rfl) (by kernel_rfl)

theorem tab_data : ∀ j, j < 64 → ∀ (xs : List (DataW Unit × List MemPlace)), (Rows.laid_math_bits_deBruijn64tab : DataW Unit) = .agg (xs.map (·.1)) → (xs[j]?).map (·.1) = some (.lit (.int .u8 (Lib.deBruijn64tab.getD j 0 : Nat))) := by
  intro j hj xs h
  have h1 : ∃ ys : List (DataW Unit), (Rows.laid_math_bits_deBruijn64tab : DataW Unit) = .agg ys ∧ ∀ j, j < 64 → ys[j]? = some (.lit (.int .u8 (Lib.deBruijn64tab.getD j 0 : Nat))) := by
    refine ⟨Lib.deBruijn64tab.map fun x => .lit (.int .u8 (x : Nat)), rfl, fun j hj => ?_⟩
    have hl : Lib.deBruijn64tab.length = 64 := rfl
    rw [List.getElem?_map, List.getElem?_eq_getElem (by rw [hl]; exact hj), List.getD_eq_getElem?_getD, List.getElem?_eq_getElem (by rw [hl]; exact hj)]
    rfl
  obtain ⟨ys, e, hy⟩ := h1
  rw [e] at h
  have : ys = xs.map (·.1) := DataW.agg.inj h
  rw [← List.getElem?_map, ← this]
  exact hy j hj

theorem of_laid {W : World} (h : laidMetH Tryz.prog lst W) : Tab W := by
  rw [MakeChecks.laidMetH_plain _ _ _ (by kernel_rfl)] at h
  obtain ⟨ps, ⟨g0, t0, cs0, f0, p0, q0, hg0, ht0, hv0, hd0, _⟩, _, _⟩ := h
  obtain rfl := Option.some.inj (gTab.symm.trans hg0)
  obtain rfl := Option.some.inj (tTab.symm.trans ht0)
  obtain ⟨xs, m1, rfl, hx1, hlen, hn, hel⟩ := DataW.trod_array Tryz.underlying264 hd0
  simp only [Prod.mk.injEq] at hx1
  intro j hj
  have hc := World.var?_cell hg0 hv0 j
  have h1 := hel j hj
  have h2 := tab_data j hj xs hx1.1
  cases hxj : xs[j]? with
  | none => rw [hxj] at h2; cases h2
  | some x =>
    rw [hxj] at h1 h2
    obtain ⟨k, e1, e2, _⟩ := DataW.trod_int Tryz.underlying5 h1
    rw [e2] at h2
    have hk : k = (Lib.deBruijn64tab.getD j 0 : Nat) := by
      have := Option.some.inj h2
      exact (Lit.int.inj (DataW.lit.inj this)).2
    rw [hc]
    rw [cells5, Nat.mul_one] at e1
    have h3 : (cs0.toList.drop j)[0]? = some (.int .u8 k) := by
      have : ((cs0.toList.drop j).take 1)[0]? = some (.int .u8 k) := by rw [e1]; rfl
      rw [List.getElem?_take, if_pos (by omega)] at this
      exact this
    rw [List.getElem?_drop, Nat.add_zero] at h3
    rw [← Array.getElem?_toList, h3, hk]
end Go.Proofs.YthgpjkcgccdldaaGreatDoor
