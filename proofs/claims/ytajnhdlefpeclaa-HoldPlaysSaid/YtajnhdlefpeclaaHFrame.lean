/-
  How ints with their bounds, bools and calls read as arguments.
-/
import Derived.Test.YtajnhdlefpeclaaLFrame
import Derived.Test.YtajnhdlefpeclaaHMem
namespace Go.Proofs.Ytajnhdlefpeclaa.Ho
open Go.ChangeShapes Go.WideShapes Go.ChangeAt Go.RowKit
open Go.Deep

theorem wf_le {n : Int} (h : (Lit.int .i64 n).wf = true) : n ≤ 9223372036854775807 := by
  simp [Lit.wf] at h
  exact h.2

theorem nums_max {H : Type} {enc : TypeId × Value → H} {W : World} {fuel : Nat} {a : Option Addr} {n c : Nat} {y : DataW H × List MemPlace} (h : DataW.trod enc Try.prog W 0 (fun _ => true) true fuel 37 [.slice a n c] = some y) :
    ∃ l : List Int, n = l.length ∧ NumsAt W a l ∧ ∀ k, k < l.length → l.getD k 0 ≤ 9223372036854775807 := by
  rcases open_ints Try.underlying37 Try.underlying3 (by kernel_rfl) h with ⟨hcs, _⟩ | ⟨x, l, c', zs, hcs, _, hl, hm, hz, hx, hcell, hwz⟩
  · have e := List.singleton_inj.1 hcs
    injection e with e1 e2 e3
    subst e1 e2 e3
    exact ⟨[], rfl, .inl rfl, by simp⟩
  · have e := List.singleton_inj.1 hcs
    injection e with e1 e2 e3
    subst e1 e2 e3
    have hz' : zs.length = c := by simpa using hz
    refine ⟨zs.take n, by rw [List.length_take]; omega, ?_, fun k hk => ?_⟩
    · by_cases hn : n = 0
      · subst hn; exact .inl (by simp)
      have hc0 := hcell 0 (by omega)
      rw [add_zero] at hc0
      obtain ⟨_, _, _, _, hsp⟩ := World.shape?_of_cell? hc0
      obtain ⟨b, off, sp⟩ := x
      obtain rfl : sp = none := hsp
      refine .inr ⟨b, off, rfl, fun i hi => ?_⟩
      rw [List.length_take] at hi
      have hc := hcell i (by omega)
      rw [add_spot] at hc
      rw [hc, List.getD_eq_getElem?_getD, List.getD_eq_getElem?_getD, List.getElem?_take, if_pos (by omega)]
    · rw [List.length_take] at hk
      rw [List.getD_eq_getElem?_getD, List.getElem?_take, if_pos (by omega), List.getElem?_eq_getElem (by omega)]
      exact wf_le (hwz _ (List.getElem_mem _))

/-- Bools that a slice leads to. -/
def BoolsAt (w : World) (a : Option Addr) (l : List Bool) : Prop := l = [] ∨ ∃ b off, a = some ⟨b, off, none⟩ ∧ ∀ i, i < l.length → w.cell? ⟨b, off + i, none⟩ = some (.bool (l.getD i false))
theorem BoolsAt.at {w : World} {a : Option Addr} {l : List Bool} (h : BoolsAt w a l) {i : Nat} (hi : i < l.length) : ∃ b off, a = some ⟨b, off, none⟩ ∧ w.cell? ⟨b, off + i, none⟩ = some (.bool (l.getD i false)) := by
  rcases h with rfl | ⟨b, off, rfl, h⟩
  · simp at hi
  · exact ⟨b, off, rfl, h i hi⟩
theorem BoolsAt.turn0 {w w' : World} {a : Option Addr} {l : List Bool} (h : BoolsAt w a l) (hT : Turn [] w w') : BoolsAt w' a l := by
  rcases h with rfl | ⟨b, off, rfl, h⟩
  · exact .inl rfl
  · exact .inr ⟨b, off, rfl, fun i hi => (hT.cell (p := ⟨b, off + i, none⟩) (lt_of_cell (h i hi)) (by simp)).trans (h i hi)⟩

theorem cells_bool : Try.prog.cellsOf 4 = 1 := by kernel_rfl
/-- The bools that came in, out of how they are read. -/
theorem bools_of {H : Type} {enc : TypeId × Value → H} {W : World} {fuel : Nat} {a : Option Addr} {n c : Nat} {y : DataW H × List MemPlace} (h : DataW.trod enc Try.prog W 0 (fun _ => true) true fuel 38 [.slice a n c] = some y) :
    ∃ l : List Bool, n = l.length ∧ BoolsAt W a l := by
  rcases open_slice Try.underlying38 h with ⟨hcs, _⟩ | ⟨x, len, cap, m, nf, D, Pl, hcs, _, hl, hm, hmm, rfl, hx⟩
  · have e := List.singleton_inj.1 hcs
    injection e with e1 e2 e3
    subst e1 e2 e3
    exact ⟨[], rfl, .inl rfl⟩
  · have e := List.singleton_inj.1 hcs
    injection e with e1 e2 e3
    subst e1 e2 e3
    simp only [if_true] at hmm
    subst hmm
    by_cases hn : n = 0
    · subst hn
      exact ⟨[], rfl, .inl rfl⟩
    have hone : ∀ k, k < n → ∃ u : Bool, W.cell? (x.add k) = some (.bool u) := fun k hk => by
      obtain ⟨cs', h1, h2⟩ := hx k (by omega)
      rw [cells_bool, Nat.mul_one] at h1
      obtain ⟨_, hlen, hcell⟩ := World.cells?_some h1
      obtain ⟨u, hu, _⟩ := DataW.trod_bool Try.underlying4 h2
      subst hu
      refine ⟨u, ?_⟩
      have := hcell 0 (by omega)
      rw [show (x.add k).add 0 = x.add k from rfl] at this
      exact this
    obtain ⟨u0, e00⟩ := hone 0 (by omega)
    obtain ⟨_, _, _, _, hsp⟩ := World.shape?_of_cell? e00
    obtain ⟨b, off, sp⟩ := x
    obtain rfl : sp = none := hsp
    have hall : ∀ k, ∃ u : Bool, k < n → W.cell? ⟨b, off + k, none⟩ = some (.bool u) := fun k => by
      by_cases hk : k < n
      · obtain ⟨u, hu⟩ := hone k hk
        rw [add_spot] at hu
        exact ⟨u, fun _ => hu⟩
      · exact ⟨false, fun h => absurd h hk⟩
    obtain ⟨f, hf⟩ := Classical.skolem.1 hall
    refine ⟨(List.range n).map f, by simp, .inr ⟨b, off, rfl, fun i hi => ?_⟩⟩
    simp only [List.length_map, List.length_range] at hi
    have : ((List.range n).map f).getD i false = f i := by
      rw [List.getD_eq_getElem?_getD]
      simp [hi]
    rw [this]
    exact hf i hi

end Go.Proofs.Ytajnhdlefpeclaa.Ho
