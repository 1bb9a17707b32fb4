/-
  How texts read as arguments.
-/
import Derived.Test.YthehkckdecckhaaGreatDoorU49
import Derived.ProofKit
import Derived.SizedLaws
import Derived.SliceStrings
import Derived.Deep.Strs
import Derived.Deep.Slices

namespace Go.Proofs.YthehkckdecckhaaGreatDoor
open Go.ChangeShapes Go.WideShapes Go.ChangeAt Go.RowKit
open Go.Deep

/-- Texts that a slice leads to. -/
def StrsAt (w : World) (a : Option Addr) (l : List ByteArray) : Prop := l = [] ∨ ∃ b off, a = some ⟨b, off, none⟩ ∧ ∀ i, i < l.length → w.cell? ⟨b, off + i, none⟩ = some (.string (l.getD i ByteArray.empty))
theorem StrsAt.at {w : World} {a : Option Addr} {l : List ByteArray} (h : StrsAt w a l) {i : Nat} (hi : i < l.length) : ∃ b off, a = some ⟨b, off, none⟩ ∧ w.cell? ⟨b, off + i, none⟩ = some (.string (l.getD i ByteArray.empty)) := by
  rcases h with rfl | ⟨b, off, rfl, h⟩
  · simp at hi
  · exact ⟨b, off, rfl, h i hi⟩
theorem StrsAt.turn0 {w w' : World} {a : Option Addr} {l : List ByteArray} (h : StrsAt w a l) (hT : Turn [] w w') : StrsAt w' a l := by
  rcases h with rfl | ⟨b, off, rfl, h⟩
  · exact .inl rfl
  · exact .inr ⟨b, off, rfl, fun i hi => (hT.cell (p := ⟨b, off + i, none⟩) (lt_of_cell (h i hi)) (by simp)).trans (h i hi)⟩
/-- No text is too long. -/
def Sized (l : List ByteArray) : Prop := ∀ i, i < l.length → (l.getD i ByteArray.empty).size ≤ 9223372036854775807

/-- The texts that came in, out of how they are read. -/
theorem strs_of {H : Type} {enc : TypeId × Value → H} {W : World} {fuel : Nat} {a : Option Addr} {n c : Nat} {y : DataW H × List MemPlace} (h : DataW.trod enc Tryz.prog W 0 (fun _ => true) true fuel 56 [.slice a n c] = some y) :
    ∃ l : List ByteArray, n = l.length ∧ StrsAt W a l ∧ Sized l ∧ l.length ≤ 9223372036854775807 := by
  rcases open_strings Tryz.underlying56 Tryz.underlying9 (by kernel_rfl) h with ⟨hcs, _⟩ | ⟨x, l, c', zs, hcs, _, hl, hm, hz, hx, hcell, hwz⟩
  · have e := List.singleton_inj.1 hcs
    injection e with e1 e2 e3
    subst e1 e2 e3
    exact ⟨[], rfl, .inl rfl, fun i hi => by simp at hi, by simp⟩
  · have e := List.singleton_inj.1 hcs
    injection e with e1 e2 e3
    subst e1 e2 e3
    have hz' : zs.length = c := by simpa using hz
    unfold maxLen at hm hwz
    have hsz : Sized (zs.take n) := fun i hi => by
      rw [List.length_take] at hi
      rw [List.getD_eq_getElem?_getD, List.getElem?_take, if_pos (by omega), List.getElem?_eq_getElem (by omega : i < zs.length)]
      exact hwz _ (List.getElem_mem _)
    refine ⟨zs.take n, by rw [List.length_take]; omega, ?_, hsz, by rw [List.length_take]; omega⟩
    by_cases hn : n = 0
    · subst hn; exact .inl (by simp)
    have hc0 := hcell 0 (by omega)
    rw [show x.add 0 = x from rfl] at hc0
    obtain ⟨_, _, _, _, hsp⟩ := World.shape?_of_cell? hc0
    obtain ⟨b, off, sp⟩ := x
    obtain rfl : sp = none := hsp
    refine .inr ⟨b, off, rfl, fun i hi => ?_⟩
    rw [List.length_take] at hi
    have hc := hcell i (by omega)
    rw [Addr.add_mid] at hc
    rw [hc, List.getD_eq_getElem?_getD, List.getD_eq_getElem?_getD, List.getElem?_take, if_pos (by omega), List.getElem?_eq_getElem (by omega : i < zs.length)]

end Go.Proofs.YthehkckdecckhaaGreatDoor
