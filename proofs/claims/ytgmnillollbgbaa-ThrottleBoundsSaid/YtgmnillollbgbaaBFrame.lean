/-
  How ints and calls read as arguments; the chapter's example.
-/
import Derived.Test.YtgmnillollbgbaaBFns
import Derived.ProofKit
import Derived.OpenShut
import Derived.SizedLaws
import Derived.Deep.Strs
import Derived.Deep.Slices
import Derived.Deep.MidRow
namespace Go.Proofs.Ytgmnillollbgbaa
open Go.ChangeShapes Go.WideShapes Go.ChangeAt Go.RowKit
open Go.Deep

/-- Ints that a slice leads to. -/
def NumsAt (w : World) (a : Option Addr) (l : List Int) : Prop := l = [] ∨ ∃ b off, a = some ⟨b, off, none⟩ ∧ ∀ i, i < l.length → w.cell? ⟨b, off + i, none⟩ = some (.int .i64 (l.getD i 0))
theorem NumsAt.at {w : World} {a : Option Addr} {l : List Int} (h : NumsAt w a l) {i : Nat} (hi : i < l.length) : ∃ b off, a = some ⟨b, off, none⟩ ∧ w.cell? ⟨b, off + i, none⟩ = some (.int .i64 (l.getD i 0)) := by
  rcases h with rfl | ⟨b, off, rfl, h⟩
  · simp at hi
  · exact ⟨b, off, rfl, h i hi⟩
theorem NumsAt.turn0 {w w' : World} {a : Option Addr} {l : List Int} (h : NumsAt w a l) (hT : Turn [] w w') : NumsAt w' a l := by
  rcases h with rfl | ⟨b, off, rfl, h⟩
  · exact .inl rfl
  · exact .inr ⟨b, off, rfl, fun i hi => (hT.cell (p := ⟨b, off + i, none⟩) (lt_of_cell (h i hi)) (by simp)).trans (h i hi)⟩

/-- The ints that came in, out of how they are read. -/
theorem nums_of {H : Type} {enc : TypeId × Value → H} {W : World} {fuel : Nat} {a : Option Addr} {n c : Nat} {y : DataW H × List MemPlace} (h : DataW.trod enc Try.prog W 0 (fun _ => true) true fuel 35 [.slice a n c] = some y) :
    ∃ l : List Int, n = l.length ∧ NumsAt W a l ∧ l.length ≤ 9223372036854775807 := by
  rcases open_ints Try.underlying35 Try.underlying3 (by kernel_rfl) h with ⟨hcs, _⟩ | ⟨x, l, c', zs, hcs, _, hl, hm, hz, hx, hcell, hwz⟩
  · have e := List.singleton_inj.1 hcs
    injection e with e1 e2 e3
    subst e1 e2 e3
    exact ⟨[], rfl, .inl rfl, by simp⟩
  · have e := List.singleton_inj.1 hcs
    injection e with e1 e2 e3
    subst e1 e2 e3
    have hz' : zs.length = c := by simpa using hz
    unfold maxLen at hm
    refine ⟨zs.take n, by rw [List.length_take]; omega, ?_, by rw [List.length_take]; omega⟩
    by_cases hn : n = 0
    · subst hn; exact .inl (by simp)
    have hc0 := hcell 0 (by omega)
    rw [show x.add 0 = x from rfl] at hc0
    obtain ⟨_, _, _, _, hsp⟩ := World.shape?_of_cell? hc0
    obtain ⟨b, off, sp⟩ := x
    obtain rfl : sp = none := hsp
    refine .inr ⟨b, off, rfl, fun i hi => ?_⟩
    rw [List.length_take] at hi
    have hc := hcell i (by omega)
    rw [Addr.add_mid] at hc
    rw [hc, List.getD_eq_getElem?_getD, List.getD_eq_getElem?_getD, List.getElem?_take, if_pos (by omega)]

namespace Th
open Go.Maps

theorem Turn_new {w w1 w2 : World} {g : Nat} (h : Turn [] w w1) (hg : w.heap.size ≤ g) (k : Turn [g] w1 w2) : Turn [] w w2 := h.then k (fun x hx => .inr (by simp at hx; omega))

theorem ok_of {u v n x : Int} (b0 : 1 ≤ u) (b1 : u ≤ 100000) (r0 : 0 ≤ v) (r1 : v ≤ 1000) (n0 : 0 ≤ n) (n1 : n ≤ 4000000000) (h0 : 0 ≤ x) (h1 : x ≤ 100000) : (⟨u, v, n, x⟩ : Bk).Ok := ⟨b0, b1, r0, r1, n0, n1, h0, h1⟩

set_option maxRecDepth 100000 in
set_option maxHeartbeats 2000000 in
theorem known_any (w : World) : Calls Try.prog 9 #[] w fun e w' => e = .returned (.bool true) ∧ Turn [] w w' := by
  go_enter Try.func9, Try.ntmps9
  go_wp2_with fail
  refine (new_any 5 2 0 w).mono ?_
  rintro e w1 ⟨g, rfl, hg, hA1, hT1⟩
  have HA1 := hide hA1
  have HT1 := hide hT1
  have hgl := hA1.lt
  clear hA1 hT1
  go_wp2_with fail
  refine (has_any 1 (ok_of (by omega) (by omega) (by omega) (by omega) (by omega) (by omega) (by omega) (by omega)) (by omega) (by omega) HA1.out).mono ?_
  rintro e w2 ⟨rfl, hA2, hT2⟩
  have e2 : (⟨5, 2, 0, 0⟩ : Bk).to 1 = ⟨5, 2, 1, 2⟩ := by rw [to_gt (by decide)]; rfl
  rw [e2] at hA2
  rw [e2]
  have HA2 := hide hA2
  have HT2 := hide (Turn_new HT1.out hg hT2)
  clear hA2 hT2 e2 HA1
  have hg2 := HA2.out.lt
  go_wp2_with fail
  refine (has_any 9 (ok_of (by omega) (by omega) (by omega) (by omega) (by omega) (by omega) (by omega) (by omega)) (by omega) (by omega) HA2.out).mono ?_
  rintro e w3 ⟨rfl, hA3, hT3⟩
  have e3 : (⟨5, 2, 1, 2⟩ : Bk).to 9 = ⟨5, 2, 9, 5⟩ := by rw [to_gt (by decide)]; rfl
  rw [e3]
  have HT3 := hide (Turn_new HT2.out hg hT3)
  clear hA3 hT3 e3
  go_wp2_with fail
  go_ret
  exact ⟨rfl, HT3.out⟩

end Th

end Go.Proofs.Ytgmnillollbgbaa
