/-
  How lots and ints read as arguments.
-/
import Derived.Test.YtegbinlpojpffaaLMem
import Derived.ProofKit
import Derived.OpenShut
import Derived.SizedLaws
import Derived.Deep.Strs
import Derived.Deep.Slices
namespace Go.Proofs.Ytegbinlpojpffaa
open Go.ChangeShapes Go.WideShapes Go.ChangeAt Go.RowKit
open Go.Deep Lo

theorem cells_lot : Try.prog.cellsOf 29 = 9 := by kernel_rfl
theorem cells_int : Try.prog.cellsOf 3 = 1 := by kernel_rfl

set_option maxRecDepth 100000 in
/-- The values of a lot. -/
theorem open_lot {H : Type} {enc : TypeId × Value → H} {W : World} {base : Nat} {spare : Nat → Bool} {held : Bool} {fuel : Nat} {cs : List Value} {y : DataW H × List MemPlace} (h : DataW.trod enc Try.prog W base spare held fuel 29 cs = some y) :
    ∃ x : Lt, cs = lotC x := by
  obtain ⟨xs, m, _, _, hl, hlen, hf⟩ := DataW.trod_struct Try.underlying29 h
  rw [cells_lot] at hl
  obtain ⟨c0, c1, c2, c3, c4, c5, c6, c7, c8, rfl⟩ : ∃ c0 c1 c2 c3 c4 c5 c6 c7 c8, cs = [c0, c1, c2, c3, c4, c5, c6, c7, c8] := by
    match cs, hl with
    | [c0, c1, c2, c3, c4, c5, c6, c7, c8], _ => exact ⟨c0, c1, c2, c3, c4, c5, c6, c7, c8, rfl⟩
  have hg : ∀ i (hi : i < xs.length), xs[i]? = some xs[i] := fun i hi => List.getElem?_eq_getElem hi
  have hn : xs.length = 9 := hlen
  obtain ⟨x0, e0, _, _⟩ := DataW.trod_int Try.underlying3 ((hf 0 _ rfl).trans (hg 0 (by omega)))
  obtain ⟨x1, e1, _, _⟩ := DataW.trod_int Try.underlying3 ((hf 1 _ rfl).trans (hg 1 (by omega)))
  obtain ⟨x2, e2, _, _⟩ := DataW.trod_int Try.underlying3 ((hf 2 _ rfl).trans (hg 2 (by omega)))
  obtain ⟨x3, e3, _, _⟩ := DataW.trod_int Try.underlying3 ((hf 3 _ rfl).trans (hg 3 (by omega)))
  obtain ⟨x4, e4, _, _⟩ := DataW.trod_int Try.underlying3 ((hf 4 _ rfl).trans (hg 4 (by omega)))
  obtain ⟨x5, e5, _, _⟩ := DataW.trod_int Try.underlying3 ((hf 5 _ rfl).trans (hg 5 (by omega)))
  obtain ⟨x6, e6, _, _⟩ := DataW.trod_int Try.underlying3 ((hf 6 _ rfl).trans (hg 6 (by omega)))
  obtain ⟨x7, e7, _, _⟩ := DataW.trod_int Try.underlying3 ((hf 7 _ rfl).trans (hg 7 (by omega)))
  obtain ⟨x8, e8, _, _⟩ := DataW.trod_int Try.underlying3 ((hf 8 _ rfl).trans (hg 8 (by omega)))
  simp [cells_int] at e0 e1 e2 e3 e4 e5 e6 e7 e8
  subst e0 e1 e2 e3 e4 e5 e6 e7 e8
  exact ⟨⟨x0, x1, x2, x3, x4, x5, x6, x7, x8⟩, rfl⟩

/-- The lots that came in, out of how they are read. -/
theorem lots_of {H : Type} {enc : TypeId × Value → H} {W : World} {fuel : Nat} {a : Option Addr} {n c : Nat} {y : DataW H × List MemPlace} (h : DataW.trod enc Try.prog W 0 (fun _ => true) true fuel 22 [.slice a n c] = some y) :
    ∃ l : List Lt, n = l.length ∧ LotsAt W a l ∧ (a = none → c = 0) ∧ l.length ≤ 9223372036854775807 := by
  rcases open_slice Try.underlying22 h with ⟨hcs, _⟩ | ⟨x, len, cap, m, nf, D, Pl, hcs, _, hl, hm, hmm, rfl, hx⟩
  · have e := List.singleton_inj.1 hcs
    injection e with e1 e2 e3
    subst e1 e2 e3
    exact ⟨[], rfl, .inl rfl, fun _ => rfl, by simp⟩
  · have e := List.singleton_inj.1 hcs
    injection e with e1 e2 e3
    subst e1 e2 e3
    simp only [if_true] at hmm
    subst hmm
    unfold maxLen at hm
    by_cases hn : n = 0
    · subst hn
      exact ⟨[], rfl, .inl rfl, (fun e => by cases e), by simp⟩
    have hsp0 : x.spot = none := by
      obtain ⟨cs0, h01, h02⟩ := hx 0 (by omega)
      rw [cells_lot] at h01
      obtain ⟨_, hlen0, hcell0⟩ := World.cells?_some h01
      obtain ⟨u, rfl⟩ := open_lot h02
      have e00 : W.cell? x = some (.int .i64 u.id) := hcell0 0 (by omega)
      obtain ⟨_, _, _, _, hsp⟩ := World.shape?_of_cell? e00
      exact hsp
    obtain ⟨b, off, sp⟩ := x
    obtain rfl : sp = none := hsp0
    have hall : ∀ k, ∃ u : Lt, k < n → LotIn W b (off + k * 9) u := fun k => by
      by_cases hk : k < n
      · obtain ⟨cs', h1, h2⟩ := hx k (by omega)
        rw [cells_lot] at h1
        obtain ⟨_, hlen, hcell⟩ := World.cells?_some h1
        obtain ⟨u, rfl⟩ := open_lot h2
        refine ⟨u, fun _ => ?_⟩
        have hc := fun j (hj : j < 9) => hcell j hj
        simp only [add_spot] at hc
        exact ⟨hc 0 (by omega), hc 1 (by omega), hc 2 (by omega), hc 3 (by omega), hc 4 (by omega), hc 5 (by omega), hc 6 (by omega), hc 7 (by omega), hc 8 (by omega)⟩
      · exact ⟨Lt.nil, fun h => absurd h hk⟩
    obtain ⟨f, hf⟩ := Classical.skolem.1 hall
    refine ⟨(List.range n).map f, by simp, .inr ⟨b, off, rfl, fun i hi => ?_⟩, (fun e => by cases e), by simp; omega⟩
    simp only [List.length_map, List.length_range] at hi
    have : ((List.range n).map f).getD i Lt.nil = f i := by
      rw [List.getD_eq_getElem?_getD]
      simp [hi]
    rw [this]
    exact hf i hi

/-- Ints that a slice leads to. -/
def NumsAt (w : World) (a : Option Addr) (l : List Int) : Prop := l = [] ∨ ∃ b off, a = some ⟨b, off, none⟩ ∧ ∀ i, i < l.length → w.cell? ⟨b, off + i, none⟩ = some (.int .i64 (l.getD i 0))
theorem NumsAt.at {w : World} {a : Option Addr} {l : List Int} (h : NumsAt w a l) {i : Nat} (hi : i < l.length) : ∃ b off, a = some ⟨b, off, none⟩ ∧ w.cell? ⟨b, off + i, none⟩ = some (.int .i64 (l.getD i 0)) := by
  rcases h with rfl | ⟨b, off, rfl, h⟩
  · simp at hi
  · exact ⟨b, off, rfl, h i hi⟩
theorem NumsAt.turn0 {w w' : World} {a : Option Addr} {l : List Int} (h : NumsAt w a l) (hT : Turn [] w w') : NumsAt w' a l := by
  rcases h with rfl | ⟨b, off, rfl, h⟩
  · exact .inl rfl
  · exact .inr ⟨b, off, rfl, fun i hi => (hT.cell (p := ⟨b, off + i, none⟩) (lt_of_cell (h i hi)) (by simp)).trans (h i hi)⟩
/-- The ints that came in, out of how they are read. -/
theorem nums_of {H : Type} {enc : TypeId × Value → H} {W : World} {fuel : Nat} {a : Option Addr} {n c : Nat} {y : DataW H × List MemPlace} (h : DataW.trod enc Try.prog W 0 (fun _ => true) true fuel 55 [.slice a n c] = some y) :
    ∃ l : List Int, n = l.length ∧ NumsAt W a l ∧ l.length ≤ 9223372036854775807 := by
  rcases open_ints Try.underlying55 Try.underlying3 (by kernel_rfl) h with ⟨hcs, _⟩ | ⟨x, l, c', zs, hcs, _, hl, hm, hz, hx, hcell, hwz⟩
  · have e := List.singleton_inj.1 hcs
    injection e with e1 e2 e3
    subst e1 e2 e3
    exact ⟨[], rfl, .inl rfl, by simp⟩
  · have e := List.singleton_inj.1 hcs
    injection e with e1 e2 e3
    subst e1 e2 e3
    have hz' : zs.length = c := by simpa using hz
    unfold maxLen at hm
    refine ⟨zs.take n, by rw [List.length_take]; omega, ?_, by rw [List.length_take]; omega⟩
    by_cases hn : n = 0
    · subst hn; exact .inl (by simp)
    have hc0 := hcell 0 (by omega)
    rw [add_zero] at hc0
    obtain ⟨_, _, _, _, hsp⟩ := World.shape?_of_cell? hc0
    obtain ⟨b, off, sp⟩ := x
    obtain rfl : sp = none := hsp
    refine .inr ⟨b, off, rfl, fun i hi => ?_⟩
    rw [List.length_take] at hi
    have hc := hcell i (by omega)
    rw [add_spot] at hc
    rw [hc, List.getD_eq_getElem?_getD, List.getD_eq_getElem?_getD, List.getElem?_take, if_pos (by omega)]

end Go.Proofs.Ytegbinlpojpffaa
