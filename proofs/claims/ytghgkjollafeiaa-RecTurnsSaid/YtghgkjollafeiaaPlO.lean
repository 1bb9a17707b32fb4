/-
  RecPlans: how its arguments read.
-/
import Derived.Test.YtghgkjollafeiaaPp
import Derived.Test.YtghgkjollafeiaaNumsProof
import Derived.Deep.Strs
namespace Go.Proofs.Ytghgkjollafeiaa
open Go.RowKit Go.ChangeShapes Go.WideShapes Go.ChangeAt

theorem cells9 : Try.prog.cellsOf 9 = 1 := by kernel_rfl
theorem cells3 : Try.prog.cellsOf 3 = 1 := by kernel_rfl
theorem i64_of {x : Int} (h : (Lit.int .i64 x).wf = true) : I64 x := by
  have := bounds_i64 h
  unfold I64
  omega

theorem cells23 : Try.prog.cellsOf 23 = 10 := by kernel_rfl
set_option maxRecDepth 100000 in
/-- The values of such a struct. -/
theorem open_plan {H : Type} {enc : TypeId × Value → H} {W : World} {base : Nat} {spare : Nat → Bool} {held : Bool} {fuel : Nat} {cs : List Value} {y : DataW H × List MemPlace} (h : DataW.trod enc Try.prog W base spare held fuel 23 cs = some y) :
    ∃ (nm : ByteArray) (x1 x2 x3 x4 x5 x6 x7 x8 x9 : Int), cs = [.string nm, .int .i64 x1, .int .i64 x2, .int .i64 x3, .int .i64 x4, .int .i64 x5, .int .i64 x6, .int .i64 x7, .int .i64 x8, .int .i64 x9] ∧ (∀ x ∈ [x1, x2, x3, x4, x5, x6, x7, x8, x9], I64 x) ∧ nm.size ≤ maxLen := by
  obtain ⟨xs, m, _, _, hl, hlen, hf⟩ := DataW.trod_struct Try.underlying23 h
  rw [cells23] at hl
  obtain ⟨c0, c1, c2, c3, c4, c5, c6, c7, c8, c9, rfl⟩ : ∃ c0 c1 c2 c3 c4 c5 c6 c7 c8 c9, cs = [c0, c1, c2, c3, c4, c5, c6, c7, c8, c9] := by
    match cs, hl with
    | [c0, c1, c2, c3, c4, c5, c6, c7, c8, c9], _ => exact ⟨c0, c1, c2, c3, c4, c5, c6, c7, c8, c9, rfl⟩
  have hg : ∀ i (hi : i < xs.length), xs[i]? = some xs[i] := fun i hi => List.getElem?_eq_getElem hi
  have hn : xs.length = 10 := hlen
  obtain ⟨nm, e0, _, hnm⟩ := DataW.trod_string Try.underlying9 ((hf 0 _ rfl).trans (hg 0 (by omega)))
  obtain ⟨x1, e1, _, b1⟩ := DataW.trod_int Try.underlying3 ((hf 1 _ rfl).trans (hg 1 (by omega)))
  obtain ⟨x2, e2, _, b2⟩ := DataW.trod_int Try.underlying3 ((hf 2 _ rfl).trans (hg 2 (by omega)))
  obtain ⟨x3, e3, _, b3⟩ := DataW.trod_int Try.underlying3 ((hf 3 _ rfl).trans (hg 3 (by omega)))
  obtain ⟨x4, e4, _, b4⟩ := DataW.trod_int Try.underlying3 ((hf 4 _ rfl).trans (hg 4 (by omega)))
  obtain ⟨x5, e5, _, b5⟩ := DataW.trod_int Try.underlying3 ((hf 5 _ rfl).trans (hg 5 (by omega)))
  obtain ⟨x6, e6, _, b6⟩ := DataW.trod_int Try.underlying3 ((hf 6 _ rfl).trans (hg 6 (by omega)))
  obtain ⟨x7, e7, _, b7⟩ := DataW.trod_int Try.underlying3 ((hf 7 _ rfl).trans (hg 7 (by omega)))
  obtain ⟨x8, e8, _, b8⟩ := DataW.trod_int Try.underlying3 ((hf 8 _ rfl).trans (hg 8 (by omega)))
  obtain ⟨x9, e9, _, b9⟩ := DataW.trod_int Try.underlying3 ((hf 9 _ rfl).trans (hg 9 (by omega)))
  simp [cells9, cells3] at e0 e1 e2 e3 e4 e5 e6 e7 e8 e9
  subst e0 e1 e2 e3 e4 e5 e6 e7 e8 e9
  refine ⟨nm, x1, x2, x3, x4, x5, x6, x7, x8, x9, rfl, ?_, hnm⟩
  intro x hx
  simp only [List.mem_cons, List.not_mem_nil, or_false] at hx
  rcases hx with rfl | rfl | rfl | rfl | rfl | rfl | rfl | rfl | rfl
  · exact i64_of b1
  · exact i64_of b2
  · exact i64_of b3
  · exact i64_of b4
  · exact i64_of b5
  · exact i64_of b6
  · exact i64_of b7
  · exact i64_of b8
  · exact i64_of b9

theorem cells40 : Try.prog.cellsOf 40 = 9 := by kernel_rfl
set_option maxRecDepth 100000 in
/-- The values of such a struct. -/
theorem open_stm {H : Type} {enc : TypeId × Value → H} {W : World} {base : Nat} {spare : Nat → Bool} {held : Bool} {fuel : Nat} {cs : List Value} {y : DataW H × List MemPlace} (h : DataW.trod enc Try.prog W base spare held fuel 40 cs = some y) :
    ∃ (nm : ByteArray) (x1 x2 x3 x4 x5 x6 x7 x8 : Int), cs = [.string nm, .int .i64 x1, .int .i64 x2, .int .i64 x3, .int .i64 x4, .int .i64 x5, .int .i64 x6, .int .i64 x7, .int .i64 x8] ∧ (∀ x ∈ [x1, x2, x3, x4, x5, x6, x7, x8], I64 x) ∧ nm.size ≤ maxLen := by
  obtain ⟨xs, m, _, _, hl, hlen, hf⟩ := DataW.trod_struct Try.underlying40 h
  rw [cells40] at hl
  obtain ⟨c0, c1, c2, c3, c4, c5, c6, c7, c8, rfl⟩ : ∃ c0 c1 c2 c3 c4 c5 c6 c7 c8, cs = [c0, c1, c2, c3, c4, c5, c6, c7, c8] := by
    match cs, hl with
    | [c0, c1, c2, c3, c4, c5, c6, c7, c8], _ => exact ⟨c0, c1, c2, c3, c4, c5, c6, c7, c8, rfl⟩
  have hg : ∀ i (hi : i < xs.length), xs[i]? = some xs[i] := fun i hi => List.getElem?_eq_getElem hi
  have hn : xs.length = 9 := hlen
  obtain ⟨nm, e0, _, hnm⟩ := DataW.trod_string Try.underlying9 ((hf 0 _ rfl).trans (hg 0 (by omega)))
  obtain ⟨x1, e1, _, b1⟩ := DataW.trod_int Try.underlying3 ((hf 1 _ rfl).trans (hg 1 (by omega)))
  obtain ⟨x2, e2, _, b2⟩ := DataW.trod_int Try.underlying3 ((hf 2 _ rfl).trans (hg 2 (by omega)))
  obtain ⟨x3, e3, _, b3⟩ := DataW.trod_int Try.underlying3 ((hf 3 _ rfl).trans (hg 3 (by omega)))
  obtain ⟨x4, e4, _, b4⟩ := DataW.trod_int Try.underlying3 ((hf 4 _ rfl).trans (hg 4 (by omega)))
  obtain ⟨x5, e5, _, b5⟩ := DataW.trod_int Try.underlying3 ((hf 5 _ rfl).trans (hg 5 (by omega)))
  obtain ⟨x6, e6, _, b6⟩ := DataW.trod_int Try.underlying3 ((hf 6 _ rfl).trans (hg 6 (by omega)))
  obtain ⟨x7, e7, _, b7⟩ := DataW.trod_int Try.underlying3 ((hf 7 _ rfl).trans (hg 7 (by omega)))
  obtain ⟨x8, e8, _, b8⟩ := DataW.trod_int Try.underlying3 ((hf 8 _ rfl).trans (hg 8 (by omega)))
  simp [cells9, cells3] at e0 e1 e2 e3 e4 e5 e6 e7 e8
  subst e0 e1 e2 e3 e4 e5 e6 e7 e8
  refine ⟨nm, x1, x2, x3, x4, x5, x6, x7, x8, rfl, ?_, hnm⟩
  intro x hx
  simp only [List.mem_cons, List.not_mem_nil, or_false] at hx
  rcases hx with rfl | rfl | rfl | rfl | rfl | rfl | rfl | rfl
  · exact i64_of b1
  · exact i64_of b2
  · exact i64_of b3
  · exact i64_of b4
  · exact i64_of b5
  · exact i64_of b6
  · exact i64_of b7
  · exact i64_of b8
end Go.Proofs.Ytghgkjollafeiaa
