/-
  ParseAnswer and EncodeAnswer of the reference, walked.
-/
import Derived.Test.YtmmbckchaklhaaaFAnsQ
namespace Go.Proofs.Ytmmbckchaklhaaa
open Go.RowKit

/-- A reader at its beginning. -/
theorem rdr_new {w : World} {a : Option Addr} {cap : Nat} {B : List Nat} (hB : BytesAt w a B) (hc : B.length ≤ cap) (hl : B.length ≤ 1000000) (hx : ∀ x ∈ B, x < 256) : Rdr (w.alloc (.cells #[.slice a B.length cap, .int .i64 0, .int .i64 0] 87)) w.heap.size a cap B ⟨B, 0⟩ := by
  have hb : (w.alloc (.cells #[.slice a B.length cap, .int .i64 0, .int .i64 0] 87)).heap[w.heap.size]? = some (.cells #[.slice a B.length cap, .int .i64 0, .int .i64 0] 87 (0, 0)) := Array.getElem?_push_size
  refine ⟨?_, ⟨0, ?_, Nat.zero_le _, fun _ => rfl⟩, ?_, frozen_of_row _ _ _ _ _ hb, frozen_of_row _ _ _ _ _ hb, hB.keep (fun x hx e => Below.heap_alloc w _ _ (hB.lt x hx e)), fun x hx e => Nat.ne_of_lt (hB.lt x hx e), hl, hc, hx⟩
  · rw [cell_of_row _ _ _ _ _ _ hb]; rfl
  · rw [cell_of_row _ _ _ _ _ _ hb]; rfl
  · rw [cell_of_row _ _ _ _ _ _ hb]; rfl

/-- What is behind a parse: the world, told by what has not turned. -/
theorem Turn.ends {r : Nat} {w w1 w2 : World} (h1 : Turn [] w w1) (h2 : Turn [r] w1 w2) (hr : w.heap.size ≤ r) : Turn [] w w2 :=
  ⟨h2.os.trans h1.os, h2.tape.trans h1.tape, h2.output.trans h1.output, Nat.le_trans h1.size h2.size, fun k hk _ => (h2.block k (Nat.lt_of_lt_of_le hk h1.size) (by simp; omega)).trans (h1.block k hk (by simp))⟩

/-- The answer that the reference reads. -/
def ranA (t : Sx) : Aw := ⟨(anS t).2.er, (anS t).2.l.getD 0 0, (anS t).2.l.getD 1 0, (anS t).2.l.getD 2 0, (anS t).2.nm, (anS t).2.xs.getD 0 0, (anS t).2.xs.getD 1 0, (anS t).2.xs.getD 2 0, (anS t).2.xs.getD 3 0, (anS t).2.xs.getD 4 0, (anS t).2.xs.getD 5 0, (anS t).2.xs.getD 6 0, (anS t).2.xs.getD 7 0⟩

theorem an_lens (t : Sx) : (anS t).2.l.length = 3 ∧ (anS t).2.xs.length = 8 := by
  have h3 : (an3 t).2.length = 3 := (numsS_length .pr _ _).trans rfl
  have h5 : (an5 t).2.2.length = 8 := (numsS_length .pr _ _).trans rfl
  unfold anS
  split
  · exact ⟨h3, h5⟩
  · exact ⟨h3, rfl⟩

theorem ran_cells (t : Sx) (nm : ByteArray) : (Value.int .i64 (anS t).2.er :: (intC (anS t).2.l ++ Value.string nm :: intC (anS t).2.xs)) = awC { ranA t with nm := nm } := by
  obtain ⟨h1, h2⟩ := an_lens t
  unfold ranA
  generalize (anS t).2.er = er
  generalize (anS t).2.l = l at *
  generalize (anS t).2.xs = xs at *
  match l, xs, h1, h2 with
  | [a, b, c], [x1, x2, x3, x4, x5, x6, x7, x8], _, _ => rfl

end Go.Proofs.Ytmmbckchaklhaaa
