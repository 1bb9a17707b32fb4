/-
  ParseAnswer and EncodeAnswer of the reference, walked.
-/
import Derived.Test.YtkbboingeacgjaaQTD
namespace Go.Proofs.Ytkbboingeacgjaa
open Go.RowKit

/-- A reader at its beginning. -/
theorem rdr_new {w : World} {a : Option Addr} {cap : Nat} {B : List Nat} (hB : BytesAt w a B) (hc : B.length ≤ cap) (hl : B.length ≤ 1000000) (hx : ∀ x ∈ B, x < 256) : Rdr (w.alloc (.cells #[.slice a B.length cap, .int .i64 0, .int .i64 0] 82)) w.heap.size a cap B ⟨B, 0⟩ := by
  have hb : (w.alloc (.cells #[.slice a B.length cap, .int .i64 0, .int .i64 0] 82)).heap[w.heap.size]? = some (.cells #[.slice a B.length cap, .int .i64 0, .int .i64 0] 82 (0, 0)) := Array.getElem?_push_size
  refine ⟨?_, ⟨0, ?_, Nat.zero_le _, fun _ => rfl⟩, ?_, frozen_of_row _ _ _ _ _ hb, frozen_of_row _ _ _ _ _ hb, hB.keep (fun x hx e => Below.heap_alloc w _ _ (hB.lt x hx e)), fun x hx e => Nat.ne_of_lt (hB.lt x hx e), hl, hc, hx⟩
  · rw [cell_of_row _ _ _ _ _ _ hb]; rfl
  · rw [cell_of_row _ _ _ _ _ _ hb]; rfl
  · rw [cell_of_row _ _ _ _ _ _ hb]; rfl

/-- What is behind a parse: the world, told by what has not turned. -/
theorem Turn.ends {r : Nat} {w w1 w2 : World} (h1 : Turn [] w w1) (h2 : Turn [r] w1 w2) (hr : w.heap.size ≤ r) : Turn [] w w2 :=
  ⟨h2.os.trans h1.os, h2.tape.trans h1.tape, h2.output.trans h1.output, Nat.le_trans h1.size h2.size, fun k hk _ => (h2.block k (Nat.lt_of_lt_of_le hk h1.size) (by simp; omega)).trans (h1.block k hk (by simp))⟩

end Go.Proofs.Ytkbboingeacgjaa
