/-
  A statement, carried either way, walked.
-/
import Derived.Test.YtmmbckchaklhaaaQPlan
namespace Go.Proofs.Ytmmbckchaklhaaa
open Go.RowKit

theorem ptrs8 (rb o : Nat) : #[Value.pointer (some ⟨rb, o + 1, none⟩), .pointer (some ⟨rb, o + 2, none⟩), .pointer (some ⟨rb, o + 3, none⟩), .pointer (some ⟨rb, o + 4, none⟩), .pointer (some ⟨rb, o + 5, none⟩), .pointer (some ⟨rb, o + 6, none⟩), .pointer (some ⟨rb, o + 7, none⟩), .pointer (some ⟨rb, o + 8, none⟩)].toList = (List.range 8).map fun i => Value.pointer (some ⟨rb, o + 1 + i, none⟩) := by
  simp [List.range_succ, Nat.add_assoc]