/-
  EncodeRequest of the frame, and the example, walked.
-/
import Derived.Test.YtmmbckchaklhaaaFOf
import Derived.Deep.Cut
namespace Go.Proofs.Ytmmbckchaklhaaa
open Go.RowKit

theorem isK_cases {K : Int} (h : isK K) {P : Int → Prop} (h1 : P 1) (h4 : P 4) (h2 : P 2) (h3 : P 3) (h5 : P 5) (h16 : P 16) (h17 : P 17) (h18 : P 18) (h19 : P 19) (h20 : P 20) : P K := by
  rcases h with rfl | rfl | rfl | rfl | rfl | rfl | rfl | rfl | rfl | rfl <;> assumption

/-- What EncodeRequest answers: bytes of the call's own, or a fault. -/
structure EncP (w w' : World) (s : Sx) (v : Value) : Prop where
  own : s.e = 0 → w'.ownsRow w.heap.size 5 1 v s.l.length (s.l.map byteCell)
  no : s.e ≠ 0 → v = .slice none 0 0
  old : Turn [] w w'

end Go.Proofs.Ytmmbckchaklhaaa
