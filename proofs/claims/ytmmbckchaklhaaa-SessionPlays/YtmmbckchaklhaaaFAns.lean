/-
  Answers of the frame: written, walked.
-/
import Derived.Test.YtmmbckchaklhaaaFEnc
import Derived.Test.YtmmbckchaklhaaaQRS
import Derived.Test.YtmmbckchaklhaaaFFrame
namespace Go.Proofs.Ytmmbckchaklhaaa
open Go.RowKit

theorem awC_len (a : Aw) : (awC a).length = 13 := rfl

theorem awC_one (a : Aw) : ∀ v ∈ awC a, v.oneCell' = true := by
  intro v hv
  simp only [awC, List.mem_cons, List.not_mem_nil, or_false] at hv
  rcases hv with rfl | rfl | rfl | rfl | rfl | rfl | rfl | rfl | rfl | rfl | rfl | rfl | rfl <;> rfl

/-- An answer's bytes. -/
def awB (a : Aw) : List Nat := ansBy a.er.toNat [a.l1, a.l2, a.l3] a.nm [a.z1, a.z2, a.z3, a.z4, a.z5, a.z6, a.z7, a.z8]

/-- It can be written. -/
def Aw.Ok (a : Aw) : Prop := 0 ≤ a.er ∧ a.er ≤ 255 ∧ a.nm.size ≤ 255

end Go.Proofs.Ytmmbckchaklhaaa
