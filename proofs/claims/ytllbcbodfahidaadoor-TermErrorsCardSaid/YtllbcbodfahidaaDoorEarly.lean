/-
  Days that are neither early nor late, between their bounds.
-/
import Derived.Test.YtllbcbodfahidaaDoorTerm4
namespace Go.Proofs.YtllbcbodfahidaaDoor
open Go.RowKit Cal

namespace Cal
theorem iv_early {a n : Int} (h1 : 1 ≤ a) (h0 : 0 ≤ n) (hn : n < 2902000) : ∃ t : Int, 12 ≤ t ∧ t < 119900 ∧ B a t ≤ n ∧ n < B a (t + 1) := by
  obtain ⟨t, t1, t2, b1, b2⟩ := iv_of a h1 (show -719162 ≤ n by omega) (by omega)
  refine ⟨t, ?_, ?_, b1, b2⟩
  · rcases Int.lt_or_le t 12 with h | h
    · have x := FM_mono (s := t + 1) (t := 12) (by omega)
      have y := bd_bd a (t + 1) h1
      have z := LM_bd (t + 1)
      rw [FM_first] at x
      unfold B at b2
      omega
    · exact h
  · rcases Int.lt_or_le t 119900 with h | h
    · exact h
    · have x := FM_mono (s := 119900) (t := t) h
      rw [show FM 119900 = 2929853 by decide] at x
      have y := bd_bd a t h1
      unfold B at b1
      omega
theorem B_up_n (a t : Int) : ∀ n : Nat, B a (t + n) ≤ B a t + 31 * n
  | 0 => by simp
  | n + 1 => by
    have x := B_up_n a t n
    have b := B_step a (t + n)
    rw [show t + ((n + 1 : Nat) : Int) = t + n + 1 by omega]
    omega
theorem B_lt_of {a s t : Int} (h : B a s < B a t) : s < t := by
  rcases Int.lt_or_le s t with h' | h'
  · exact h'
  · have := B_mono a h'; omega
end Cal

end Go.Proofs.YtllbcbodfahidaaDoor
