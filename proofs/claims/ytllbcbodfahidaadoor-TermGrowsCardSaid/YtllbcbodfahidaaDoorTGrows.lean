/-
  TermGrows, walked.
-/
import Derived.Test.YtllbcbodfahidaaDoorTShares
namespace Go.Proofs.YtllbcbodfahidaaDoor
open Go.RowKit Cal

set_option maxRecDepth 100000 in
set_option maxHeartbeats 2000000 in
theorem grows_any (a b c d : Int) (w : World) (hT : Tab w) : Calls Tryd.prog 8 #[.int .i64 a, .int .i64 b, .int .i64 c, .int .i64 d] w fun e w' => e = .returned (.bool true) ∧ Turn [] w w' := by
  have HT := hide hT
  clear hT
  obtain ⟨n, hn⟩ : ∃ n, n = a % 1000000000 := ⟨_, rfl⟩
  obtain ⟨q, hq⟩ : ∃ n, n = c % 400 := ⟨_, rfl⟩
  have hn1 : 0 ≤ n ∧ n < 1000000000 := by omega
  have hq1 : 0 ≤ q ∧ q < 400 := by omega
  obtain ⟨p, hp⟩ : ∃ n, n = b % (1 + q) := ⟨_, rfl⟩
  have hp1 : 0 ≤ p ∧ p < 1 + q := by
    have x := Int.emod_nonneg b (show 1 + q ≠ 0 by omega)
    have y := Int.emod_lt_of_pos b (show 0 < 1 + q by omega)
    omega
  obtain ⟨m, hm⟩ : ∃ m, m = d % (1000000000 - n + 1) := ⟨_, rfl⟩
  have hm1 : 0 ≤ m ∧ m ≤ 1000000000 - n := by
    have x := Int.emod_nonneg d (show 1000000000 - n + 1 ≠ 0 by omega)
    have y := Int.emod_lt_of_pos d (show 0 < 1000000000 - n + 1 by omega)
    omega
  have HN := hide hn
  have HP := hide hp
  have HQ := hide hq
  have HM := hide hm
  clear hn hp hq hm
  have z1 := sh_mono n p (p + 1) (1 + q) hn1.1 (by omega) (by omega)
  have z2 := sh_mono2 n (n + m) p (1 + q) hp1.1 (by omega) (by omega)
  have z3 := sh_le n p (1 + q) hn1.1 (by omega) (by omega)
  go_enter Tryd.func8, Tryd.ntmps8
  go_wp2_with fail
  refine (known_any _ HT.out).mono ?_
  rintro e w1 ⟨rfl, hT1⟩
  have HT1 := hide hT1
  clear hT1
  go_wp2_with fail
  refine (within_any _ _ _ (by omega) (by omega)).mono ?_
  rintro e w1' ⟨rfl, rfl⟩
  rw [← HN.out]
  go_wp2_with fail
  refine (within_any _ _ _ (by omega) (by omega)).mono ?_
  rintro e w1' ⟨rfl, rfl⟩
  rw [← HQ.out]
  go_wp2_with fail
  refine (within_any _ _ _ (by omega) (by omega)).mono ?_
  rintro e w1' ⟨rfl, rfl⟩
  rw [← HP.out]
  go_wp2_with fail
  refine (within_any _ _ _ (by omega) (by omega)).mono ?_
  rintro e w1' ⟨rfl, rfl⟩
  rw [← HM.out]
  go_wp2_with fail
  refine (share_any _ _ _ _ (by omega) (by omega) (by omega) (by omega) (by omega)).mono ?_
  rintro e w1' ⟨rfl, rfl⟩
  go_wp2_with fail
  refine (share_any _ _ _ _ (by omega) (by omega) (by omega) (by omega) (by omega)).mono ?_
  rintro e w1' ⟨rfl, rfl⟩
  go_wp2_with fail
  refine (share_any _ _ _ _ (by omega) (by omega) (by omega) (by omega) (by omega)).mono ?_
  rintro e w1' ⟨rfl, rfl⟩
  go_wp2_with fail
  refine (share_any _ _ _ _ (by omega) (by omega) (by omega) (by omega) (by omega)).mono ?_
  rintro e w1' ⟨rfl, rfl⟩
  go_wp2_with fail
  refine (share_any _ _ _ _ (by omega) (by omega) (by omega) (by omega) (by omega)).mono ?_
  rintro e w1' ⟨rfl, rfl⟩
  generalize n * p / (1 + q) = x at *
  generalize n * (p + 1) / (1 + q) = y at *
  generalize (n + m) * p / (1 + q) = z at *
  go_wp2
  go_ret
  exact ⟨rfl, HT1.out⟩

end Go.Proofs.YtllbcbodfahidaaDoor
