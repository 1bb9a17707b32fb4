/-
  TermShares, walked.
-/
import Derived.Test.YtllbcbodfahidaaDoorKnown8
namespace Go.Proofs.YtllbcbodfahidaaDoor
open Go.RowKit Cal

namespace Cal
theorem sh_zero (n q : Int) : n * 0 / q = 0 := by simp
theorem sh_all (n q : Int) (h : 1 ≤ q) : n * q / q = n := Int.mul_ediv_cancel n (by omega)
theorem sh_le (n p q : Int) (h0 : 0 ≤ n) (h : 1 ≤ q) (hp : p ≤ q) : n * p / q ≤ n := by
  have a : n * p ≤ n * q := Int.mul_le_mul_of_nonneg_left hp h0
  have b := Int.ediv_le_ediv (show 0 < q by omega) a
  rwa [sh_all n q h] at b
theorem sh_nn (n p q : Int) (h0 : 0 ≤ n) (h : 1 ≤ q) (hp : 0 ≤ p) : 0 ≤ n * p / q := Int.ediv_nonneg (Int.mul_nonneg h0 hp) (by omega)
theorem sh_sum (n p q : Int) (h : 1 ≤ q) : n * p / q + n * (q - p) / q ≤ n ∧ n - 1 ≤ n * p / q + n * (q - p) / q := by
  have e : n * (q - p) = n * q - n * p := Int.mul_sub n q p
  have a1 := Int.mul_ediv_self_le (x := n * p) (k := q) (by omega)
  have a2 := Int.lt_mul_ediv_self_add (x := n * p) (k := q) (by omega)
  have b1 := Int.mul_ediv_self_le (x := n * (q - p)) (k := q) (by omega)
  have b2 := Int.lt_mul_ediv_self_add (x := n * (q - p)) (k := q) (by omega)
  generalize n * p / q = a at *
  generalize n * (q - p) / q = b at *
  have c : q * (a + b) = q * a + q * b := Int.mul_add q a b
  have c2 : q * (a + b + 2) = q * (a + b) + q * 2 := Int.mul_add q (a + b) 2
  have d : n * q = q * n := Int.mul_comm n q
  refine ⟨Int.le_of_mul_le_mul_left (a := q) (by omega) (by omega), ?_⟩
  have := Int.lt_of_mul_lt_mul_left (a := q) (b := n) (c := a + b + 2) (by omega) (by omega)
  omega
theorem sh_mono (n p p' q : Int) (h0 : 0 ≤ n) (h : 1 ≤ q) (hp : p ≤ p') : n * p / q ≤ n * p' / q := Int.ediv_le_ediv (by omega) (Int.mul_le_mul_of_nonneg_left hp h0)
theorem sh_mono2 (n n' p q : Int) (h0 : 0 ≤ p) (h : 1 ≤ q) (hn : n ≤ n') : n * p / q ≤ n' * p / q := Int.ediv_le_ediv (by omega) (Int.mul_le_mul_of_nonneg_right hn h0)
end Cal

set_option maxRecDepth 100000 in
set_option maxHeartbeats 2000000 in
theorem shares_any (a b c : Int) (w : World) (hT : Tab w) : Calls Tryd.prog 5 #[.int .i64 a, .int .i64 b, .int .i64 c] w fun e w' => e = .returned (.bool true) ∧ Turn [] w w' := by
  have HT := hide hT
  clear hT
  obtain ⟨n, hn⟩ : ∃ n, n = a % 1000000001 := ⟨_, rfl⟩
  obtain ⟨q, hq⟩ : ∃ n, n = c % 400 := ⟨_, rfl⟩
  have hn1 : 0 ≤ n ∧ n ≤ 1000000000 := by omega
  have hq1 : 0 ≤ q ∧ q < 400 := by omega
  obtain ⟨p, hp⟩ : ∃ n, n = b % (1 + q + 1) := ⟨_, rfl⟩
  have hp1 : 0 ≤ p ∧ p ≤ 1 + q := by
    have x := Int.emod_nonneg b (show 1 + q + 1 ≠ 0 by omega)
    have y := Int.emod_lt_of_pos b (show 0 < 1 + q + 1 by omega)
    omega
  have HN := hide hn
  have HP := hide hp
  have HQ := hide hq
  clear hn hp hq
  have z1 := sh_nn n p (1 + q) hn1.1 (by omega) (by omega)
  have z2 := sh_le n p (1 + q) hn1.1 (by omega) (by omega)
  have z3 := sh_nn n (1 + q - p) (1 + q) hn1.1 (by omega) (by omega)
  have z4 := sh_le n (1 + q - p) (1 + q) hn1.1 (by omega) (by omega)
  have ZS := hide (sh_sum n p (1 + q) (by omega))
  have Z0 := hide (sh_zero n (1 + q))
  have ZA := hide (sh_all n (1 + q) (by omega))
  go_enter Tryd.func5, Tryd.ntmps5
  go_wp2_with fail
  refine (known_any _ HT.out).mono ?_
  rintro e w1 ⟨rfl, hT1⟩
  have HT1 := hide hT1
  clear hT1
  go_wp2_with fail
  refine (within_any _ _ _ (by omega) (by omega)).mono ?_
  rintro e w1' ⟨rfl, rfl⟩
  rw [← HN.out]
  go_wp2_with fail
  refine (within_any _ _ _ (by omega) (by omega)).mono ?_
  rintro e w1' ⟨rfl, rfl⟩
  rw [← HQ.out]
  go_wp2_with fail
  refine (within_any _ _ _ (by omega) (by omega)).mono ?_
  rintro e w1' ⟨rfl, rfl⟩
  rw [← HP.out]
  go_wp2_with fail
  refine (share_any _ _ _ _ (by omega) (by omega) (by omega) (by omega) (by omega)).mono ?_
  rintro e w1' ⟨rfl, rfl⟩
  go_wp2_with fail
  refine (share_any _ _ _ _ (by omega) (by omega) (by omega) (by omega) (by omega)).mono ?_
  rintro e w1' ⟨rfl, rfl⟩
  go_wp2_with fail
  refine (rshare_any _ _ _ _ (by omega) (by omega) (by omega) (by omega) (by omega)).mono ?_
  rintro e w1' ⟨rfl, rfl⟩
  go_wp2_with fail
  refine (share_any _ _ _ _ (by omega) (by omega) (by omega) (by omega) (by omega)).mono ?_
  rintro e w1' ⟨rfl, rfl⟩
  rw [Z0.out]
  go_wp2_with fail
  refine (share_any _ _ _ _ (by omega) (by omega) (by omega) (by omega) (by omega)).mono ?_
  rintro e w1' ⟨rfl, rfl⟩
  rw [ZA.out]
  generalize n * p / (1 + q) = x at *
  generalize n * (1 + q - p) / (1 + q) = y at *
  have zs := ZS.out
  go_wp2
  go_ret
  exact ⟨rfl, HT1.out⟩

end Go.Proofs.YtllbcbodfahidaaDoor
