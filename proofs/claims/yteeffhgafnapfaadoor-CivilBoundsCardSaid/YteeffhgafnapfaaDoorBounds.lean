/-
  CivilBounds, walked.
-/
import Derived.Test.YteeffhgafnapfaaDoorLaw
namespace Go.Proofs.YteeffhgafnapfaaDoor
open Go.RowKit Cal

set_option maxRecDepth 100000 in
set_option maxHeartbeats 2000000 in
theorem bounds_any (a b c d : Int) (w : World) (hT : Tab w) : Calls Tryd.prog 7 #[.int .i64 a, .int .i64 b, .int .i64 c, .int .i64 d] w fun e w' => e = .returned (.bool true) ∧ Turn [] w w' := by
  have HT := hide hT
  clear hT
  obtain ⟨n, hn⟩ : ∃ n, n = 1 + a % 1099511627776 := ⟨_, rfl⟩
  obtain ⟨y, hy⟩ : ∃ y, y = 1 + b % 9999 := ⟨_, rfl⟩
  obtain ⟨m, hm⟩ : ∃ m, m = c % 15 := ⟨_, rfl⟩
  obtain ⟨k, hk⟩ : ∃ m, m = d % 34 := ⟨_, rfl⟩
  have hn1 : 1 ≤ n ∧ n ≤ 1099511627776 := by omega
  have hy1 : 1 ≤ y ∧ y ≤ 9999 := by omega
  have hm1 : 0 ≤ m ∧ m ≤ 14 := by omega
  have hk1 : 0 ≤ k ∧ k ≤ 33 := by omega
  have HN := hide hn
  have HY := hide hy
  have HM := hide hm
  have HK := hide hk
  clear hn hy hm hk
  go_enter Tryd.func7, Tryd.ntmps7
  go_wp2_with fail
  refine (known_any _ HT.out).mono ?_
  rintro e w1 ⟨rfl, hT1⟩
  have HT1 := hide hT1
  clear hT1
  go_wp2_with fail
  refine (number_at (y := 1) (m := 1) (d := 1) (n := -719162) (by decide) (by decide) _ (HT.out.turn HT1.out)).mono ?_
  rintro e w2 ⟨rfl, hT2⟩
  have HT2 := hide (HT1.out.trans hT2)
  clear hT2 HT1
  go_wp2_with fail
  refine (number_at (y := 9999) (m := 12) (d := 31) (n := 2932896) (by decide) (by decide) _ (HT.out.turn HT2.out)).mono ?_
  rintro e w3 ⟨rfl, hT3⟩
  have HT3 := hide (HT2.out.trans hT3)
  clear hT3 HT2
  go_wp2_with fail
  refine (within_any _ _ _ (by omega) (by omega)).mono ?_
  rintro e w1' ⟨rfl, rfl⟩
  have hm0 : 0 ≤ a % 1099511627776 := by omega
  have hm9 : a % 1099511627776 < 1099511627776 := by omega
  go_wp2_with fail
  rw [← HN.out]
  clear hm0 hm9
  refine (of_no (-719162 - n) _ (by omega)).mono ?_
  rintro e w4 ⟨rfl, hT4⟩
  have HT4 := hide ((HT3.out.trans hT4).alloc (.cells #[.int .i64 0, .int .i64 0, .int .i64 0] 23))
  clear hT4 HT3
  go_wp2_with fail
  generalize w4.alloc (.cells #[.int .i64 0, .int .i64 0, .int .i64 0] 23) = w5 at *
  generalize w4.heap.size = g4 at *
  refine (of_no (2932896 + n) _ (by omega)).mono ?_
  rintro e w6 ⟨rfl, hT6⟩
  have HT6 := hide ((HT4.out.trans hT6).alloc (.cells #[.int .i64 0, .int .i64 0, .int .i64 0] 23))
  clear hT6 HT4
  go_wp2_with fail
  generalize w6.alloc (.cells #[.int .i64 0, .int .i64 0, .int .i64 0] 23) = w7 at *
  generalize w6.heap.size = g6 at *
  refine (of_at (y := 1) (m := 1) (d := 1) (n := -719162) (by decide) (by decide) _ (HT.out.turn HT6.out)).mono ?_
  rintro e w8 ⟨rfl, hT8⟩
  have HT8 := hide ((HT6.out.trans hT8).alloc (.cells #[.int .i64 1, .int .i64 1, .int .i64 1] 23))
  clear hT8 HT6
  go_wp2_with fail
  generalize w8.alloc (.cells #[.int .i64 1, .int .i64 1, .int .i64 1] 23) = w9 at *
  generalize w8.heap.size = g8 at *
  refine (of_at (y := 9999) (m := 12) (d := 31) (n := 2932896) (by decide) (by decide) _ (HT.out.turn HT8.out)).mono ?_
  rintro e w10 ⟨rfl, hT10⟩
  have HT10 := hide ((HT8.out.trans hT10).alloc (.cells #[.int .i64 9999, .int .i64 12, .int .i64 31] 23))
  clear hT10 HT8
  go_wp2_with fail
  generalize w10.alloc (.cells #[.int .i64 9999, .int .i64 12, .int .i64 31] 23) = w11 at *
  generalize w10.heap.size = g10 at *
  refine (within_any _ _ _ (by omega) (by omega)).mono ?_
  rintro e w1' ⟨rfl, rfl⟩
  have hm0 : 0 ≤ b % 9999 := by omega
  have hm9 : b % 9999 < 9999 := by omega
  go_wp2_with fail
  refine (within_any _ _ _ (by omega) (by omega)).mono ?_
  rintro e w1' ⟨rfl, rfl⟩
  go_wp2_with fail
  refine (within_any _ _ _ (by omega) (by omega)).mono ?_
  rintro e w1' ⟨rfl, rfl⟩
  go_wp2_with fail
  rw [← HY.out, ← HM.out, ← HK.out]
  clear hm0 hm9 HY HM HK HN
  by_cases hv : vldB y m k = true
  · obtain ⟨-, hk2, hk3⟩ := vld_iff.1 hv
    refine (number_yes _ _ _ _ (HT.out.turn HT10.out) hv).mono ?_
    rintro e w12 ⟨rfl, hT12⟩
    have HT12 := hide (HT10.out.trans hT12)
    have HB := hide (HT.out.turn HT12.out)
    have d1 : decide (1 ≤ k) = true := by simpa using hk2
    have d2 : decide (k ≤ len y m) = true := by simpa using hk3
    clear hT12 HT10 hv
    go_wp2_with (go_at_call 16; refine (length_any _ _ _ HB.out).mono ?_; rintro e w' ⟨rfl, rfl⟩)
    go_ret
    exact ⟨by simp, HT12.out⟩
  · have hv' : vldB y m k = false := by simpa using hv
    rw [vld_iff] at hv
    refine (number_no _ _ _ _ (HT.out.turn HT10.out) hv').mono ?_
    rintro e w12 ⟨rfl, hT12⟩
    have HT12 := hide (HT10.out.trans hT12)
    have HB := hide (HT.out.turn HT12.out)
    clear hT12 HT10 hv'
    by_cases hk2 : 1 ≤ k
    · have d1 : decide (1 ≤ k) = true := by simpa using hk2
      have d2 : decide (k ≤ len y m) = false := by simp; omega
      go_wp2_with (go_at_call 16; refine (length_any _ _ _ HB.out).mono ?_; rintro e w' ⟨rfl, rfl⟩)
      go_ret
      exact ⟨by simp, HT12.out⟩
    · have d1 : decide (1 ≤ k) = false := by simpa using hk2
      go_wp2_with (go_at_call 16; refine (length_any _ _ _ HB.out).mono ?_; rintro e w' ⟨rfl, rfl⟩)
      go_ret
      exact ⟨by simp, HT12.out⟩
end Go.Proofs.YteeffhgafnapfaaDoor
