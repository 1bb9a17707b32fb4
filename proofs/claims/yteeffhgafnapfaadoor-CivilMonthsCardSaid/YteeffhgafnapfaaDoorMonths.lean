/-
  CivilMonths, walked.
-/
import Derived.Test.YteeffhgafnapfaaDoorLaw
namespace Go.Proofs.YteeffhgafnapfaaDoor
open Go.RowKit Cal

namespace Cal
theorem vld_one {y m : Int} (h1 : 1 ≤ y) (h2 : y ≤ 9999) (h3 : 1 ≤ m) (h4 : m ≤ 12) : vldB y m 1 = true := by
  have := len_28 y m h3 h4
  rw [vld_iff]; omega
theorem num_month {y m : Int} (h3 : 1 ≤ m) (h4 : m ≤ 12) : num y (m + 1) 1 = num y m 1 + len y m := by
  have := cum_succ y m h3 h4
  unfold num; omega
theorem num_year (y : Int) : num (y + 1) 1 1 = num y 12 1 + len y 12 := by
  have a := cum_succ y 12 (by omega) (by omega)
  rw [show (12 : Int) + 1 = 13 from rfl, cum_13] at a
  have b := dby_succ y
  unfold num; rw [cum_one]; omega
theorem vld_over {y m : Int} : vldB y m (len y m + 1) = false := by
  rw [Bool.eq_false_iff, Ne, vld_iff]; omega
theorem feb (y : Int) : (len y 2 == 29) = leapB y := by
  unfold len
  cases leapB y <;> simp
end Cal

set_option maxRecDepth 100000 in
set_option maxHeartbeats 2000000 in
theorem months_any (a b : Int) (w : World) (hT : Tab w) : Calls Tryd.prog 8 #[.int .i64 a, .int .i64 b] w fun e w' => e = .returned (.bool true) ∧ Turn [] w w' := by
  have HT := hide hT
  clear hT
  obtain ⟨y, hy⟩ : ∃ y, y = 1 + a % 9990 := ⟨_, rfl⟩
  obtain ⟨m, hm⟩ : ∃ m, m = 1 + b % 12 := ⟨_, rfl⟩
  have hy1 : 1 ≤ y := by omega
  have hy2 : y ≤ 9990 := by omega
  have hm1 : 1 ≤ m := by omega
  have hm2 : m ≤ 12 := by omega
  have HY := hide hy
  have HM := hide hm
  have hb1 := num_bd (vld_one hy1 (by omega) hm1 hm2)
  have hl31 := len_bd y m
  have hl28 := len_28 y m hm1 hm2
  have HF := hide (feb y)
  clear hy hm
  go_enter Tryd.func8, Tryd.ntmps8
  go_wp2_with fail
  refine (known_any _ HT.out).mono ?_
  rintro e w1 ⟨rfl, hT1⟩
  have HT1 := hide hT1
  clear hT1
  go_wp2_with fail
  refine (within_any _ _ _ (by omega) (by omega)).mono ?_
  rintro e w1' ⟨rfl, rfl⟩
  have hm0 : 0 ≤ a % 9990 := by omega
  have hm9 : a % 9990 < 9990 := by omega
  go_wp2_with fail
  refine (within_any _ _ _ (by omega) (by omega)).mono ?_
  rintro e w1' ⟨rfl, rfl⟩
  have hm0' : 0 ≤ b % 12 := by omega
  have hm9' : b % 12 < 12 := by omega
  go_wp2_with fail
  rw [← HY.out, ← HM.out]
  clear hm0 hm9 hm0' hm9'
  refine (number_at (vld_one hy1 (by omega) hm1 hm2) rfl _ (HT.out.turn HT1.out)).mono ?_
  rintro e w2 ⟨rfl, hT2⟩
  have HT2 := hide (HT1.out.trans hT2)
  clear hT2 HT1
  have hk : w.heap.size ≤ w2.heap.size := HT2.out.size
  by_cases h12 : m = 12
  · subst h12
    have HN := hide (num_year y)
    go_wp2_with fail
    refine (number_at (vld_one (by omega) (by omega) (by omega) (by omega)) HN.out _ ?_).mono ?_
    · exact HT.out.turn (HT2.out.alloc _)
    rintro e w3 ⟨rfl, hT3⟩
    have HT3 := hide ((HT2.out.alloc _).trans hT3)
    clear hT3 HT2
    go_wp2_with fail
    refine (length_any _ _ _ (HT.out.turn HT3.out)).mono ?_
    rintro e w3' ⟨rfl, rfl⟩
    go_wp2_with fail
    refine (number_no _ _ _ _ (HT.out.turn HT3.out) vld_over).mono ?_
    rintro e w4 ⟨rfl, hT4⟩
    have HT4 := hide (HT3.out.trans hT4)
    clear hT4 HT3
    have e1 : num y 12 1 + len y 12 - num y 12 1 = len y 12 := by omega
    have e2 : decide (28 ≤ len y 12) = true := by simp; omega
    have e3 : decide (len y 12 ≤ 31) = true := by simp; omega
    go_wp2_with fail
    refine (length_any _ _ _ (HT.out.turn HT4.out)).mono ?_
    rintro e w3' ⟨rfl, rfl⟩
    go_wp2_with fail
    refine (leap_any _ _).mono ?_
    rintro e w3' ⟨rfl, rfl⟩
    go_wp2_with fail
    go_ret
    exact ⟨by simp [HF.out], HT4.out⟩
  · have hm : m < 12 := by omega
    have h12' : (m == 12) = false := by simpa using h12
    have HN := hide (num_month (y := y) hm1 hm2)
    go_wp2_with fail
    refine (number_at (vld_one (by omega) (by omega) (by omega) (by omega)) HN.out _ ?_).mono ?_
    · exact HT.out.turn (HT2.out.alloc _)
    rintro e w3 ⟨rfl, hT3⟩
    have HT3 := hide ((HT2.out.alloc _).trans hT3)
    clear hT3 HT2
    go_wp2_with fail
    refine (length_any _ _ _ (HT.out.turn HT3.out)).mono ?_
    rintro e w3' ⟨rfl, rfl⟩
    go_wp2_with fail
    refine (number_no _ _ _ _ (HT.out.turn HT3.out) vld_over).mono ?_
    rintro e w4 ⟨rfl, hT4⟩
    have HT4 := hide (HT3.out.trans hT4)
    clear hT4 HT3
    have e1 : num y m 1 + len y m - num y m 1 = len y m := by omega
    have e2 : decide (28 ≤ len y m) = true := by simp; omega
    have e3 : decide (len y m ≤ 31) = true := by simp; omega
    go_wp2_with fail
    refine (length_any _ _ _ (HT.out.turn HT4.out)).mono ?_
    rintro e w3' ⟨rfl, rfl⟩
    go_wp2_with fail
    refine (leap_any _ _).mono ?_
    rintro e w3' ⟨rfl, rfl⟩
    go_wp2_with fail
    go_ret
    exact ⟨by simp [HF.out], HT4.out⟩
end Go.Proofs.YteeffhgafnapfaaDoor
