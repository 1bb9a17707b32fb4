/-
  CivilYears and CivilMonths, walked.
-/
import Derived.Test.YteeffhgafnapfaaDoorLaw
namespace Go.Proofs.YteeffhgafnapfaaDoor
open Go.RowKit Cal

namespace Cal
theorem vld_first {y m : Int} (h1 : 1 ≤ y) (h2 : y ≤ 9999) (h3 : 1 ≤ m) (h4 : m ≤ 12) : vldB y m 1 = true := by
  have := len_28 y m h3 h4
  rw [vld_iff]; omega
theorem num_first (y : Int) : num y 1 1 = dby y - 719162 := by unfold num; rw [cum_one]; omega
theorem lp_if (y : Int) : 365 + lp y = if leapB y then 366 else 365 := by unfold lp; split <;> omega
end Cal

set_option maxRecDepth 100000 in
set_option maxHeartbeats 2000000 in
theorem years_any (a : Int) (w : World) (hT : Tab w) : Calls Tryd.prog 5 #[.int .i64 a] w fun e w' => e = .returned (.bool true) ∧ Turn [] w w' := by
  have HT := hide hT
  clear hT
  obtain ⟨y, hy⟩ : ∃ y, y = 1 + a % 9500 := ⟨_, rfl⟩
  have hy1 : 1 ≤ y := by omega
  have hy2 : y ≤ 9500 := by omega
  have HY := hide hy
  clear hy
  go_enter Tryd.func5, Tryd.ntmps5
  go_wp2_with fail
  refine (known_any _ HT.out).mono ?_
  rintro e w1 ⟨rfl, hT1⟩
  have HT1 := hide hT1
  clear hT1
  go_wp2_with fail
  refine (within_any _ _ _ (by omega) (by omega)).mono ?_
  rintro e w1' ⟨rfl, rfl⟩
  have hm0 : 0 ≤ a % 9500 := by omega
  have hm9 : a % 9500 < 9500 := by omega
  go_wp2_with fail
  rw [← HY.out]
  clear hm0 hm9
  refine (number_at (vld_first hy1 (by omega) (by omega) (by omega)) (num_first y) _ (HT.out.turn HT1.out)).mono ?_
  rintro e w2 ⟨rfl, hT2⟩
  have HT2 := hide (HT1.out.trans hT2)
  clear hT2 HT1
  go_wp2_with fail
  refine (number_at (vld_first (by omega) (by omega) (by omega) (by omega)) (num_first (y + 1)) _ (HT.out.turn HT2.out)).mono ?_
  rintro e w3 ⟨rfl, hT3⟩
  have HT3 := hide (HT2.out.trans hT3)
  clear hT3 HT2
  go_wp2_with fail
  refine (number_at (vld_first (by omega) (by omega) (by omega) (by omega)) (num_first (y + 400)) _ (HT.out.turn HT3.out)).mono ?_
  rintro e w4 ⟨rfl, hT4⟩
  have HT4 := hide (HT3.out.trans hT4)
  have HB4 := hide (HT.out.turn HT4.out)
  clear hT4 HT3
  have HS := hide (dby_succ y)
  have H4 := hide (dby_400 y)
  have HL := hide (lp_if y)
  have HZ := hide (cum_13 y)
  have b1 := dby_bd y (by omega) (by omega)
  have b2 := dby_bd (y + 1) (by omega) (by omega)
  have b3 := dby_bd (y + 400) (by omega) (by omega)
  by_cases hl : leapB y = true
  all_goals
    go_wp2_with (go_at_call 14; refine (leap_any _ _).mono ?_; rintro e w' ⟨rfl, rfl⟩)
    go_loop [10, 11] (fun s i => ∃ k : Int, 1 ≤ k ∧ k ≤ 13 ∧ i = .int .i64 k ∧ s = .int .i64 (cum y k)) (fun _ i => (14 - intOf i).toNat)
    case atStart => exact ⟨1, by omega, by omega, rfl, by rw [cum_one]⟩
    case round =>
      obtain ⟨k, hk1, hk2, rfl, rfl⟩ := hrel
      have cb := cum_bd y k hk1 hk2
      have lb := len_bd y k
      by_cases hlt : k ≤ 12
      · have HC := hide (cum_succ y k hk1 hlt)
        go_wp2_with (go_at_call 16; refine (length_any _ _ _ HB4.out).mono ?_; rintro e w' ⟨rfl, rfl⟩)
        go_round
        case rel => exact ⟨k + 1, by omega, by omega, rfl, by rw [HC.out]⟩
        case measure => simp [intOf]; omega
      · obtain rfl : k = 13 := by omega
        have e1 : dby (y + 1) - 719162 - (dby y - 719162) = cum y 13 := by rw [HS.out, HZ.out]; omega
        have e2 : dby (y + 400) - 719162 - (dby y - 719162) = 146097 := by rw [H4.out]; omega
        have e3 : cum y 13 = if leapB y then 366 else 365 := by rw [HZ.out, HL.out]
        simp only [hl, if_true] at e3
        rw [e3] at e1
        go_wp2_with fail
        go_ret
        exact ⟨by simp, HT4.out⟩
end Go.Proofs.YteeffhgafnapfaaDoor
