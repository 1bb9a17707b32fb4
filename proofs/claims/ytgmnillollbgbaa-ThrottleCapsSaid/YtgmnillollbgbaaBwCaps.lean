/-
  ThrottleCaps, walked.
-/
import Derived.Test.YtgmnillollbgbaaBwSets
namespace Go.Proofs.Ytgmnillollbgbaa.Th
open Go.RowKit Go.Maps

set_option maxRecDepth 100000 in
set_option maxHeartbeats 8000000 in
theorem caps_any (bu ra wa : Int) (w : World) : Calls Try.prog 6 #[.int .i64 bu, .int .i64 ra, .int .i64 wa] w fun e w' => e = .returned (.bool true) ∧ Turn [] w w' := by
  go_enter Try.func6, Try.ntmps6
  go_wp2_with fail
  refine (known_any w).mono ?_
  rintro e w1 ⟨rfl, hT1⟩
  have HT1 := hide hT1
  clear hT1
  go_wp2_with fail
  refine (within_any bu 300 _ (by omega) (by omega)).mono ?_
  rintro e w2 ⟨rfl, rfl⟩
  have h1 := mod_bd bu 300 (by omega)
  generalize bu % 300 = u at *
  go_wp2_with fail
  refine (within_any ra 50 _ (by omega) (by omega)).mono ?_
  rintro e w3 ⟨rfl, rfl⟩
  have h2 := mod_bd ra 50 (by omega)
  generalize ra % 50 = r at *
  go_wp2_with fail
  refine (within_any wa 1000000 _ (by omega) (by omega)).mono ?_
  rintro e w4 ⟨rfl, rfl⟩
  have h3 := mod_bd wa 1000000 (by omega)
  generalize wa % 1000000 = q at *
  go_wp2_with fail
  refine (new_any (1 + u) (1 + r) 0 w4).mono ?_
  rintro e w5 ⟨g, rfl, hg, hA5, hT5⟩
  have HA5 := hide hA5
  have HT5 := hide (HT1.out.trans hT5)
  have HG : Hid (w.heap.size ≤ g) := Nat.le_trans HT1.out.size hg
  clear hA5 hT5 hg HT1
  have hm : 300 ≤ (300 + q) * (1 + r) := by
    have := Int.mul_le_mul (a := 300) (b := 1) (c := 300 + q) (d := 1 + r) (by omega) (by omega) (by omega) (by omega)
    omega
  have hto : (⟨1 + u, 1 + r, 0, 0⟩ : Bk).to (300 + q) = ⟨1 + u, 1 + r, 300 + q, 1 + u⟩ := by
    rw [to_eq (by simp only; omega) (by simp only; omega)]
    simp only
    rw [Int.sub_zero, Int.zero_add]
    congr 1
    omega
  have HTo := hide hto
  clear hm hto
  go_wp2_with fail
  refine (has_any (300 + q) (ok_of (by omega) (by omega) (by omega) (by omega) (by omega) (by omega) (by omega) (by omega)) (by omega) (by omega) HA5.out).mono ?_
  rintro e w6 ⟨rfl, hA6, hT6⟩
  rw [HTo.out] at hA6
  rw [HTo.out]
  simp only
  have HA6 := hide hA6
  have HT6 := hide (Turn_new HT5.out HG.out hT6)
  clear hA6 hT6 HT5 HA5 HTo
  go_wp2_with fail
  go_loopw [8] (fun i wr => ∃ (k : Nat), (k : Int) ≤ 1 + u ∧ i = .int .i64 (k : Int) ∧ Hid (BkAt wr g ⟨1 + u, 1 + r, 300 + q, 1 + u - k⟩) ∧ Turn [] w wr) (fun i _ => 301 - (intOf i).toNat)
  case atStart => exact ⟨0, by simp; omega, rfl, by simpa using HA6, HT6.out⟩
  case round =>
    obtain ⟨k, hk, rfl, HB, hT⟩ := hrel
    have HT := hide hT
    clear hT HA6 HT6
    have hgw := HB.out.lt
    have HOk := hide (ok_of (u := 1 + u) (v := 1 + r) (n := 300 + q) (x := 1 + u - k) (by omega) (by omega) (by omega) (by omega) (by omega) (by omega) (by omega) (by omega))
    by_cases hlt : (k : Int) < 1 + u
    · go_wp2_with fail
      refine (pass_any (300 + q) HOk.out (by omega) (by omega) HB.out).mono ?_
      rintro e w8 ⟨rfl, hB8, hT8⟩
      rw [to_le (by simp only; omega)]
      unfold Bk.pass at hB8
      rw [to_le (by simp only; omega), if_neg (by simp only; omega)] at hB8
      unfold Bk.less at hB8
      simp only at hB8
      simp only
      rw [decide_eq_true (show 1 ≤ 1 + u - (k : Int) by omega)]
      have HB8 : Hid (BkAt w8 g ⟨1 + u, 1 + r, 300 + q, 1 + u - ((k + 1 : Nat) : Int)⟩) := by
        rw [show 1 + u - ((k + 1 : Nat) : Int) = 1 + u - (k : Int) - 1 by omega]
        exact hB8
      have HT8 := hide (Turn_new HT.out HG.out hT8)
      clear hB8 hT8
      go_wp2_with fail
      go_roundw
      case rel => exact ⟨k + 1, by omega, by go_num, HB8, HT8.out⟩
      case measure => simp [intOf]; omega
    · have hku : 1 + u - (k : Int) = 0 := by omega
      rw [hku] at HB HOk
      clear hku
      by_cases hru : 1 + u ≤ 1 + r
      all_goals
        go_wp2_with fail
        refine (pass_any (300 + q) HOk.out (by omega) (by omega) HB.out).mono ?_
        rintro e w8 ⟨rfl, hB8, hT8⟩
        rw [to_le (by simp only; omega)]
        unfold Bk.pass at hB8
        rw [to_le (by simp only; omega), if_pos (by simp only; omega)] at hB8
        simp only
        rw [decide_eq_false (show ¬ (1 : Int) ≤ 0 by omega)]
        have HB8 := hide hB8
        have HT8 := hide (Turn_new HT.out HG.out hT8)
        clear hB8 hT8
        go_wp2_with fail
        refine (has_any (300 + q + 1) HOk.out (by omega) (by omega) HB8.out).mono ?_
        rintro e w9 ⟨rfl, hA9, hT9⟩
        rw [to_eq (by simp only; omega) (by simp only; omega)]
        simp only
        rw [show (0 : Int) + (300 + q + 1 - (300 + q)) * (1 + r) = 1 + r by rw [show 300 + q + 1 - (300 + q) = 1 by omega, Int.one_mul, Int.zero_add]]
        have HT9 := hide (Turn_new HT8.out HG.out hT9)
        clear hA9 hT9
        go_wp2_with fail
        all_goals
          go_ret
          refine ⟨ret_bool ?_, HT9.out⟩
          first | rfl | (apply decide_eq_true; omega) | (simp; omega)

end Go.Proofs.Ytgmnillollbgbaa.Th
