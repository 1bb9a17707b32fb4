/-
  ThrottleBegins, walked.
-/
import Derived.Test.YtgmnillollbgbaaBwSets
namespace Go.Proofs.Ytgmnillollbgbaa.Th
open Go.RowKit Go.Maps

set_option maxRecDepth 100000 in
set_option maxHeartbeats 8000000 in
theorem begins_any (bu ra nw wa : Int) (w : World) : Calls Try.prog 5 #[.int .i64 bu, .int .i64 ra, .int .i64 nw, .int .i64 wa] w fun e w' => e = .returned (.bool true) ∧ Turn [] w w' := by
  go_enter Try.func5, Try.ntmps5
  go_wp2_with fail
  refine (known_any w).mono ?_
  rintro e w1 ⟨rfl, hT1⟩
  have HT1 := hide hT1
  clear hT1
  go_wp2_with fail
  refine (within_any bu 500 _ (by omega) (by omega)).mono ?_
  rintro e w2 ⟨rfl, rfl⟩
  have h1 := mod_bd bu 500 (by omega)
  generalize bu % 500 = u at *
  go_wp2_with fail
  refine (within_any ra 20 _ (by omega) (by omega)).mono ?_
  rintro e w3 ⟨rfl, rfl⟩
  have h2 := mod_bd ra 20 (by omega)
  generalize ra % 20 = r at *
  go_wp2_with fail
  refine (within_any nw 1000000 _ (by omega) (by omega)).mono ?_
  rintro e w4 ⟨rfl, rfl⟩
  have h3 := mod_bd nw 1000000 (by omega)
  generalize nw % 1000000 = n at *
  go_wp2_with fail
  refine (within_any wa 60 _ (by omega) (by omega)).mono ?_
  rintro e w4 ⟨rfl, rfl⟩
  have h4 := mod_bd wa 60 (by omega)
  generalize wa % 60 = q at *
  go_wp2_with fail
  refine (new_any (1 + u) r n w4).mono ?_
  rintro e w5 ⟨g, rfl, hg, hA5, hT5⟩
  have HA5 := hide hA5
  have HT5 := hide (HT1.out.trans hT5)
  have HG : Hid (w.heap.size ≤ g) := Nat.le_trans HT1.out.size hg
  have hgl5 := hA5.lt
  clear hA5 hT5 hg HT1
  obtain ⟨hm1, hm2⟩ := mul_bd2 h2.1 (Int.le_of_lt h2.2) h4.1 (Int.le_of_lt h4.2)
  have HOk := hide (ok_of (u := 1 + u) (v := r) (n := n) (x := 0) (by omega) (by omega) (by omega) (by omega) (by omega) (by omega) (by omega) (by omega))
  have hto : (⟨1 + u, r, n, 0⟩ : Bk).to (n + q) = ⟨1 + u, r, n + q, min (r * q) (1 + u)⟩ := by
    rw [to_eq (by simp only; omega) (by simp only; omega)]
    simp only
    rw [show (n + q - n : Int) = q by omega, Int.zero_add, Int.mul_comm q r]
  have hw : wrap64 (r * q) = r * q := by unfold wrap64; omega
  generalize hmq : r * q = m at hw hto hm1 hm2
  have hw2 : wrap64 (r * q) = m := by rw [hmq]; exact hw
  clear hw hmq
  obtain ⟨z, hz⟩ : ∃ z, z = min m (1 + u) := ⟨_, rfl⟩
  rw [← hz] at hto
  have HTo := hide hto
  have hz1 : (1 + u ≤ m ∧ 1 + u = z) ∨ (m < 1 + u ∧ m = z) := by omega
  have hz0 : 0 ≤ z := by omega
  have hz3 : z ≤ 1 + u := by omega
  have HZ := hide hz1
  have HW2 := hide hw2
  clear hz hto hz1 hw2
  go_wp2_with fail
  refine (pass_any n HOk.out (by omega) (by omega) HA5.out).mono ?_
  rintro e w6 ⟨rfl, hA6, hT6⟩
  unfold Bk.pass at hA6
  rw [to_le (by simp only; omega), if_pos (by simp only; omega)] at hA6
  rw [to_le (by simp only; omega)]
  simp only
  rw [decide_eq_false (show ¬ (1 : Int) ≤ 0 by omega)]
  have HA6 := hide hA6
  have HT6 := hide (Turn_new HT5.out HG.out hT6)
  have hgl6 := hA6.lt
  clear hA6 hT6 HT5 HA5
  go_wp2_with fail
  refine (has_any n HOk.out (by omega) (by omega) HA6.out).mono ?_
  rintro e w7 ⟨rfl, hA7, hT7⟩
  rw [to_le (by simp only; omega)] at hA7
  rw [to_le (by simp only; omega)]
  simp only
  have HA7 := hide hA7
  have HT7 := hide (Turn_new HT6.out HG.out hT7)
  clear hA7 hT7 HT6 HA6 hgl5 hgl6
  have hw2 := HW2.out
  rcases HZ.out with ⟨hz1, hz2⟩ | ⟨hz1, hz2⟩
  all_goals
    go_wp2_with fail
    (try rw [hw2])
    (try rw [hz2])
    clear hz1 hz2 hw2 HZ HW2 hm1 hm2
    go_loopw [11] (fun i wr => ∃ (k : Nat) (b : Bk), (k : Int) ≤ z ∧ i = .int .i64 (k : Int) ∧ Hid b.Ok ∧ Hid (b.to (n + q) = ⟨1 + u, r, n + q, z - k⟩) ∧ Hid (BkAt wr g b) ∧ Turn [] w wr) (fun i _ => 501 - (intOf i).toNat)
    case atStart => exact ⟨0, _, by simp; omega, rfl, HOk, by simpa using HTo, HA7, HT7.out⟩
    case round =>
      obtain ⟨k, b, hk, rfl, HOb, HE, HB, hT⟩ := hrel
      have HT := hide hT
      clear hT HA7 HT7 HOk
      have hgw := HB.out.lt
      by_cases hlt : (k : Int) < z
      · go_wp2_with fail
        refine (pass_any (n + q) HOb.out (by omega) (by omega) HB.out).mono ?_
        rintro e w8 ⟨rfl, hB8, hT8⟩
        have HOb8 := hide (HOb.out.pass (n := n + q) (by omega) (by omega))
        unfold Bk.pass at hB8 HOb8
        rw [HE.out, if_neg (by simp only; omega)] at hB8 HOb8
        rw [HE.out]
        unfold Bk.less at hB8 HOb8
        simp only at hB8 HOb8
        simp only
        rw [decide_eq_true (show 1 ≤ z - (k : Int) by omega)]
        have HB8 := hide hB8
        have HE8 : Hid ((⟨1 + u, r, n + q, z - (k : Int) - 1⟩ : Bk).to (n + q) = ⟨1 + u, r, n + q, z - ((k + 1 : Nat) : Int)⟩) := by
          unfold Hid
          rw [show z - ((k + 1 : Nat) : Int) = z - (k : Int) - 1 by omega, to_le (by simp only; omega)]
        have HT8 := hide (Turn_new HT.out HG.out hT8)
        clear hB8 hT8
        go_wp2_with fail
        go_roundw
        case rel => exact ⟨k + 1, _, by omega, by go_num, HOb8, HE8, HB8, HT8.out⟩
        case measure => simp [intOf]; omega
      · have hku : z - (k : Int) = 0 := by omega
        rw [hku] at HE
        clear hku
        go_wp2_with fail
        refine (pass_any (n + q) HOb.out (by omega) (by omega) HB.out).mono ?_
        rintro e w8 ⟨rfl, hB8, hT8⟩
        have HOb8 := hide (HOb.out.pass (n := n + q) (by omega) (by omega))
        unfold Bk.pass at hB8 HOb8
        rw [HE.out, if_pos (by simp only; omega)] at hB8 HOb8
        rw [HE.out]
        simp only
        rw [decide_eq_false (show ¬ (1 : Int) ≤ 0 by omega)]
        have HB8 := hide hB8
        have hg8 := hB8.lt
        have HT8 := hide (Turn_new HT.out HG.out hT8)
        clear hB8 hT8
        go_wp2_with fail
        refine (has_any (n + q) HOb8.out (by omega) (by omega) HB8.out).mono ?_
        rintro e w9 ⟨rfl, hA9, hT9⟩
        rw [to_le (by simp only; omega)]
        simp only
        have HT9 := hide (Turn_new HT8.out HG.out hT9)
        clear hA9 hT9
        go_wp2_with fail
        go_ret
        exact ⟨rfl, HT9.out⟩

end Go.Proofs.Ytgmnillollbgbaa.Th
