/-
  ThrottleSets, walked.
-/
import Derived.Test.YtgmnillollbgbaaBFrame
namespace Go.Proofs.Ytgmnillollbgbaa.Th
open Go.RowKit Go.Maps

theorem mod_bd (a n : Int) (h : 1 ≤ n) : 0 ≤ a % n ∧ a % n < n := ⟨Int.emod_nonneg a (by omega), Int.emod_lt_of_pos a (by omega)⟩

theorem mul_bd2 {x r X R : Int} (hx : 0 ≤ x) (hx1 : x ≤ X) (hr : 0 ≤ r) (hr1 : r ≤ R) : 0 ≤ x * r ∧ x * r ≤ X * R :=
  ⟨Int.mul_nonneg hx hr, Int.mul_le_mul hx1 hr1 hr (by omega)⟩

/-- What there is behind a tick. -/
theorem to_eq {b : Bk} {n : Int} (h : b.has ≤ b.burst) (hn : b.now ≤ n) : b.to n = ⟨b.burst, b.rate, n, min (b.has + (n - b.now) * b.rate) b.burst⟩ := by
  by_cases h1 : n = b.now
  · subst h1
    rw [to_now]
    have : min (b.has + (b.now - b.now) * b.rate) b.burst = b.has := by
      rw [Int.sub_self, Int.zero_mul]
      omega
    rw [this]
  · exact to_gt (by omega)

set_option maxRecDepth 100000 in
set_option maxHeartbeats 8000000 in
theorem sets_any (bu ra wa ot pa : Int) (w : World) : Calls Try.prog 7 #[.int .i64 bu, .int .i64 ra, .int .i64 wa, .int .i64 ot, .int .i64 pa] w fun e w' => e = .returned (.bool true) ∧ Turn [] w w' := by
  go_enter Try.func7, Try.ntmps7
  go_wp2_with fail
  refine (known_any w).mono ?_
  rintro e w1 ⟨rfl, hT1⟩
  have HT1 := hide hT1
  clear hT1
  go_wp2_with fail
  refine (within_any bu 100 _ (by omega) (by omega)).mono ?_
  rintro e w2 ⟨rfl, rfl⟩
  have h1 := mod_bd bu 100 (by omega)
  generalize bu % 100 = u at *
  go_wp2_with fail
  refine (within_any ra 20 _ (by omega) (by omega)).mono ?_
  rintro e w3 ⟨rfl, rfl⟩
  have h2 := mod_bd ra 20 (by omega)
  generalize ra % 20 = r at *
  go_wp2_with fail
  refine (within_any wa 20 _ (by omega) (by omega)).mono ?_
  rintro e w4 ⟨rfl, rfl⟩
  have h3 := mod_bd wa 20 (by omega)
  generalize wa % 20 = q at *
  go_wp2_with fail
  refine (within_any ot 100 _ (by omega) (by omega)).mono ?_
  rintro e w5 ⟨rfl, rfl⟩
  have h4 := mod_bd ot 100 (by omega)
  generalize ot % 100 = o at *
  go_wp2_with fail
  refine (within_any pa 20 _ (by omega) (by omega)).mono ?_
  rintro e w6 ⟨rfl, rfl⟩
  have h5 := mod_bd pa 20 (by omega)
  generalize pa % 20 = p at *
  go_wp2_with fail
  refine (new_any (1 + u) r 5 w6).mono ?_
  rintro e w7 ⟨g, rfl, hg, hA7, hT7⟩
  have HA7 := hide hA7
  have HT7 := hide (HT1.out.trans hT7)
  have HG : Hid (w.heap.size ≤ g) := Nat.le_trans HT1.out.size hg
  have hg7 := hA7.lt
  clear hA7 hT7 hg HT1
  obtain ⟨hm1, hm2⟩ := mul_bd2 h2.1 (Int.le_of_lt h2.2) h3.1 (Int.le_of_lt h3.2)
  have HC := hide (set_any (1 + o) p (5 + q) (ok_of (by omega) (by omega) (by omega) (by omega) (by omega) (by omega) (by omega) (by omega)) (by omega) (by omega) HA7.out)
  have hto : (⟨1 + u, r, 5, 0⟩ : Bk).to (5 + q) = ⟨1 + u, r, 5 + q, min (r * q) (1 + u)⟩ := by
    rw [to_eq (by simp only; omega) (by simp only; omega)]
    simp only
    rw [show (5 + q - 5 : Int) = q by omega, Int.zero_add, Int.mul_comm q r]
  unfold Bk.set at HC
  rw [hto] at HC
  simp only at HC
  clear hto HA7
  have hw : wrap64 (r * q) = r * q := by unfold wrap64; omega
  generalize hmq : r * q = m at hw HC hm1 hm2
  have hw2 : wrap64 (r * q) = m := by rw [hmq]; exact hw
  have HW := hide hw2
  clear hw hmq
  obtain ⟨z, hz⟩ : ∃ z, z = min m (1 + u) := ⟨_, rfl⟩
  rw [← hz] at HC
  have hz1 : (1 + u ≤ m ∧ z = 1 + u) ∨ (m < 1 + u ∧ z = m) := by omega
  clear hz
  obtain ⟨y, hy⟩ : ∃ y, y = min z (1 + o) := ⟨_, rfl⟩
  rw [← hy] at HC
  have hy1 : (z ≤ 1 + o ∧ y = z) ∨ (1 + o < z ∧ y = 1 + o) := by omega
  clear hy
  have HY := hide hy1
  have hy0 : 0 ≤ y := by omega
  have hy2 : y ≤ 1 + o := by omega
  clear hy1
  rcases hz1 with ⟨hz1, rfl⟩ | ⟨hz1, rfl⟩
  all_goals
    go_wp2_with fail
    all_goals
      (try rw [HW.out])
      refine HC.out.mono ?_
      rintro e w8 ⟨rfl, hA8, hT8⟩
      have HA8 := hide hA8
      have HT8 := hide (Turn_new HT7.out HG.out hT8)
      have hg8 := hA8.lt
      clear hA8 hT8 HC
      rcases HY.out with ⟨hy1, hy3⟩ | ⟨hy1, hy3⟩
      all_goals
        subst hy3
        go_wp2_with fail
        all_goals
          refine (has_any (5 + q) (ok_of (by omega) (by omega) (by omega) (by omega) (by omega) (by omega) (by omega) (by omega)) (by omega) (by omega) HA8.out).mono ?_
          rintro e w9 ⟨rfl, hA9, hT9⟩
          rw [to_le (by simp only; omega)] at hA9
          rw [to_le (by simp only; omega)]
          simp only
          have HA9 := hide hA9
          have HT9 := hide (Turn_new HT8.out HG.out hT9)
          have hg9 := hA9.lt
          clear hA9 hT9
          go_wp2_with fail
          all_goals
            refine (has_any (6 + q) (ok_of (by omega) (by omega) (by omega) (by omega) (by omega) (by omega) (by omega) (by omega)) (by omega) (by omega) HA9.out).mono ?_
            rintro e w10 ⟨rfl, hA10, hT10⟩
            rw [to_eq (by simp only; omega) (by simp only; omega)]
            simp only
            rw [show (6 + q - (5 + q)) * p = p by rw [show 6 + q - (5 + q) = 1 by omega, Int.one_mul]]
            have HT10 := hide (Turn_new HT9.out HG.out hT10)
            clear hA10 hT10
            go_wp2_with fail
            all_goals
              go_ret
              refine ⟨ret_bool ?_, HT10.out⟩
              first | rfl | (apply decide_eq_true; omega) | (simp; omega)

end Go.Proofs.Ytgmnillollbgbaa.Th
