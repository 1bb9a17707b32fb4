/-
  ThrottleStill, walked.
-/
import Derived.Test.YtgmnillollbgbaaBwSets
namespace Go.Proofs.Ytgmnillollbgbaa.Th
open Go.RowKit Go.Maps

/-- A bucket without a rate that has nothing. -/
structure Still (b : Bk) : Prop where
  ok : b.Ok
  rate : b.rate = 0
  has : b.has = 0
theorem Still.to {b : Bk} (h : Still b) {n : Int} (h0 : 0 ≤ n) (h1 : n ≤ 4000000000) : Still (b.to n) := by
  refine ⟨h.ok.to h0 h1, ?_, ?_⟩
  · unfold Bk.to; split
    · exact h.rate
    · exact h.rate
  · unfold Bk.to; split
    · exact h.has
    · have := h.ok.b0
      simp only [h.rate, h.has, Int.mul_zero]
      omega
theorem Still.pass {b : Bk} (h : Still b) {n : Int} (h0 : 0 ≤ n) (h1 : n ≤ 4000000000) : Still (b.pass n) := by
  unfold Bk.pass
  rw [if_pos (by have := (h.to h0 h1).has; omega)]
  exact h.to h0 h1

theorem nums_cell {w : World} {b off : Nat} {l : List Int} (h : NumsAt w (some ⟨b, off, none⟩) l) {i : Nat} (hi : i < l.length) : w.cell? ⟨b, off + i, none⟩ = some (.int .i64 (l.getD i 0)) := by
  obtain ⟨b', off', e, hc⟩ := h.at hi
  injection e with e
  injection e with e1 e2
  subst e1 e2
  exact hc

set_option maxRecDepth 100000 in
set_option maxHeartbeats 8000000 in
theorem still_any (bu nw : Int) (a : Option Addr) (c : Nat) (l : List Int) (w : World) (_hlen : l.length ≤ 9223372036854775807) (hL : NumsAt w a l) : Calls Try.prog 8 #[.int .i64 bu, .int .i64 nw, .slice a l.length c] w fun e w' => e = .returned (.bool true) ∧ Turn [] w w' := by
  have HL := hide hL
  clear hL
  go_enter Try.func8, Try.ntmps8
  go_wp2_with fail
  refine (known_any w).mono ?_
  rintro e w1 ⟨rfl, hT1⟩
  have HT1 := hide hT1
  clear hT1
  go_wp2_with fail
  refine (within_any bu 1000 _ (by omega) (by omega)).mono ?_
  rintro e w2 ⟨rfl, rfl⟩
  have h1 := mod_bd bu 1000 (by omega)
  generalize bu % 1000 = u at *
  go_wp2_with fail
  refine (within_any nw 1000000 _ (by omega) (by omega)).mono ?_
  rintro e w3 ⟨rfl, rfl⟩
  have h2 := mod_bd nw 1000000 (by omega)
  generalize nw % 1000000 = n at *
  go_wp2_with fail
  refine (new_any (1 + u) 0 n w3).mono ?_
  rintro e w4 ⟨g, rfl, hg, hA4, hT4⟩
  have HA4 := hide hA4
  have HT4 := hide (HT1.out.trans hT4)
  have HG : Hid (w.heap.size ≤ g) := Nat.le_trans HT1.out.size hg
  have HG4 : Hid (g < w4.heap.size) := hA4.lt
  clear hA4 hT4 hg HT1
  go_wp2_with fail
  refine (new_any (1 + u) 1 n w4).mono ?_
  rintro e w5 ⟨d, rfl, hd, hA5, hT5⟩
  have HA5 := hide hA5
  have HB5 := hide (HA4.out.turn hT5 (by simp))
  have HT5 := hide (HT4.out.trans hT5)
  have HD : Hid (w.heap.size ≤ d) := Nat.le_trans HT4.out.size hd
  have HN : Hid (g ≠ d) := fun e => by have := HG4.out; omega
  clear hA5 hT5 HT4 HG4 HA4 hd
  go_wp2_with fail
  refine (has_any (n + 7) (ok_of (by omega) (by omega) (by omega) (by omega) (by omega) (by omega) (by omega) (by omega)) (by omega) (by omega) HA5.out).mono ?_
  rintro e w6 ⟨rfl, hA6, hT6⟩
  have e6 : (⟨1 + u, 1, n, 0⟩ : Bk).to (n + 7) = ⟨1 + u, 1, n + 7, min 7 (1 + u)⟩ := by
    rw [to_eq (by simp only; omega) (by simp only; omega)]
    simp only
    rw [show (0 : Int) + (n + 7 - n) * 1 = 7 by omega]
  rw [e6] at hA6
  rw [e6]
  simp only
  have HB6 := hide (HB5.out.turn hT6 (by simp; exact HN.out))
  have HA6 := hide hA6
  have HT6 := hide (Turn_new HT5.out HD.out hT6)
  clear hA6 hT6 e6 HB5 HA5 HT5
  obtain ⟨z, hz⟩ : ∃ z, z = min 7 (1 + u) := ⟨_, rfl⟩
  rw [← hz] at HA6
  rw [← hz]
  have hz1 : (1 + u ≤ 7 ∧ z = 1 + u) ∨ (7 < 1 + u ∧ z = 7) := by omega
  have HZ := hide hz1
  have hz0 : 0 ≤ z ∧ z ≤ 7 := by omega
  clear hz hz1
  have HS : Hid (Still ⟨1 + u, 0, n, 0⟩) := ⟨ok_of (by omega) (by omega) (by omega) (by omega) (by omega) (by omega) (by omega) (by omega), rfl, rfl⟩
  go_wp2_with fail
  go_loopw [10] (fun i wr => ∃ (k : Nat) (b : Bk), k ≤ l.length ∧ k ≤ 30 ∧ i = .int .i64 (k : Int) ∧ Hid (Still b) ∧ Hid (BkAt wr g b) ∧ Hid (BkAt wr d ⟨1 + u, 1, n + 7, z⟩) ∧ Turn [] w wr) (fun i _ => 31 - (intOf i).toNat)
  case atStart => exact ⟨0, _, Nat.zero_le _, by omega, rfl, HS, HB6, HA6, HT6.out⟩
  case round =>
    obtain ⟨k, b, hk, hk2, rfl, HSb, HB, HA, hT⟩ := hrel
    have HT := hide hT
    clear hT HA6 HB6 HT6 HS
    have hgw := HB.out.lt
    have hdw := HA.out.lt
    by_cases hlt : k < l.length ∧ k < 30
    · obtain ⟨hk1, hk3⟩ := hlt
      obtain ⟨b0, off, rfl, hc⟩ := (HL.out.turn0 HT.out).at hk1
      have hbw := lt_of_cell hc
      have HX : Hid (∃ x, x = l.getD k 0) := ⟨_, rfl⟩
      obtain ⟨x, hx⟩ := HX.out
      rw [← hx] at hc
      have HX2 := hide hx
      clear hx HX
      go_wp2_with fail
      refine (within_any x 1000 _ (by omega) (by omega)).mono ?_
      rintro e w7 ⟨rfl, rfl⟩
      have h7 := mod_bd x 1000 (by omega)
      generalize x % 1000 = x7 at *
      go_wp2_with fail
      refine (pass_any (n + x7) HSb.out.ok (by omega) (by omega) HB.out).mono ?_
      rintro e w8 ⟨rfl, hB8, hT8⟩
      have hd8 : decide (1 ≤ (b.to (n + x7)).has) = false := decide_eq_false (by rw [(HSb.out.to (n := n + x7) (by omega) (by omega)).has]; omega)
      rw [hd8]
      have HSb8 := hide (HSb.out.pass (n := n + x7) (by omega) (by omega))
      have HB8 := hide hB8
      have HA8 := hide (HA.out.turn hT8 (by simp; exact fun e => HN.out e.symm))
      have HT8 := hide (Turn_new HT.out HG.out hT8)
      have hc8 := nums_cell (HL.out.turn0 HT8.out) hk1
      rw [← HX2.out] at hc8
      have hbw8 := lt_of_cell hc8
      have hdw8 := HA8.out.lt
      clear hB8 hT8 hd8 hc hbw hgw hdw HSb HB HA HT
      generalize b.pass (n + x7) = b8 at *
      go_wp2_with fail
      refine (within_any x 8 _ (by omega) (by omega)).mono ?_
      rintro e w9 ⟨rfl, rfl⟩
      have h9 := mod_bd x 8 (by omega)
      generalize x % 8 = x9 at *
      go_wp2_with fail
      refine (has_any (n + x9) (ok_of (by omega) (by omega) (by omega) (by omega) (by omega) (by omega) (by omega) (by omega)) (by omega) (by omega) HA8.out).mono ?_
      rintro e w10 ⟨rfl, hA10, hT10⟩
      rw [to_le (by simp only; omega)] at hA10
      rw [to_le (by simp only; omega)]
      simp only
      have HA10 := hide hA10
      have HB10 := hide (HB8.out.turn hT10 (by simp; exact HN.out))
      have HT10 := hide (Turn_new HT8.out HD.out hT10)
      clear hA10 hT10 hc8 hbw8 hdw8 HA8 HB8 HT8 HX2
      go_wp2_with fail
      go_roundw
      case rel => exact ⟨k + 1, b8, by omega, by omega, by go_num, HSb8, HB10, HA10, HT10.out⟩
      case measure => simp [intOf]; omega
    · have hcs : (¬ k < l.length) ∨ (k < l.length ∧ ¬ k < 30) := by
        by_cases h : k < l.length
        · exact .inr ⟨h, fun h2 => hlt ⟨h, h2⟩⟩
        · exact .inl h
      clear hlt
      rcases hcs with h1 | ⟨h1, h2⟩
      all_goals
        rcases HZ.out with ⟨hz1, hz2⟩ | ⟨hz1, hz2⟩
        all_goals
          go_wp2_with fail
          refine (has_any (n + 2000) HSb.out.ok (by omega) (by omega) HB.out).mono ?_
          rintro e w8 ⟨rfl, hB8, hT8⟩
          rw [(HSb.out.to (n := n + 2000) (by omega) (by omega)).has]
          have HT8 := hide (Turn_new HT.out HG.out hT8)
          clear hB8 hT8
          go_wp2_with fail
          all_goals
            go_ret
            refine ⟨ret_bool ?_, HT8.out⟩
            first | rfl | (apply decide_eq_true; omega) | (simp; omega)

end Go.Proofs.Ytgmnillollbgbaa.Th
