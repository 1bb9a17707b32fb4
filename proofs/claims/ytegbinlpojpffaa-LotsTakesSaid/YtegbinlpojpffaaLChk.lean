/-
  addsUp, checkBehind, Check of program and reference, walked.
-/
import Derived.Test.YtegbinlpojpffaaLFns
namespace Go.Proofs.Ytegbinlpojpffaa
open Go.RowKit Lo

set_option maxRecDepth 100000 in
set_option maxHeartbeats 1000000 in
theorem adds_any (x : Lt) (w : World) :
    Calls Try.prog 35 #[lotV x] w fun e w' => e = .returned (.bool (adds x)) ∧ Turn [] w w' := by
  have i0 : ∀ w, (Instr.index 63 (.agg #[.int .i64 x.gr, .int .i64 x.co, .int .i64 x.he, .int .i64 x.ex, .int .i64 x.ro]) (.int .i64 0)).run Try.prog w = .ok (.int .i64 x.gr) w := fun _ => by kernel_rfl
  have i1 : ∀ w, (Instr.index 63 (.agg #[.int .i64 x.gr, .int .i64 x.co, .int .i64 x.he, .int .i64 x.ex, .int .i64 x.ro]) (.int .i64 1)).run Try.prog w = .ok (.int .i64 x.co) w := fun _ => by kernel_rfl
  have i2 : ∀ w, (Instr.index 63 (.agg #[.int .i64 x.gr, .int .i64 x.co, .int .i64 x.he, .int .i64 x.ex, .int .i64 x.ro]) (.int .i64 2)).run Try.prog w = .ok (.int .i64 x.he) w := fun _ => by kernel_rfl
  have i3 : ∀ w, (Instr.index 63 (.agg #[.int .i64 x.gr, .int .i64 x.co, .int .i64 x.he, .int .i64 x.ex, .int .i64 x.ro]) (.int .i64 3)).run Try.prog w = .ok (.int .i64 x.ex) w := fun _ => by kernel_rfl
  have i4 : ∀ w, (Instr.index 63 (.agg #[.int .i64 x.gr, .int .i64 x.co, .int .i64 x.he, .int .i64 x.ex, .int .i64 x.ro]) (.int .i64 4)).run Try.prog w = .ok (.int .i64 x.ro) w := fun _ => by kernel_rfl
  go_enter Try.func35, Try.ntmps35
  go_wp2
  go_loop [16] (fun i => ∃ k : Nat, k ≤ 5 ∧ i = .int .i64 k ∧ Hid (∀ m, m < k → fit (five x m) = true)) (fun i => 5 - (intOf i).toNat)
  case atStart => exact ⟨0, by omega, rfl, fun m hm => absurd hm (by omega)⟩
  case round =>
    obtain ⟨k, hk, rfl, HF⟩ := hrel
    obtain rfl | rfl | rfl | rfl | rfl | rfl : k = 0 ∨ k = 1 ∨ k = 2 ∨ k = 3 ∨ k = 4 ∨ k = 5 := by omega
    · by_cases h : fit x.gr = true
      · have hb := (fit_iff _).1 h
        have HN : Hid (∀ m, m < 0 + 1 → fit (five x m) = true) := fun m hm => by
          rcases Nat.lt_succ_iff_lt_or_eq.1 hm with h1 | rfl
          · exact HF.out m h1
          · exact h
        go_wp2
        go_round
        case rel => exact ⟨1, by omega, by go_num, HN.out⟩
        case measure => simp [intOf]
      · have HA : Hid (adds x = false) := by
          rw [Hid, Bool.eq_false_iff]
          exact fun e => h (((adds_five x).1 e).1 0 (by omega))
        have hb : x.gr < 0 ∨ 1099511627776 < x.gr := by have : ¬ (0 ≤ x.gr ∧ x.gr ≤ 1099511627776) := fun e => h ((fit_iff _).2 e); omega
        by_cases h1 : x.gr < 0
        · go_wp2
          go_ret
          exact ⟨ret_bool HA.out.symm, (Turn.refl [] w).alloc _⟩
        · have h2 : 1099511627776 < x.gr := by omega
          go_wp2
          go_ret
          exact ⟨ret_bool HA.out.symm, (Turn.refl [] w).alloc _⟩
    · by_cases h : fit x.co = true
      · have hb := (fit_iff _).1 h
        have HN : Hid (∀ m, m < 1 + 1 → fit (five x m) = true) := fun m hm => by
          rcases Nat.lt_succ_iff_lt_or_eq.1 hm with h1 | rfl
          · exact HF.out m h1
          · exact h
        go_wp2
        go_round
        case rel => exact ⟨2, by omega, by go_num, HN.out⟩
        case measure => simp [intOf]
      · have HA : Hid (adds x = false) := by
          rw [Hid, Bool.eq_false_iff]
          exact fun e => h (((adds_five x).1 e).1 1 (by omega))
        have hb : x.co < 0 ∨ 1099511627776 < x.co := by have : ¬ (0 ≤ x.co ∧ x.co ≤ 1099511627776) := fun e => h ((fit_iff _).2 e); omega
        by_cases h1 : x.co < 0
        · go_wp2
          go_ret
          exact ⟨ret_bool HA.out.symm, (Turn.refl [] w).alloc _⟩
        · have h2 : 1099511627776 < x.co := by omega
          go_wp2
          go_ret
          exact ⟨ret_bool HA.out.symm, (Turn.refl [] w).alloc _⟩
    · by_cases h : fit x.he = true
      · have hb := (fit_iff _).1 h
        have HN : Hid (∀ m, m < 2 + 1 → fit (five x m) = true) := fun m hm => by
          rcases Nat.lt_succ_iff_lt_or_eq.1 hm with h1 | rfl
          · exact HF.out m h1
          · exact h
        go_wp2
        go_round
        case rel => exact ⟨3, by omega, by go_num, HN.out⟩
        case measure => simp [intOf]
      · have HA : Hid (adds x = false) := by
          rw [Hid, Bool.eq_false_iff]
          exact fun e => h (((adds_five x).1 e).1 2 (by omega))
        have hb : x.he < 0 ∨ 1099511627776 < x.he := by have : ¬ (0 ≤ x.he ∧ x.he ≤ 1099511627776) := fun e => h ((fit_iff _).2 e); omega
        by_cases h1 : x.he < 0
        · go_wp2
          go_ret
          exact ⟨ret_bool HA.out.symm, (Turn.refl [] w).alloc _⟩
        · have h2 : 1099511627776 < x.he := by omega
          go_wp2
          go_ret
          exact ⟨ret_bool HA.out.symm, (Turn.refl [] w).alloc _⟩
    · by_cases h : fit x.ex = true
      · have hb := (fit_iff _).1 h
        have HN : Hid (∀ m, m < 3 + 1 → fit (five x m) = true) := fun m hm => by
          rcases Nat.lt_succ_iff_lt_or_eq.1 hm with h1 | rfl
          · exact HF.out m h1
          · exact h
        go_wp2
        go_round
        case rel => exact ⟨4, by omega, by go_num, HN.out⟩
        case measure => simp [intOf]
      · have HA : Hid (adds x = false) := by
          rw [Hid, Bool.eq_false_iff]
          exact fun e => h (((adds_five x).1 e).1 3 (by omega))
        have hb : x.ex < 0 ∨ 1099511627776 < x.ex := by have : ¬ (0 ≤ x.ex ∧ x.ex ≤ 1099511627776) := fun e => h ((fit_iff _).2 e); omega
        by_cases h1 : x.ex < 0
        · go_wp2
          go_ret
          exact ⟨ret_bool HA.out.symm, (Turn.refl [] w).alloc _⟩
        · have h2 : 1099511627776 < x.ex := by omega
          go_wp2
          go_ret
          exact ⟨ret_bool HA.out.symm, (Turn.refl [] w).alloc _⟩
    · by_cases h : fit x.ro = true
      · have hb := (fit_iff _).1 h
        have HN : Hid (∀ m, m < 4 + 1 → fit (five x m) = true) := fun m hm => by
          rcases Nat.lt_succ_iff_lt_or_eq.1 hm with h1 | rfl
          · exact HF.out m h1
          · exact h
        go_wp2
        go_round
        case rel => exact ⟨5, by omega, by go_num, HN.out⟩
        case measure => simp [intOf]
      · have HA : Hid (adds x = false) := by
          rw [Hid, Bool.eq_false_iff]
          exact fun e => h (((adds_five x).1 e).1 4 (by omega))
        have hb : x.ro < 0 ∨ 1099511627776 < x.ro := by have : ¬ (0 ≤ x.ro ∧ x.ro ≤ 1099511627776) := fun e => h ((fit_iff _).2 e); omega
        by_cases h1 : x.ro < 0
        · go_wp2
          go_ret
          exact ⟨ret_bool HA.out.symm, (Turn.refl [] w).alloc _⟩
        · have h2 : 1099511627776 < x.ro := by omega
          go_wp2
          go_ret
          exact ⟨ret_bool HA.out.symm, (Turn.refl [] w).alloc _⟩
    · have HA := hide (adds_five x)
      have HQ := five_q HF.out
      go_wp2_with fail
      refine (rest_any x _ HQ).mono ?_
      rintro e w1 ⟨rfl, hT⟩
      clear HQ
      have HT := hide hT
      clear hT
      generalize hr : rest x = r at *
      go_wp2
      go_ret
      refine ⟨ret_bool ?_, ((Turn.refl [] w).alloc _).trans HT.out⟩
      rw [Bool.eq_iff_iff, HA.out]
      simp only [decide_eq_true_eq]
      exact ⟨fun h => ⟨HF.out, h⟩, fun h => h.2⟩

set_option maxRecDepth 100000 in
set_option maxHeartbeats 1000000 in
theorem behind_any (id : Int) (x : Lt) (w : World) :
    Calls Try.prog 26 #[.int .i64 id, lotV x] w fun e w' => e = .returned (.int .i64 (one id x)) ∧ Turn [] w w' := by
  by_cases h1 : x.id ≤ id ∨ 1099511627776 < x.id
  · have HO : Hid (one id x = 1) := by unfold one; rw [Hid, if_pos h1]
    by_cases h2 : x.id ≤ id
    · go_enter Try.func26, Try.ntmps26
      go_wp2
      go_ret
      exact ⟨ret_int HO.out.symm, (Turn.refl [] w).alloc _⟩
    · have h3 : 1099511627776 < x.id := by omega
      go_enter Try.func26, Try.ntmps26
      go_wp2
      go_ret
      exact ⟨ret_int HO.out.symm, (Turn.refl [] w).alloc _⟩
  · have a1 : id < x.id := by omega
    have a2 : x.id ≤ 1099511627776 := by omega
    by_cases h2 : x.kd < 0 ∨ 2 < x.kd
    · have HO : Hid (one id x = 3) := by unfold one; rw [Hid, if_neg h1, if_pos h2]
      have b0 : (x.kd != 0) = true := by simp; omega
      have b1 : (x.kd != 1) = true := by simp; omega
      have b2 : (x.kd != 2) = true := by simp; omega
      clear h1 h2
      go_enter Try.func26, Try.ntmps26
      go_wp2
      go_ret
      exact ⟨ret_int HO.out.symm, (Turn.refl [] w).alloc _⟩
    · by_cases h3 : x.fr < 0 ∨ x.un ≤ x.fr ∨ 1099511627776 < x.un
      · have HO : Hid (one id x = 1) := by unfold one; rw [Hid, if_neg h1, if_neg h2, if_pos h3]
        have hk : x.kd = 0 ∨ x.kd = 1 ∨ x.kd = 2 := by omega
        clear h1 h2
        rcases x with ⟨xi, xk, xf, xu, xg, xc, xh, xe, xr⟩
        simp only at *
        by_cases c1 : xf < 0
        · rcases hk with rfl | rfl | rfl
          all_goals
            go_enter Try.func26, Try.ntmps26
            go_wp2
            go_ret
            exact ⟨ret_int HO.out.symm, (Turn.refl [] w).alloc _⟩
        · by_cases c2 : xu ≤ xf
          · rcases hk with rfl | rfl | rfl
            all_goals
              go_enter Try.func26, Try.ntmps26
              go_wp2
              go_ret
              exact ⟨ret_int HO.out.symm, (Turn.refl [] w).alloc _⟩
          · have c3 : 1099511627776 < xu := by omega
            rcases hk with rfl | rfl | rfl
            all_goals
              go_enter Try.func26, Try.ntmps26
              go_wp2
              go_ret
              exact ⟨ret_int HO.out.symm, (Turn.refl [] w).alloc _⟩
      · have HO : Hid (one id x = if adds x = true then 0 else 11) := by unfold one; rw [Hid, if_neg h1, if_neg h2, if_neg h3]
        have hk : x.kd = 0 ∨ x.kd = 1 ∨ x.kd = 2 := by omega
        have c1 : 0 ≤ x.fr := by omega
        have c2 : x.fr < x.un := by omega
        have c3 : x.un ≤ 1099511627776 := by omega
        clear h1 h2 h3
        rcases x with ⟨xi, xk, xf, xu, xg, xc, xh, xe, xr⟩
        simp only at *
        rcases hk with rfl | rfl | rfl
        all_goals
          go_enter Try.func26, Try.ntmps26
          go_wp2_with fail
          refine (adds_any ⟨_, _, _, _, _, _, _, _, _⟩ _).mono ?_
          rintro e w1 ⟨rfl, hT⟩
          have HT := hide hT
          clear hT
          generalize hv : adds _ = v at *
          rcases v with _ | _
          all_goals
            go_wp2
            go_ret
            exact ⟨ret_int HO.out.symm, ((Turn.refl [] w).alloc _).trans HT.out⟩

end Go.Proofs.Ytegbinlpojpffaa
