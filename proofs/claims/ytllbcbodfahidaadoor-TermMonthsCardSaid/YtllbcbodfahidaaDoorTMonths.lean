/-
  TermMonths, walked.
-/
import Derived.Test.YtllbcbodfahidaaDoorKnown8
import Derived.Test.YtllbcbodfahidaaDoorEarly
import Derived.Deep.Cut
namespace Go.Proofs.YtllbcbodfahidaaDoor
open Go.RowKit Cal

theorem rof_mon (t d n : Int) (w : World) (h1 : 12 ≤ t) (h2 : t < 120000) (h3 : 1 ≤ d) (h4 : d ≤ LM t) (hn : n = FM t + d - 1) :
    Calls Tryd.prog 15 #[.int .i64 n] w fun e w' => e = .returned (.tuple #[.agg #[.int .i64 (t / 12), .int .i64 (t % 12 + 1), .int .i64 d], .int .i64 0]) ∧ Turn [] w w' := by
  subst hn
  have hb := mon_in h1 h2 h3 h4
  refine (rof_yes _ w hb.1 hb.2).mono ?_
  rintro e w' ⟨y', m', d', rfl, hv', hn', hT'⟩
  obtain ⟨rfl, rfl, rfl⟩ := num_inj (vld_mon h1 h2 h3 h4) hv' ((num_mon t d).trans hn'.symm)
  exact ⟨rfl, hT'⟩

set_option maxRecDepth 100000 in
set_option maxHeartbeats 2000000 in
theorem months_any (a0 d0 c0 : Int) (w : World) (hT : Tab w) : Calls Tryd.prog 4 #[.int .i64 a0, .int .i64 d0, .int .i64 c0] w fun e w' => e = .returned (.bool true) ∧ Turn [] w w' := by
  have HT := hide hT
  clear hT
  obtain ⟨a, ha⟩ : ∃ n, n = a0 % 31 := ⟨_, rfl⟩
  obtain ⟨d, hd⟩ : ∃ n, n = d0 % 2900000 := ⟨_, rfl⟩
  obtain ⟨c, hc⟩ : ∃ n, n = c0 % 30 := ⟨_, rfl⟩
  have ha1 : 0 ≤ a ∧ a < 31 := by omega
  have hd1 : 0 ≤ d ∧ d < 2900000 := by omega
  have hc1 : 0 ≤ c ∧ c < 30 := by omega
  have HA := hide ha
  have HD := hide hd
  have HC := hide hc
  clear ha hd hc
  obtain ⟨t, t1, t2, b1, b2⟩ := iv_early (a := 1 + a) (n := d) (by omega) (by omega) (by omega)
  have bs := B_step (1 + a) t
  have HB := hide (And.intro b1 b2)
  have hn0 : -31 ≤ B (1 + a) t := by omega
  have hn1 : B (1 + a) t ≤ d := by omega
  have hU := hide (B_up_n (1 + a) t)
  have hM := hide (B_mono_n (1 + a) t)
  have HBS := hide (fun k : Int => B_step (1 + a) k)
  clear b1 b2 bs
  go_enter Tryd.func4, Tryd.ntmps4
  go_wp2_with fail
  refine (known_any _ HT.out).mono ?_
  rintro e w1 ⟨rfl, hT1⟩
  have HT1 := hide hT1
  clear hT1
  go_wp2_with fail
  refine (within_any _ _ _ (by omega) (by omega)).mono ?_
  rintro e w1' ⟨rfl, rfl⟩
  rw [← HA.out]
  go_wp2_with fail
  refine (within_any _ _ _ (by omega) (by omega)).mono ?_
  rintro e w1' ⟨rfl, rfl⟩
  rw [← HD.out]
  go_wp2_with fail
  refine (last_iv (1 + a) t d _ (HT.out.turn HT1.out) (by omega) (by omega) (by omega) (by omega) t1 HB.out.1 HB.out.2).mono ?_
  rintro e w2 ⟨rfl, hT2⟩
  have HT2 := hide (HT1.out.trans hT2)
  clear hT2 HT1
  go_wp2_with fail
  go_loopw [7, 9] (fun m i wr => ∃ k : Nat, k ≤ 1 + c ∧ i = .int .i64 k ∧ m = .int .i64 (B (1 + a) (t + k)) ∧ Turn [] w wr) (fun _ i _ => 40 - (intOf i).toNat)
  case atStart => exact ⟨0, by omega, rfl, by simp, HT2.out⟩
  case round =>
    obtain ⟨k, hk, rfl, rfl, hTr⟩ := hrel
    have HTr := hide hTr
    have hu := hU.out k
    have hm := hM.out k
    have hs := HBS.out (t + k)
    have hs' := HBS.out (t + k + 1)
    have hbd := bd_bd (1 + a) (t + k + 1) (by omega)
    have HNX := hide (fun (W : World) (n : Int) (hT : Tab W) (h1 : B (1 + a) (t + k) ≤ n) (h2 : n < B (1 + a) (t + k + 1)) => next_iv (1 + a) 0 (t + k) n W hT (by omega) (by omega) (by omega) (by omega) (by omega) h1 h2)
    have HLM := hide (fun (W : World) (hT : Tab W) => last_iv (1 + a) (t + k + 1) (B (1 + a) (t + k + 1)) W hT (by omega) (by omega) (by omega) (by omega) (by omega) (Int.le_refl _) (by omega))
    have HLN := hide (fun (W : World) (hT : Tab W) => last_iv (1 + a) (t + k) (B (1 + a) (t + k + 1) - 1) W hT (by omega) (by omega) (by omega) (by omega) (by omega) (by omega) (by omega))
    have HOF := hide (fun (W : World) => rof_mon (t + k + 1) (bd (1 + a) (t + k + 1)) (B (1 + a) (t + k + 1)) W (by omega) (by omega) hbd.1 hbd.2.1 rfl)
    have HDY := hide (show min (1 + a) (len ((t + k + 1) / 12) ((t + k + 1) % 12 + 1)) = bd (1 + a) (t + k + 1) from rfl)
    have hy12 : 1 ≤ (t + k + 1) % 12 + 1 ∧ (t + k + 1) % 12 + 1 ≤ 12 := by omega
    generalize eM : B (1 + a) (t + k + 1) = M at *
    generalize eN : B (1 + a) (t + k) = N at *
    generalize (t + k + 1) / 12 = Y at *
    generalize (t + k + 1) % 12 + 1 = Z at *
    generalize bd (1 + a) (t + k + 1) = X at *
    have HN := hide eN
    have HM := hide eM
    clear hTr HT2 eN eM hs' hbd hU hM HBS HB
    go_wp2_with fail
    refine (within_any _ _ _ (by omega) (by omega)).mono ?_
    rintro e w1' ⟨rfl, rfl⟩
    rw [← HC.out]
    by_cases hlt : (k : Int) < 1 + c
    · go_wp2_with fail
      refine (HNX.out _ N (HT.out.turn HTr.out) (by omega) (by omega)).mono ?_
      rintro e w3 ⟨rfl, hT3⟩
      have HT3 := hide (HTr.out.trans hT3)
      clear hT3 HTr
      go_wp2_with fail
      refine (HLM.out _ (HT.out.turn HT3.out)).mono ?_
      rintro e w4 ⟨rfl, hT4⟩
      have HT4 := hide (HT3.out.trans hT4)
      clear hT4 HT3
      go_wp2_with fail
      refine (HLN.out _ (HT.out.turn HT4.out)).mono ?_
      rintro e w5 ⟨rfl, hT5⟩
      have HT5 := hide (HT4.out.trans hT5)
      clear hT5 HT4
      go_wp2_with fail
      refine (HOF.out _).mono ?_
      rintro e w6 ⟨rfl, hT6⟩
      have HT6 := hide ((HT5.out.trans hT6).alloc (.cells #[.int .i64 Y, .int .i64 Z, .int .i64 X] 33))
      have HD6 := hide (DateAt.new w6 Y Z X 33)
      clear hT6 HT5 HLM HLN HOF
      go_upto_if 117 with fail
      generalize w6.alloc (.cells #[.int .i64 Y, .int .i64 Z, .int .i64 X] 33) = W6 at *
      generalize w6.heap.size = g at *
      obtain ⟨f0, f1, f2, -⟩ := HD6.out
      have q1 : IntKind.i64.wrap (M - N) = M - N := by rw [IntKind.wrap_i64]; omega
      have q2 : decide (M - N < 28) = false := by simp; omega
      have q3 : decide (31 < M - N) = false := by simp; omega
      have hX : (if len Y Z < 1 + a then len Y Z else 1 + a) = X := by rw [← HDY.out]; split <;> omega
      have HX := hide hX
      have hr0 := Int.emod_nonneg (d + k) (show M - N ≠ 0 by omega)
      have hr1 := Int.emod_lt_of_pos (d + k) (show 0 < M - N by omega)
      clear hX
      go_quiet ((go_at_call 16; exact Calls.quiet_of_same (rlength_any Y Z _)))
      have HT7 := hide (HT6.out.drewN nq)
      generalize W6.drewN nq = W7 at *
      rw [HX.out]
      clear f0 f1 f2 HD6 HT6 HX HDY
      go_wp2_with fail
      refine (within_any _ _ _ (by omega) (by omega)).mono ?_
      rintro e w1' ⟨rfl, rfl⟩
      generalize (d + k) % (M - N) = r at *
      go_wp2_with fail
      refine (HNX.out _ (N + r) (HT.out.turn HT7.out) (by omega) (by omega)).mono ?_
      rintro e w8 ⟨rfl, hT8⟩
      have HT8 := hide (HT7.out.trans hT8)
      clear hT8 HT7
      go_wp2_with fail
      go_roundw
      case rel => exact ⟨k + 1, by omega, by go_num, by rw [show t + ((k + 1 : Nat) : Int) = t + k + 1 by omega, HM.out], HT8.out⟩
      case measure => simp [intOf]; omega
    · go_wp2_with fail
      go_ret
      exact ⟨rfl, HTr.out⟩

end Go.Proofs.YtllbcbodfahidaaDoor
