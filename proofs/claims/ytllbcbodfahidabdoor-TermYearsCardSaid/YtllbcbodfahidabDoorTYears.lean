/-
  TermYears, walked.
-/
import Derived.Test.YtllbcbodfahidabDoorKnown8
import Derived.Test.YtllbcbodfahidabDoorEarly
namespace Go.Proofs.YtllbcbodfahidabDoor
open Go.RowKit Cal

set_option maxRecDepth 100000 in
set_option maxHeartbeats 2000000 in
theorem years_any (a0 d0 : Int) (w : World) (hT : Tab w) : Calls Tryd.prog 3 #[.int .i64 a0, .int .i64 d0] w fun e w' => e = .returned (.bool true) ∧ Turn [] w w' := by
  have HT := hide hT
  clear hT
  obtain ⟨a, ha⟩ : ∃ n, n = a0 % 31 := ⟨_, rfl⟩
  obtain ⟨d, hd⟩ : ∃ n, n = d0 % 2800000 := ⟨_, rfl⟩
  have ha1 : 0 ≤ a ∧ a < 31 := by omega
  have hd1 : 0 ≤ d ∧ d < 2800000 := by omega
  have HA := hide ha
  have HD := hide hd
  clear ha hd
  obtain ⟨t, t1, t2, b1, b2⟩ := iv_early (a := 1 + a) (n := 31 + d) (by omega) (by omega) (by omega)
  have bs := B_step (1 + a) t
  have by_ := B_year (1 + a) t
  obtain ⟨s, s1, s2, c1, c2⟩ := iv_early (a := 1 + a) (n := B (1 + a) t + 365) (by omega) (by omega) (by omega)
  have hps : B (1 + a) s ≤ B (1 + a) (t + 12) := by
    rcases Int.lt_or_le (t + 12) s with h | h
    · have x := B_mono (1 + a) (s := t + 12) (t := s) (by omega); omega
    · have x := B_mono (1 + a) h; omega
  have HB := hide (And.intro b1 b2)
  have HC := hide (And.intro c1 c2)
  have hn0 : 0 ≤ B (1 + a) t := by omega
  have hn1 : B (1 + a) t ≤ 2800100 := by omega
  have hU := hide (B_up_n (1 + a) t)
  have hM := hide (B_mono_n (1 + a) t)
  have HBS := hide (fun k : Int => B_step (1 + a) k)
  clear b1 b2 c1 c2 bs
  go_enter Tryd.func3, Tryd.ntmps3
  go_wp2_with fail
  refine (known_any _ HT.out).mono ?_
  rintro e w1 ⟨rfl, hT1⟩
  have HT1 := hide hT1
  clear hT1
  go_wp2_with fail
  refine (within_any _ _ _ (by omega) (by omega)).mono ?_
  rintro e w1' ⟨rfl, rfl⟩
  rw [← HA.out]
  go_wp2_with fail
  refine (within_any _ _ _ (by omega) (by omega)).mono ?_
  rintro e w1' ⟨rfl, rfl⟩
  rw [← HD.out]
  go_wp2_with fail
  refine (last_iv (1 + a) t (31 + d) _ (HT.out.turn HT1.out) (by omega) (by omega) (by omega) (by omega) t1 HB.out.1 HB.out.2).mono ?_
  rintro e w2 ⟨rfl, hT2⟩
  have HT2 := hide (HT1.out.trans hT2)
  clear hT2 HT1
  go_wp2_with fail
  go_loopw [7, 8] (fun m i wr => ∃ k : Nat, k ≤ 12 ∧ i = .int .i64 k ∧ m = .int .i64 (B (1 + a) (t + k)) ∧ Turn [] w wr) (fun _ i _ => 12 - (intOf i).toNat)
  case atStart => exact ⟨0, by omega, rfl, by simp, HT2.out⟩
  case round =>
    obtain ⟨k, hk, rfl, rfl, hTr⟩ := hrel
    have HTr := hide hTr
    have hu := hU.out k
    have hm := hM.out k
    clear hTr HT2
    by_cases hlt : k < 12
    · have HS := hide (HBS.out (t + k))
      go_wp2_with fail
      refine (next_iv (1 + a) 0 (t + k) (B (1 + a) (t + k)) _ (HT.out.turn HTr.out) (by omega) (by omega) (by omega) (by omega) (by omega) (Int.le_refl _) (by have := HS.out.1; omega)).mono ?_
      rintro e w3 ⟨rfl, hT3⟩
      have HT3 := hide (HTr.out.trans hT3)
      clear hT3 HTr
      go_wp2_with fail
      go_roundw
      case rel => exact ⟨k + 1, by omega, by go_num, by rw [show t + ((k + 1 : Nat) : Int) = t + k + 1 by omega], HT3.out⟩
      case measure => simp [intOf]; omega
    · obtain rfl : k = 12 := by omega
      go_wp2_with fail
      refine (last_iv (1 + a) s (B (1 + a) t + 365) _ (HT.out.turn HTr.out) (by omega) (by omega) (by omega) (by omega) s1 HC.out.1 HC.out.2).mono ?_
      rintro e w3 ⟨rfl, hT3⟩
      have HT3 := hide (HTr.out.trans hT3)
      clear hT3 HTr
      go_wp2
      go_ret
      exact ⟨rfl, HT3.out⟩

end Go.Proofs.YtllbcbodfahidabDoor
