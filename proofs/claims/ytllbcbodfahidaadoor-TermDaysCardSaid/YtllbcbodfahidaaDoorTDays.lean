/-
  TermDays, walked.
-/
import Derived.Test.YtllbcbodfahidaaDoorKnown8
namespace Go.Proofs.YtllbcbodfahidaaDoor
open Go.RowKit Cal

set_option maxRecDepth 100000 in
set_option maxHeartbeats 2000000 in
theorem days_any (a b c : Int) (w : World) (hT : Tab w) : Calls Tryd.prog 6 #[.int .i64 a, .int .i64 b, .int .i64 c] w fun e w' => e = .returned (.bool true) ∧ Turn [] w w' := by
  have HT := hide hT
  clear hT
  obtain ⟨n, hn⟩ : ∃ n, n = a % 2900000 := ⟨_, rfl⟩
  obtain ⟨p, hp⟩ : ∃ n, n = b % 180 := ⟨_, rfl⟩
  obtain ⟨q, hq⟩ : ∃ n, n = c % 180 := ⟨_, rfl⟩
  have hn1 : 0 ≤ n ∧ n < 2900000 := by omega
  have hp1 : 0 ≤ p ∧ p < 180 := by omega
  have hq1 : 0 ≤ q ∧ q < 180 := by omega
  have HN := hide hn
  have HP := hide hp
  have HQ := hide hq
  clear hn hp hq
  go_enter Tryd.func6, Tryd.ntmps6
  go_wp2_with fail
  refine (known_any _ HT.out).mono ?_
  rintro e w1 ⟨rfl, hT1⟩
  have HT1 := hide hT1
  clear hT1
  go_wp2_with fail
  refine (within_any _ _ _ (by omega) (by omega)).mono ?_
  rintro e w1' ⟨rfl, rfl⟩
  rw [← HN.out]
  go_wp2_with fail
  refine (within_any _ _ _ (by omega) (by omega)).mono ?_
  rintro e w1' ⟨rfl, rfl⟩
  rw [← HP.out]
  go_wp2_with fail
  refine (within_any _ _ _ (by omega) (by omega)).mono ?_
  rintro e w1' ⟨rfl, rfl⟩
  rw [← HQ.out]
  go_wp2_with fail
  refine (next_d (db_yes _ _ _ (HT.out.turn HT1.out) (by omega) (by omega) (by omega) (by omega))).mono ?_
  rintro e w2 ⟨rfl, hT2⟩
  have HT2 := hide (HT1.out.trans hT2)
  clear hT2 HT1
  go_wp2_with fail
  refine (next_d (db_yes _ _ _ (HT.out.turn HT2.out) (by omega) (by omega) (by omega) (by omega))).mono ?_
  rintro e w3 ⟨rfl, hT3⟩
  have HT3 := hide (HT2.out.trans hT3)
  clear hT3 HT2
  go_wp2_with fail
  refine (next_d (db_yes _ _ _ (HT.out.turn HT3.out) (by omega) (by omega) (by omega) (by omega))).mono ?_
  rintro e w4 ⟨rfl, hT4⟩
  have HT4 := hide (HT3.out.trans hT4)
  clear hT4 HT3
  go_wp2
  go_ret
  exact ⟨ret_bool (by simp; omega), HT4.out⟩

end Go.Proofs.YtllbcbodfahidaaDoor
