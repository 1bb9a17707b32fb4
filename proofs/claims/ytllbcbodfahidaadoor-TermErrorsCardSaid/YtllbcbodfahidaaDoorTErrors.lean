/-
  TermErrors, walked.
-/
import Derived.Test.YtllbcbodfahidaaDoorKnown8
import Derived.Test.YtllbcbodfahidaaDoorEarly
namespace Go.Proofs.YtllbcbodfahidaaDoor
open Go.RowKit Cal

/-- The error of Next, of a day that is not late. -/
def errE (t a k : Int) : Int := if t = 0 then (if 1 ≤ a ∧ a ≤ 31 then 0 else 1) else if t = 1 then (if 1 ≤ k ∧ k ≤ 366 then 0 else 1) else 3
def errL (a : Int) : Int := if 1 ≤ a ∧ a ≤ 31 then 0 else 1

theorem next_err (t a k n : Int) (h0 : 0 ≤ n) (hn : n < 2900000) : ∃ V, ∀ w, Tab w → Calls Tryd.prog 10 #[.int .i64 t, .int .i64 a, .int .i64 k, .int .i64 n] w fun e w' => e = .returned (.tuple #[.int .i64 V, .int .i64 (errE t a k)]) ∧ Turn [] w w' := by
  unfold errE
  split
  · subst t
    split
    · rename_i h
      obtain ⟨t, t1, t2, b1, b2⟩ := iv_early h.1 h0 (show n < 2902000 by omega)
      exact ⟨_, fun w hT => next_iv a k t n w hT h.1 h.2 (by omega) (by omega) (by omega) b1 b2⟩
    · exact ⟨0, fun w _ => next_m (nb_bad a n w (by omega))⟩
  · split
    · subst t
      split
      · exact ⟨n + k, fun w hT => next_d (db_yes k n w hT (by omega) (by omega) (by omega) (by omega))⟩
      · exact ⟨0, fun w _ => next_d (db_bad k n w (by omega))⟩
    · exact ⟨0, fun w _ => next_k t a k n w (by assumption) (by assumption)⟩
theorem last_err (a n : Int) (h0 : 0 ≤ n) (hn : n < 2900000) : ∃ V, ∀ w, Tab w → Calls Tryd.prog 12 #[.int .i64 a, .int .i64 n] w fun e w' => e = .returned (.tuple #[.int .i64 V, .int .i64 (errL a)]) ∧ Turn [] w w' := by
  unfold errL
  split
  · rename_i h
    obtain ⟨t, t1, t2, b1, b2⟩ := iv_early h.1 h0 (show n < 2902000 by omega)
    exact ⟨_, fun w hT => last_iv a t n w hT h.1 h.2 (by omega) (by omega) (by omega) b1 b2⟩
  · exact ⟨0, fun w _ => lb_bad a n w (by omega)⟩

set_option maxRecDepth 100000 in
set_option maxHeartbeats 2000000 in
theorem errors_any (t a k d : Int) (w : World) (hT : Tab w) : Calls Tryd.prog 7 #[.int .i64 t, .int .i64 a, .int .i64 k, .int .i64 d] w fun e w' => e = .returned (.bool true) ∧ Turn [] w w' := by
  have HT := hide hT
  clear hT
  obtain ⟨n, hn⟩ : ∃ n, n = d % 2900000 := ⟨_, rfl⟩
  have hn1 : 0 ≤ n ∧ n < 2900000 := by omega
  have HN := hide hn
  clear hn
  obtain ⟨V, hV⟩ := next_err t a k n hn1.1 hn1.2
  obtain ⟨V2, hV2⟩ := last_err a n hn1.1 hn1.2
  have HV := hide hV
  have HV2 := hide hV2
  clear hV hV2
  go_enter Tryd.func7, Tryd.ntmps7
  go_wp2_with fail
  refine (known_any _ HT.out).mono ?_
  rintro e w1 ⟨rfl, hT1⟩
  have HT1 := hide hT1
  clear hT1
  go_wp2_with fail
  refine (within_any _ _ _ (by omega) (by omega)).mono ?_
  rintro e w1' ⟨rfl, rfl⟩
  rw [← HN.out]
  go_wp2_with fail
  refine (HV.out _ (HT.out.turn HT1.out)).mono ?_
  rintro e w2 ⟨rfl, hT2⟩
  have HT2 := hide (HT1.out.trans hT2)
  clear hT2 HT1
  go_wp2_with fail
  refine (HV2.out w2 (HT.out.turn HT2.out)).mono ?_
  rintro e w3 ⟨rfl, hT3⟩
  have HT3 := hide (HT2.out.trans hT3)
  clear hT3 HT2 HV HV2
  go_wp2
  all_goals
    go_ret
    refine ⟨ret_bool ?_, HT3.out⟩
    clear HT3 HT HN
    grind [errE, errL]

end Go.Proofs.YtllbcbodfahidaaDoor
