/-
  The reference's Next by days, and of no kind, walked; program and reference agree.
-/
import Derived.Test.YtllbcbodfahidaaDoorRTerm
import Derived.Test.YtllbcbodfahidaaDoorKnown8
namespace Go.Proofs.YtllbcbodfahidaaDoor
open Go.RowKit Cal

set_option maxRecDepth 100000 in
set_option maxHeartbeats 1000000 in
theorem rnext_k (t a k n : Int) (w : World) (h0 : t ≠ 0) (h1 : t ≠ 1) :
    Calls Tryd.prog 11 #[.int .i64 t, .int .i64 a, .int .i64 k, .int .i64 n] w fun e w' => e = .returned (.tuple #[.int .i64 0, .int .i64 3]) ∧ Turn [] w w' := by
  have e0 : (t == 0) = false := by simpa using h0
  have e1 : (t == 1) = false := by simpa using h1
  go_enter Tryd.func11, Tryd.ntmps11
  go_wp2_with fail
  refine (rof_any n w).mono ?_
  rintro e w1 ⟨⟨y, m, d, f, rfl, -⟩, hT1⟩
  have HT1 := hide hT1
  clear hT1
  go_wp2
  go_ret2
  exact ⟨rfl, HT1.out.alloc _⟩

set_option maxRecDepth 100000 in
set_option maxHeartbeats 1000000 in
theorem rd_bad (a k n : Int) (w : World) (h : k < 1 ∨ 366 < k ∨ n < -719162 ∨ 2932896 < n) :
    Calls Tryd.prog 11 #[.int .i64 1, .int .i64 a, .int .i64 k, .int .i64 n] w fun e w' => e = .returned (.tuple #[.int .i64 0, .int .i64 1]) ∧ Turn [] w w' := by
  have HC := hide h
  clear h
  by_cases h1 : k < 1
  · go_enter Tryd.func11, Tryd.ntmps11
    go_wp2_with fail
    refine (rof_any n w).mono ?_
    rintro e w1 ⟨⟨y, m, d, f, rfl, -⟩, hT1⟩
    have HT1 := hide hT1
    clear hT1
    go_wp2
    go_ret2
    exact ⟨rfl, HT1.out.alloc _⟩
  · by_cases h2 : 366 < k
    · go_enter Tryd.func11, Tryd.ntmps11
      go_wp2_with fail
      refine (rof_any n w).mono ?_
      rintro e w1 ⟨⟨y, m, d, f, rfl, -⟩, hT1⟩
      have HT1 := hide hT1
      clear hT1
      go_wp2
      go_ret2
      exact ⟨rfl, HT1.out.alloc _⟩
    · have h3 : n < -719162 ∨ 2932896 < n := by have := HC.out; omega
      have H3 := hide h3
      clear h3
      go_enter Tryd.func11, Tryd.ntmps11
      go_wp2_with fail
      refine (rof_no n w H3.out).mono ?_
      rintro e w1 ⟨rfl, hT1⟩
      have HT1 := hide hT1
      clear hT1
      go_wp2
      go_ret2
      exact ⟨rfl, HT1.out.alloc _⟩

set_option maxRecDepth 100000 in
set_option maxHeartbeats 1000000 in
theorem rd_far (a k n : Int) (w : World) (h1 : 1 ≤ k) (h2 : k ≤ 366) (h3 : -719162 ≤ n) (h4 : n ≤ 2932896) (h5 : 2932896 < n + k) :
    Calls Tryd.prog 11 #[.int .i64 1, .int .i64 a, .int .i64 k, .int .i64 n] w fun e w' => e = .returned (.tuple #[.int .i64 0, .int .i64 1]) ∧ Turn [] w w' := by
  go_enter Tryd.func11, Tryd.ntmps11
  go_wp2_with fail
  refine (rof_yes n w h3 h4).mono ?_
  rintro e w1 ⟨y, m, d, rfl, -, -, hT1⟩
  have HT1 := hide (hT1.alloc (.cells #[.int .i64 y, .int .i64 m, .int .i64 d] 33))
  clear hT1
  go_wp2_with fail
  generalize w1.alloc (.cells #[.int .i64 y, .int .i64 m, .int .i64 d] 33) = W1 at *
  generalize w1.heap.size = g at *
  refine (rof_no (n + k) W1 (.inr h5)).mono ?_
  rintro e w2 ⟨rfl, hT2⟩
  have HT2 := hide (HT1.out.trans hT2)
  clear hT2 HT1
  go_wp2
  go_ret2
  exact ⟨rfl, HT2.out⟩

set_option maxRecDepth 100000 in
set_option maxHeartbeats 1000000 in
theorem rd_yes (a k n : Int) (w : World) (h1 : 1 ≤ k) (h2 : k ≤ 366) (h3 : -719162 ≤ n) (h4 : n ≤ 2932896) (h5 : n + k ≤ 2932896) :
    Calls Tryd.prog 11 #[.int .i64 1, .int .i64 a, .int .i64 k, .int .i64 n] w fun e w' => e = .returned (.tuple #[.int .i64 (n + k), .int .i64 0]) ∧ Turn [] w w' := by
  go_enter Tryd.func11, Tryd.ntmps11
  go_wp2_with fail
  refine (rof_yes n w h3 h4).mono ?_
  rintro e w1 ⟨y, m, d, rfl, -, -, hT1⟩
  have HT1 := hide (hT1.alloc (.cells #[.int .i64 y, .int .i64 m, .int .i64 d] 33))
  clear hT1
  go_wp2_with fail
  generalize w1.alloc (.cells #[.int .i64 y, .int .i64 m, .int .i64 d] 33) = W1 at *
  generalize w1.heap.size = g at *
  refine (rof_yes (n + k) W1 (by omega) h5).mono ?_
  rintro e w2 ⟨y2, m2, d2, rfl, -, -, hT2⟩
  have HT2 := hide (HT1.out.trans hT2)
  clear hT2 HT1
  go_wp2
  go_ret2
  exact ⟨rfl, HT2.out⟩

/-- Program and reference agree on Next. -/
theorem both_next (t a k n : Int) : ∃ V E, (∀ w, Tab w → Calls Tryd.prog 10 #[.int .i64 t, .int .i64 a, .int .i64 k, .int .i64 n] w fun e w' => e = .returned (.tuple #[.int .i64 V, .int .i64 E]) ∧ Turn [] w w') ∧
    ∀ w, Calls Tryd.prog 11 #[.int .i64 t, .int .i64 a, .int .i64 k, .int .i64 n] w fun e w' => e = .returned (.tuple #[.int .i64 V, .int .i64 E]) ∧ Turn [] w w' := by
  by_cases t0 : t = 0
  · subst t0
    by_cases ha : a < 1 ∨ 31 < a
    · exact ⟨0, 1, fun w _ => next_m (nb_bad a n w ha), fun w => rnb_bad a k n w (by omega)⟩
    by_cases hn : n < -719162 ∨ 2932896 < n
    · exact ⟨0, 1, fun w hT => next_m (nb_no a n w hT (by omega) (by omega) hn), fun w => rnb_bad a k n w (by omega)⟩
    obtain ⟨s, d, s1, s2, d1, d2, rfl⟩ := mon_of (n := n) (by omega) (by omega)
    have hv := vld_mon s1 s2 d1 d2
    have hN := num_mon s d
    have hb := bound_in a s (by omega) s1 s2
    by_cases hc : bd a s ≤ d
    · have hx : B a s ≤ FM s + d - 1 := (bd_iff a s d).1 hc
      have hs : (s % 12 + 1 < 12 ∧ s / 12 = (s + 1) / 12 ∧ s % 12 + 1 + 1 = (s + 1) % 12 + 1) ∨ (s % 12 + 1 = 12 ∧ s / 12 + 1 = (s + 1) / 12 ∧ 1 = (s + 1) % 12 + 1) := by omega
      by_cases ht : s + 1 < 120000
      · have hb' := bound_in a (s + 1) (by omega) (by omega) ht
        refine ⟨B a (s + 1), 0, fun w hT => ?_, fun w => rnb_ok _ _ d a k _ _ _ _ _ w (by omega) (by omega) hv hN hb.1 hb.2 hx hs hb'.1 hb'.2⟩
        have c := nb_step _ _ d a _ w hT (by omega) (by omega) hv hN hc
        rw [sy_mon, sm_mon, hb'.1, hb'.2] at c
        exact next_m c
      · have hb' := bound_out a (s + 1) (by omega)
        refine ⟨0, 1, fun w hT => ?_, fun w => rnb_no _ _ d a k _ _ _ _ _ w (by omega) (by omega) hv hN hb.1 hb.2 hx hs hb'.1 hb'.2⟩
        have c := nb_step _ _ d a _ w hT (by omega) (by omega) hv hN hc
        rw [sy_mon, sm_mon, hb'.1, hb'.2] at c
        exact next_m c
    · have hx : FM s + d - 1 < B a s := by have := bd_iff a s d; omega
      refine ⟨B a s, 0, fun w hT => ?_, fun w => rnb_this _ _ d a k _ _ w (by omega) (by omega) hv hN hb.1 hb.2 hx⟩
      have c := nb_this _ _ d a _ w hT (by omega) (by omega) hv hN hc
      rw [hb.1, hb.2] at c
      exact next_m c
  by_cases t1 : t = 1
  · subst t1
    by_cases hk : k < 1 ∨ 366 < k
    · exact ⟨0, 1, fun w _ => next_d (db_bad k n w hk), fun w => rd_bad a k n w (by omega)⟩
    by_cases hn : n < -719162 ∨ 2932896 < n
    · exact ⟨0, 1, fun w _ => next_d (db_no k n w (by omega) (by omega) hn), fun w => rd_bad a k n w (by omega)⟩
    by_cases hs : 2932896 < n + k
    · exact ⟨0, 1, fun w hT => next_d (db_far k n w hT (by omega) (by omega) (by omega) (by omega) hs), fun w => rd_far a k n w (by omega) (by omega) (by omega) (by omega) hs⟩
    · exact ⟨n + k, 0, fun w hT => next_d (db_yes k n w hT (by omega) (by omega) (by omega) (by omega)), fun w => rd_yes a k n w (by omega) (by omega) (by omega) (by omega) (by omega)⟩
  · exact ⟨0, 3, fun w _ => next_k t a k n w t0 t1, fun w => rnext_k t a k n w t0 t1⟩

/-- Program and reference agree on Last. -/
theorem both_last (a n : Int) : ∃ V E, (∀ w, Tab w → Calls Tryd.prog 12 #[.int .i64 a, .int .i64 n] w fun e w' => e = .returned (.tuple #[.int .i64 V, .int .i64 E]) ∧ Turn [] w w') ∧
    ∀ w, Calls Tryd.prog 13 #[.int .i64 a, .int .i64 n] w fun e w' => e = .returned (.tuple #[.int .i64 V, .int .i64 E]) ∧ Turn [] w w' := by
  by_cases ha : a < 1 ∨ 31 < a
  · exact ⟨0, 1, fun w _ => lb_bad a n w ha, fun w => rlb_bad a n w (by omega)⟩
  by_cases hn : n < -719162 ∨ 2932896 < n
  · exact ⟨0, 1, fun w hT => lb_no a n w hT (by omega) (by omega) hn, fun w => rlb_bad a n w (by omega)⟩
  obtain ⟨s, d, s1, s2, d1, d2, rfl⟩ := mon_of (n := n) (by omega) (by omega)
  have hv := vld_mon s1 s2 d1 d2
  have hN := num_mon s d
  have hb := bound_in a s (by omega) s1 s2
  by_cases hc : d < bd a s
  · have hx : FM s + d - 1 < B a s := by have := bd_iff a s d; omega
    have hs : (1 < s % 12 + 1 ∧ s / 12 = (s - 1) / 12 ∧ s % 12 + 1 - 1 = (s - 1) % 12 + 1) ∨ (s % 12 + 1 = 1 ∧ s / 12 - 1 = (s - 1) / 12 ∧ 12 = (s - 1) % 12 + 1) := by omega
    by_cases ht : 12 ≤ s - 1
    · have hb' := bound_in a (s - 1) (by omega) ht (by omega)
      refine ⟨B a (s - 1), 0, fun w hT => ?_, fun w => rlb_ok _ _ d a _ _ _ _ _ w (by omega) (by omega) hv hN hb.1 hb.2 hx hs hb'.1 hb'.2⟩
      have c := lb_step _ _ d a _ w hT (by omega) (by omega) hv hN hc
      rw [py_mon, pm_mon, hb'.1, hb'.2] at c
      exact c
    · have hb' := bound_out a (s - 1) (by omega)
      refine ⟨0, 1, fun w hT => ?_, fun w => rlb_no _ _ d a _ _ _ _ _ w (by omega) (by omega) hv hN hb.1 hb.2 hx hs hb'.1 hb'.2⟩
      have c := lb_step _ _ d a _ w hT (by omega) (by omega) hv hN hc
      rw [py_mon, pm_mon, hb'.1, hb'.2] at c
      exact c
  · have hx : B a s ≤ FM s + d - 1 := (bd_iff a s d).1 (by omega)
    refine ⟨B a s, 0, fun w hT => ?_, fun w => rlb_this _ _ d a _ _ w (by omega) (by omega) hv hN hb.1 hb.2 hx⟩
    have c := lb_this _ _ d a _ w hT (by omega) (by omega) hv hN hc
    rw [hb.1, hb.2] at c
    exact c

set_option maxRecDepth 100000 in
set_option maxHeartbeats 2000000 in
theorem bounds_any (t a k n : Int) (w : World) (hT : Tab w) : Calls Tryd.prog 3 #[.int .i64 t, .int .i64 a, .int .i64 k, .int .i64 n] w fun e w' => e = .returned (.bool true) ∧ Turn [] w w' := by
  have HT := hide hT
  clear hT
  obtain ⟨V, E, hV, hR⟩ := both_next t a k n
  obtain ⟨V2, E2, hV2, hR2⟩ := both_last a n
  have HV := hide hV
  have HV2 := hide hV2
  have HR := hide hR
  have HR2 := hide hR2
  clear hV hV2 hR hR2
  go_enter Tryd.func3, Tryd.ntmps3
  go_wp2_with fail
  refine (known_any _ HT.out).mono ?_
  rintro e w1 ⟨rfl, hT1⟩
  have HT1 := hide hT1
  clear hT1
  go_wp2_with fail
  refine (HV.out _ (HT.out.turn HT1.out)).mono ?_
  rintro e w2 ⟨rfl, hT2⟩
  have HT2 := hide (HT1.out.trans hT2)
  clear hT2 HT1
  go_wp2_with fail
  refine (HR.out _).mono ?_
  rintro e w3 ⟨rfl, hT3⟩
  have HT3 := hide (HT2.out.trans hT3)
  clear hT3 HT2
  go_wp2_with fail
  refine (HV2.out _ (HT.out.turn HT3.out)).mono ?_
  rintro e w4 ⟨rfl, hT4⟩
  have HT4 := hide (HT3.out.trans hT4)
  clear hT4 HT3
  go_wp2_with fail
  refine (HR2.out _).mono ?_
  rintro e w5 ⟨rfl, hT5⟩
  have HT5 := hide (HT4.out.trans hT5)
  clear hT5 HT4
  go_wp2
  go_ret
  exact ⟨rfl, HT5.out⟩

end Go.Proofs.YtllbcbodfahidaaDoor
