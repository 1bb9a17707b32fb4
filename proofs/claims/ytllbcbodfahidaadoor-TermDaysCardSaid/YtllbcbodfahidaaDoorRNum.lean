/-
  Number of the reference, walked.
-/
import Derived.Test.YtllbcbodfahidaaDoorNum
namespace Go.Proofs.YtllbcbodfahidaaDoor
open Go.RowKit Cal

set_option maxRecDepth 100000 in
set_option maxHeartbeats 1000000 in
theorem rnumber_no (y m d : Int) (w : World) (h : vldB y m d = false) :
    Calls Tryd.prog 19 #[.agg #[.int .i64 y, .int .i64 m, .int .i64 d]] w fun e w' => e = .returned (.tuple #[.int .i64 0, .int .i64 1]) ∧ Turn [] w w' := by
  have hn : ¬ ((1 ≤ y ∧ y ≤ 9999) ∧ (1 ≤ d ∧ d ≤ len y m)) := by rw [← vld_iff, h]; simp
  clear h
  by_cases h1 : y < 1
  · go_enter Tryd.func19, Tryd.ntmps19
    go_wp2
    go_quiet (fail)
    go_wp2
    go_ret2
    exact ⟨rfl, ((Turn.refl [] w).alloc _).drewN _⟩
  have d1 : decide (y < 1) = false := by simpa using h1
  by_cases h2 : 9999 < y
  · have d2 : decide (9999 < y) = true := by simpa using h2
    go_enter Tryd.func19, Tryd.ntmps19
    go_wp2
    go_quiet (fail)
    go_wp2
    go_ret2
    exact ⟨rfl, ((Turn.refl [] w).alloc _).drewN _⟩
  have d2 : decide (9999 < y) = false := by simpa using h2
  by_cases h3 : m < 1
  · have d3 : decide (m < 1) = true := by simpa using h3
    go_enter Tryd.func19, Tryd.ntmps19
    go_wp2
    go_quiet (fail)
    go_wp2
    go_ret2
    exact ⟨rfl, ((Turn.refl [] w).alloc _).drewN _⟩
  have d3 : decide (m < 1) = false := by simpa using h3
  by_cases h4 : 12 < m
  · have d4 : decide (12 < m) = true := by simpa using h4
    go_enter Tryd.func19, Tryd.ntmps19
    go_wp2
    go_quiet (fail)
    go_wp2
    go_ret2
    exact ⟨rfl, ((Turn.refl [] w).alloc _).drewN _⟩
  have d4 : decide (12 < m) = false := by simpa using h4
  by_cases h5 : d < 1
  · have d5 : decide (d < 1) = true := by simpa using h5
    go_enter Tryd.func19, Tryd.ntmps19
    go_wp2
    go_quiet (fail)
    go_wp2
    go_ret2
    exact ⟨rfl, ((Turn.refl [] w).alloc _).drewN _⟩
  have d5 : decide (d < 1) = false := by simpa using h5
  have h6 : len y m < d := by omega
  go_enter Tryd.func19, Tryd.ntmps19
  go_wp2
  go_quiet ((go_at_call 16; exact Calls.quiet_of_same (rlength_any y m _)))
  go_wp2
  go_ret2
  exact ⟨rfl, ((Turn.refl [] w).alloc _).drewN _⟩

set_option maxRecDepth 100000 in
set_option maxHeartbeats 1000000 in
theorem rnumber_yes (y m d : Int) (w : World) (h : vldB y m d = true) :
    Calls Tryd.prog 19 #[.agg #[.int .i64 y, .int .i64 m, .int .i64 d]] w fun e w' => e = .returned (.tuple #[.int .i64 (num y m d), .int .i64 0]) ∧ Turn [] w w' := by
  obtain ⟨hm1, hm2⟩ := vld_m h
  obtain ⟨⟨hy1, hy2⟩, hd1, hd2⟩ := vld_iff.1 h
  have hl31 := (len_bd y m).2
  obtain ⟨hb1, hb2⟩ := dby_bd y (by omega) (by omega)
  have d1 : decide (y < 1) = false := by simpa using hy1
  have d2 : decide (9999 < y) = false := by simpa using hy2
  have d5 : decide (m < 1) = false := by simpa using hm1
  have d6 : decide (12 < m) = false := by simpa using hm2
  have d3 : decide (d < 1) = false := by simpa using hd1
  have d4 : decide (len y m < d) = false := by simpa using hd2
  have hny : ∀ W, Calls Tryd.prog 27 #[.int .i64 y] W fun e w' => e = .returned (.int .i64 (dby y)) ∧ w' = W := fun W => before_any y W hy1 (by omega)
  have w0 : IntKind.i64.wrap (dby y - 719162) = dby y - 719162 := by rw [IntKind.wrap_i64]; omega
  have w1 : IntKind.i64.wrap (dby y - 719162 + d) = dby y - 719162 + d := by rw [IntKind.wrap_i64]; omega
  have w2 : IntKind.i64.wrap (dby y - 719162 + d - 1) = dby y - 719162 + d - 1 := by rw [IntKind.wrap_i64]; omega
  clear h
  go_enter Tryd.func19, Tryd.ntmps19
  go_wp2
  go_quiet ((go_at_call 16; exact Calls.quiet_of_same (rlength_any y m _)))
  go_wp2
  have HD := hide ((DateAt.new w y m d 33).turn ((Turn.refl [] _).drewN nq))
  have HT := hide (((Turn.refl [] w).alloc (.cells #[.int .i64 y, .int .i64 m, .int .i64 d] 33)).drewN nq)
  generalize (w.alloc (.cells #[.int .i64 y, .int .i64 m, .int .i64 d] 33)).drewN nq = W at *
  obtain ⟨c0, c1, c2, -⟩ := HD.out
  generalize w.heap.size = g at *
  clear d1 d2 d3 d4 d5 d6
  go_quiet ((go_at_call 27; exact Calls.quiet_of_same (hny _)))
  go_wp2
  clear w0 w1 w2
  go_loop [4, 5] (fun s i => ∃ k : Int, 1 ≤ k ∧ k ≤ m ∧ i = .int .i64 k ∧ s = .int .i64 (dby y - 719162 + d - 1 + cum y k)) (fun _ i => (m - intOf i).toNat)
  case atStart => exact ⟨1, by omega, by omega, rfl, by rw [cum_one]; go_num⟩
  case round =>
    obtain ⟨k, hk1, hk2, rfl, rfl⟩ := hrel
    obtain ⟨c1, c2⟩ := cum_bd y k hk1 (by omega)
    have c3 := len_bd y k
    have HS := hide (cum_succ y k hk1 (by omega))
    by_cases hlt : k < m
    · go_wp2_with (go_at_call 16; refine (rlength_any _ _ _).mono ?_; rintro e w' ⟨rfl, rfl⟩)
      go_round
      case rel => exact ⟨k + 1, by omega, by omega, rfl, by rw [HS.out]; go_num⟩
      case measure => simp [intOf]; omega
    · obtain rfl : k = m := by omega
      go_wp2
      go_ret2
      exact ⟨ret_tup (by unfold num; omega), HT.out.drewN _⟩

set_option maxRecDepth 100000 in
set_option maxHeartbeats 1000000 in
theorem rof_no (n : Int) (w : World) (h : n < -719162 ∨ 2932896 < n) :
    Calls Tryd.prog 15 #[.int .i64 n] w fun e w' => e = .returned (.tuple #[.agg #[.int .i64 0, .int .i64 0, .int .i64 0], .int .i64 1]) ∧ Turn [] w w' := by
  have n2 : ∀ W, Calls Tryd.prog 27 #[.int .i64 10000] W fun e w' => e = .returned (.int .i64 3652059) ∧ w' = W := fun W => (before_any 10000 W (by omega) (by omega)).mono fun e w' h => by rw [show dby 10000 = 3652059 by decide] at h; exact h
  by_cases h1 : n < -719162
  · go_enter Tryd.func15, Tryd.ntmps15
    go_wp2
    exact bodyPost_ret (v := .tuple #[.agg #[.int .i64 0, .int .i64 0, .int .i64 0], .int .i64 1]) (by simp [results, Tryd.results15, go_sem]) rfl ⟨rfl, (Turn.refl [] w).alloc _⟩
  · have h2 : 2932896 < n := by omega
    go_enter Tryd.func15, Tryd.ntmps15
    go_wp2_with fail
    refine (n2 _).mono ?_
    rintro e w' ⟨rfl, rfl⟩
    go_wp2
    exact bodyPost_ret (v := .tuple #[.agg #[.int .i64 0, .int .i64 0, .int .i64 0], .int .i64 1]) (by simp [results, Tryd.results15, go_sem]) rfl ⟨rfl, (Turn.refl [] w).alloc _⟩

theorem guess (r : Int) (h : 0 ≤ r) : dby (r / 366 + 1) ≤ r := by unfold dby; omega

set_option maxRecDepth 100000 in
set_option maxHeartbeats 1000000 in
theorem rof_yes (n : Int) (w : World) (h1 : -719162 ≤ n) (h2 : n ≤ 2932896) :
    Calls Tryd.prog 15 #[.int .i64 n] w fun e w' => ∃ y m d : Int, e = .returned (.tuple #[.agg #[.int .i64 y, .int .i64 m, .int .i64 d], .int .i64 0]) ∧ vldB y m d = true ∧ num y m d = n ∧ Turn [] w w' := by
  have n2 : ∀ W, Calls Tryd.prog 27 #[.int .i64 10000] W fun e w' => e = .returned (.int .i64 3652059) ∧ w' = W := fun W => (before_any 10000 W (by omega) (by omega)).mono fun e w' h => by rw [show dby 10000 = 3652059 by decide] at h; exact h
  have g0 := guess (n + 719162) (by omega)
  have HE := hide (show dby 10000 = 3652059 by decide)
  go_enter Tryd.func15, Tryd.ntmps15
  go_wp2_with fail
  refine (n2 _).mono ?_
  rintro e w' ⟨rfl, rfl⟩
  go_wp2_with fail
  clear n2
  go_loop [4] (fun t => ∃ y : Int, 1 ≤ y ∧ y ≤ 9999 ∧ dby y ≤ n + 719162 ∧ t = .int .i64 y) (fun t => (10000 - intOf t).toNat)
  case atStart => exact ⟨_, by omega, by omega, g0, rfl⟩
  case round =>
    obtain ⟨y, hy1, hy2, hy3, rfl⟩ := hrel
    clear g0
    by_cases hd : dby (y + 1) ≤ n + 719162
    · have hlt : y < 9999 := by
        rcases Int.lt_or_le y 9999 with h | h
        · exact h
        · obtain rfl : y = 9999 := by omega
          have := HE.out
          rw [show (9999 : Int) + 1 = 10000 from rfl] at hd
          omega
      go_wp2_with (go_at_call 27; refine (before_any _ _ (by omega) (by omega)).mono ?_; rintro e w' ⟨rfl, rfl⟩)
      go_round
      case rel => exact ⟨y + 1, by omega, by omega, hd, rfl⟩
      case measure => simp [intOf]; omega
    · have hz : n + 719162 < dby (y + 1) := by omega
      have hb := dby_bd y (by omega) (by omega)
      have HS := hide (dby_succ y)
      have hl := lp_01 y
      have h366 : n + 719162 < dby y + 366 := by rw [HS.out] at hz; omega
      go_wp2_with (go_at_call 27; refine (before_any _ _ (by omega) (by omega)).mono ?_; rintro e w' ⟨rfl, rfl⟩)
      go_loop [5, 6] (fun r k => ∃ m : Int, 1 ≤ m ∧ m ≤ 12 ∧ k = .int .i64 m ∧ 0 ≤ n + 719162 - dby y - cum y m ∧ r = .int .i64 (n + 719162 - dby y - cum y m)) (fun _ k => (13 - intOf k).toNat)
      case atStart => exact ⟨1, by omega, by omega, rfl, by rw [cum_one]; omega, by rw [cum_one]; go_num⟩
      case round =>
        obtain ⟨m, hm1, hm2, rfl, hr, rfl⟩ := hrel
        have cb := cum_bd y m hm1 (by omega)
        have db := len_bd y m
        have HC := hide (cum_succ y m hm1 hm2)
        by_cases hc : len y m ≤ n + 719162 - dby y - cum y m
        · have hm : m < 12 := by
            rcases Int.lt_or_le m 12 with h | h
            · exact h
            · obtain rfl : m = 12 := by omega
              have a := HC.out
              rw [show (12 : Int) + 1 = 13 from rfl, cum_13] at a
              rw [HS.out] at hz
              omega
          go_wp2_with (go_at_call 16; refine (rlength_any _ _ _).mono ?_; rintro e w' ⟨rfl, rfl⟩)
          go_round
          case rel => exact ⟨m + 1, by omega, by omega, rfl, by rw [HC.out]; omega, by rw [HC.out]; go_num⟩
          case measure => simp [intOf]; omega
        · have hv : vldB y m (n + 719162 - dby y - cum y m + 1) = true := by rw [vld_iff]; omega
          have hn : num y m (n + 719162 - dby y - cum y m + 1) = n := by unfold num; omega
          have HN := hide hn
          clear hn
          go_wp2_with (go_at_call 16; refine (rlength_any _ _ _).mono ?_; rintro e w' ⟨rfl, rfl⟩)
          exact bodyPost_ret (v := .tuple #[.agg #[.int .i64 y, .int .i64 m, .int .i64 (n + 719162 - dby y - cum y m + 1)], .int .i64 0]) (by simp [results, Tryd.results15, go_sem]) rfl ⟨y, m, _, rfl, hv, HN.out, (Turn.refl _ _).alloc _⟩

end Go.Proofs.YtllbcbodfahidaaDoor
