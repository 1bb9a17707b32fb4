/-
  Number of the reference, walked.
-/
import Derived.Test.YtllbcbodfahidabDoorNum
namespace Go.Proofs.YtllbcbodfahidabDoor
open Go.RowKit Cal

set_option maxRecDepth 100000 in
set_option maxHeartbeats 1000000 in
theorem rnumber_no (y m d : Int) (w : World) (h : vldB y m d = false) :
    Calls Tryd.prog 8 #[.agg #[.int .i64 y, .int .i64 m, .int .i64 d]] w fun e w' => e = .returned (.tuple #[.int .i64 0, .int .i64 1]) ∧ Turn [] w w' := by
  have hn : ¬ ((1 ≤ y ∧ y ≤ 9999) ∧ (1 ≤ d ∧ d ≤ len y m)) := by rw [← vld_iff, h]; simp
  clear h
  by_cases h1 : y < 1
  · go_enter Tryd.func8, Tryd.ntmps8
    go_wp2
    go_quiet (fail)
    go_wp2
    go_ret2
    exact ⟨rfl, ((Turn.refl [] w).alloc _).drewN _⟩
  have d1 : decide (y < 1) = false := by simpa using h1
  by_cases h2 : 9999 < y
  · have d2 : decide (9999 < y) = true := by simpa using h2
    go_enter Tryd.func8, Tryd.ntmps8
    go_wp2
    go_quiet (fail)
    go_wp2
    go_ret2
    exact ⟨rfl, ((Turn.refl [] w).alloc _).drewN _⟩
  have d2 : decide (9999 < y) = false := by simpa using h2
  by_cases h3 : m < 1
  · have d3 : decide (m < 1) = true := by simpa using h3
    go_enter Tryd.func8, Tryd.ntmps8
    go_wp2
    go_quiet (fail)
    go_wp2
    go_ret2
    exact ⟨rfl, ((Turn.refl [] w).alloc _).drewN _⟩
  have d3 : decide (m < 1) = false := by simpa using h3
  by_cases h4 : 12 < m
  · have d4 : decide (12 < m) = true := by simpa using h4
    go_enter Tryd.func8, Tryd.ntmps8
    go_wp2
    go_quiet (fail)
    go_wp2
    go_ret2
    exact ⟨rfl, ((Turn.refl [] w).alloc _).drewN _⟩
  have d4 : decide (12 < m) = false := by simpa using h4
  by_cases h5 : d < 1
  · have d5 : decide (d < 1) = true := by simpa using h5
    go_enter Tryd.func8, Tryd.ntmps8
    go_wp2
    go_quiet (fail)
    go_wp2
    go_ret2
    exact ⟨rfl, ((Turn.refl [] w).alloc _).drewN _⟩
  have d5 : decide (d < 1) = false := by simpa using h5
  have h6 : len y m < d := by omega
  go_enter Tryd.func8, Tryd.ntmps8
  go_wp2
  go_quiet ((go_at_call 15; exact Calls.quiet_of_same (rlength_any y m _)))
  go_wp2
  go_ret2
  exact ⟨rfl, ((Turn.refl [] w).alloc _).drewN _⟩

set_option maxRecDepth 100000 in
set_option maxHeartbeats 1000000 in
theorem rnumber_yes (y m d : Int) (w : World) (h : vldB y m d = true) :
    Calls Tryd.prog 8 #[.agg #[.int .i64 y, .int .i64 m, .int .i64 d]] w fun e w' => e = .returned (.tuple #[.int .i64 (num y m d), .int .i64 0]) ∧ Turn [] w w' := by
  obtain ⟨hm1, hm2⟩ := vld_m h
  obtain ⟨⟨hy1, hy2⟩, hd1, hd2⟩ := vld_iff.1 h
  have hl31 := (len_bd y m).2
  obtain ⟨hb1, hb2⟩ := dby_bd y (by omega) (by omega)
  have d1 : decide (y < 1) = false := by simpa using hy1
  have d2 : decide (9999 < y) = false := by simpa using hy2
  have d5 : decide (m < 1) = false := by simpa using hm1
  have d6 : decide (12 < m) = false := by simpa using hm2
  have d3 : decide (d < 1) = false := by simpa using hd1
  have d4 : decide (len y m < d) = false := by simpa using hd2
  have hny : ∀ W, Calls Tryd.prog 16 #[.int .i64 y] W fun e w' => e = .returned (.int .i64 (dby y)) ∧ w' = W := fun W => before_any y W hy1 (by omega)
  have w0 : IntKind.i64.wrap (dby y - 719162) = dby y - 719162 := by rw [IntKind.wrap_i64]; omega
  have w1 : IntKind.i64.wrap (dby y - 719162 + d) = dby y - 719162 + d := by rw [IntKind.wrap_i64]; omega
  have w2 : IntKind.i64.wrap (dby y - 719162 + d - 1) = dby y - 719162 + d - 1 := by rw [IntKind.wrap_i64]; omega
  clear h
  go_enter Tryd.func8, Tryd.ntmps8
  go_wp2
  go_quiet ((go_at_call 15; exact Calls.quiet_of_same (rlength_any y m _)))
  go_wp2
  have HD := hide ((DateAt.new w y m d 32).turn ((Turn.refl [] _).drewN nq))
  have HT := hide (((Turn.refl [] w).alloc (.cells #[.int .i64 y, .int .i64 m, .int .i64 d] 32)).drewN nq)
  generalize (w.alloc (.cells #[.int .i64 y, .int .i64 m, .int .i64 d] 32)).drewN nq = W at *
  obtain ⟨c0, c1, c2, -⟩ := HD.out
  generalize w.heap.size = g at *
  clear d1 d2 d3 d4 d5 d6
  go_quiet ((go_at_call 16; exact Calls.quiet_of_same (hny _)))
  go_wp2
  clear w0 w1 w2
  go_loop [4, 5] (fun s i => ∃ k : Int, 1 ≤ k ∧ k ≤ m ∧ i = .int .i64 k ∧ s = .int .i64 (dby y - 719162 + d - 1 + cum y k)) (fun _ i => (m - intOf i).toNat)
  case atStart => exact ⟨1, by omega, by omega, rfl, by rw [cum_one]; go_num⟩
  case round =>
    obtain ⟨k, hk1, hk2, rfl, rfl⟩ := hrel
    obtain ⟨c1, c2⟩ := cum_bd y k hk1 (by omega)
    have c3 := len_bd y k
    have HS := hide (cum_succ y k hk1 (by omega))
    by_cases hlt : k < m
    · go_wp2_with (go_at_call 15; refine (rlength_any _ _ _).mono ?_; rintro e w' ⟨rfl, rfl⟩)
      go_round
      case rel => exact ⟨k + 1, by omega, by omega, rfl, by rw [HS.out]; go_num⟩
      case measure => simp [intOf]; omega
    · obtain rfl : k = m := by omega
      go_wp2
      go_ret2
      exact ⟨ret_tup (by unfold num; omega), HT.out.drewN _⟩

theorem guess (r : Int) (h : 0 ≤ r) : dby (r / 366 + 1) ≤ r := by unfold dby; omega

end Go.Proofs.YtllbcbodfahidabDoor
