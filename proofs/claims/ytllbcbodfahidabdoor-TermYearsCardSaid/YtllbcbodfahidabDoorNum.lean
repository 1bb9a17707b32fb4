/-
  Number of the program, walked.
-/
import Derived.Test.YtllbcbodfahidabDoorYear
namespace Go.Proofs.YtllbcbodfahidabDoor
open Go.RowKit Cal

/-- A date in memory. -/
structure DateAt (w : World) (g : Nat) (y m d : Int) : Prop where
  c0 : w.cell? ⟨g, 0, none⟩ = some (.int .i64 y)
  c1 : w.cell? ⟨g, 1, none⟩ = some (.int .i64 m)
  c2 : w.cell? ⟨g, 2, none⟩ = some (.int .i64 d)
  fz : ∀ o, w.frozen? ⟨g, o, none⟩ = false

theorem DateAt.lt {w : World} {g : Nat} {y m d : Int} (h : DateAt w g y m d) : g < w.heap.size := lt_of_cell h.c0
theorem DateAt.keep {w w' : World} {g : Nat} {y m d : Int} (h : DateAt w g y m d) (hb : w'.heap[g]? = w.heap[g]?) : DateAt w' g y m d :=
  ⟨(World.cell?_of_block (a := ⟨g, 0, none⟩) hb).trans h.c0, (World.cell?_of_block (a := ⟨g, 1, none⟩) hb).trans h.c1, (World.cell?_of_block (a := ⟨g, 2, none⟩) hb).trans h.c2,
    fun o => by rw [← h.fz o]; unfold World.frozen?; rw [show w'.heap[(⟨g, o, none⟩ : Addr).block]? = w.heap[(⟨g, o, none⟩ : Addr).block]? from hb]⟩
theorem DateAt.turn {w w' : World} {g : Nat} {y m d : Int} (h : DateAt w g y m d) (hT : Turn [] w w') : DateAt w' g y m d := h.keep (hT.block g h.lt (by simp))
theorem DateAt.new (w : World) (y m d : Int) (t : TypeId) : DateAt (w.alloc (.cells #[.int .i64 y, .int .i64 m, .int .i64 d] t)) w.heap.size y m d := by
  refine ⟨?_, ?_, ?_, fun o => ?_⟩
  · rw [World.cell?_alloc_at _ _ _ _ rfl]; rfl
  · rw [World.cell?_alloc_at _ _ _ _ rfl]; rfl
  · rw [World.cell?_alloc_at _ _ _ _ rfl]; rfl
  · unfold World.frozen?
    rw [show (w.alloc _).heap[(⟨w.heap.size, o, none⟩ : Addr).block]? = _ from heap_alloc_new w _]
    simp

theorem ret_tup {a b : Int} {e : Int} (h : a = b) : Ending.returned (.tuple #[.int .i64 a, .int .i64 e]) = .returned (.tuple #[.int .i64 b, .int .i64 e]) := by rw [h]
theorem dateNew_lt (w : World) (o : Obj) : w.heap.size < (w.alloc o).heap.size := by simp

set_option maxRecDepth 100000 in
set_option maxHeartbeats 1000000 in
theorem number_no (y m d : Int) (w : World) (hT : Tab w) (h : vldB y m d = false) :
    Calls Tryd.prog 12 #[.agg #[.int .i64 y, .int .i64 m, .int .i64 d]] w fun e w' => e = .returned (.tuple #[.int .i64 0, .int .i64 1]) ∧ Turn [] w w' := by
  have hn : ¬ ((1 ≤ y ∧ y ≤ 9999) ∧ (1 ≤ d ∧ d ≤ len y m)) := by rw [← vld_iff, h]; simp
  have hl : ∀ n, Calls Tryd.prog 18 #[.int .i64 y, .int .i64 m] ((w.alloc (.cells #[.int .i64 y, .int .i64 m, .int .i64 d] 32)).drewN n) fun e w' => e = .returned (.int .i64 (len y m)) ∧ w' = (w.alloc (.cells #[.int .i64 y, .int .i64 m, .int .i64 d] 32)).drewN n := fun n => length_any y m _ (hT.turn (((Turn.refl [] w).alloc _).drewN n))
  clear h hT
  by_cases h1 : y < 1
  · go_enter Tryd.func12, Tryd.ntmps12
    go_wp2
    go_quiet (fail)
    go_wp2
    go_ret2
    exact ⟨rfl, ((Turn.refl [] w).alloc _).drewN _⟩
  · by_cases h2 : 9999 < y
    · have d1 : decide (y < 1) = false := by simpa using h1
      have d2 : decide (9999 < y) = true := by simpa using h2
      go_enter Tryd.func12, Tryd.ntmps12
      go_wp2
      go_quiet (fail)
      go_wp2
      go_ret2
      exact ⟨rfl, ((Turn.refl [] w).alloc _).drewN _⟩
    · by_cases h3 : d < 1
      · have d1 : decide (y < 1) = false := by simpa using h1
        have d2 : decide (9999 < y) = false := by simpa using h2
        have d3 : decide (d < 1) = true := by simpa using h3
        go_enter Tryd.func12, Tryd.ntmps12
        go_wp2
        go_quiet (fail)
        go_wp2
        go_ret2
        exact ⟨rfl, ((Turn.refl [] w).alloc _).drewN _⟩
      · have h4 : len y m < d := by omega
        have d1 : decide (y < 1) = false := by simpa using h1
        have d2 : decide (9999 < y) = false := by simpa using h2
        have d3 : decide (d < 1) = false := by simpa using h3
        go_enter Tryd.func12, Tryd.ntmps12
        go_wp2
        go_quiet ((go_at_call 18; exact Calls.quiet_of_same (hl _)))
        go_wp2
        go_ret2
        exact ⟨rfl, ((Turn.refl [] w).alloc _).drewN _⟩

set_option maxRecDepth 100000 in
set_option maxHeartbeats 1000000 in
theorem number_yes (y m d : Int) (w : World) (hT : Tab w) (h : vldB y m d = true) :
    Calls Tryd.prog 12 #[.agg #[.int .i64 y, .int .i64 m, .int .i64 d]] w fun e w' => e = .returned (.tuple #[.int .i64 (num y m d), .int .i64 0]) ∧ Turn [] w w' := by
  obtain ⟨hm1, hm2⟩ := vld_m h
  obtain ⟨⟨hy1, hy2⟩, hd1, hd2⟩ := vld_iff.1 h
  have hl31 := (len_bd y m).2
  obtain ⟨hb1, hb2⟩ := dby_bd y (by omega) (by omega)
  have hl : ∀ k n, Calls Tryd.prog 18 #[.int .i64 y, .int .i64 k] ((w.alloc (.cells #[.int .i64 y, .int .i64 m, .int .i64 d] 32)).drewN n) fun e w' => e = .returned (.int .i64 (len y k)) ∧ w' = (w.alloc (.cells #[.int .i64 y, .int .i64 m, .int .i64 d] 32)).drewN n := fun k n => length_any y k _ (hT.turn (((Turn.refl [] w).alloc _).drewN n))
  have d1 : decide (y < 1) = false := by simpa using hy1
  have d2 : decide (9999 < y) = false := by simpa using hy2
  have d3 : decide (d < 1) = false := by simpa using hd1
  have d4 : decide (len y m < d) = false := by simpa using hd2
  have hny : ∀ W, Calls Tryd.prog 19 #[.int .i64 y] W fun e w' => e = .returned (.int .i64 (dby y - 719162)) ∧ w' = W := fun W => newYear_any y W hy1 (by omega)
  have w1 : IntKind.i64.wrap (dby y - 719162 + d) = dby y - 719162 + d := by rw [IntKind.wrap_i64]; omega
  have w2 : IntKind.i64.wrap (dby y - 719162 + d - 1) = dby y - 719162 + d - 1 := by rw [IntKind.wrap_i64]; omega
  have HTab0 := hide hT
  clear h hT
  go_enter Tryd.func12, Tryd.ntmps12
  go_wp2
  go_quiet ((go_at_call 18; exact Calls.quiet_of_same (hl _ _)))
  go_wp2
  have HD := hide ((DateAt.new w y m d 32).turn ((Turn.refl [] _).drewN nq))
  have HT := hide (((Turn.refl [] w).alloc (.cells #[.int .i64 y, .int .i64 m, .int .i64 d] 32)).drewN nq)
  have HTab := hide (HTab0.out.turn HT.out)
  clear hl
  generalize (w.alloc (.cells #[.int .i64 y, .int .i64 m, .int .i64 d] 32)).drewN nq = W at *
  obtain ⟨c0, c1, c2, -⟩ := HD.out
  generalize w.heap.size = g at *
  clear d1 d2 d3 d4
  go_quiet ((go_at_call 19; exact Calls.quiet_of_same (hny _)))
  go_wp2
  clear w1 w2
  go_loop [4, 5] (fun s i => ∃ k : Int, 1 ≤ k ∧ k ≤ m ∧ i = .int .i64 k ∧ s = .int .i64 (dby y - 719162 + d - 1 + cum y k)) (fun _ i => (m - intOf i).toNat)
  case atStart => exact ⟨1, by omega, by omega, rfl, by rw [cum_one]; go_num⟩
  case round =>
    obtain ⟨k, hk1, hk2, rfl, rfl⟩ := hrel
    obtain ⟨c1, c2⟩ := cum_bd y k hk1 (by omega)
    have c3 := len_bd y k
    have HS := hide (cum_succ y k hk1 (by omega))
    by_cases hlt : k < m
    · go_wp2_with (go_at_call 18; refine (length_any _ _ _ (HTab.out.turn ((Turn.refl [] _).drewN _))).mono ?_; rintro e w' ⟨rfl, rfl⟩)
      go_round
      case rel => exact ⟨k + 1, by omega, by omega, rfl, by rw [HS.out]; go_num⟩
      case measure => simp [intOf]; omega
    · obtain rfl : k = m := by omega
      go_wp2
      go_ret2
      exact ⟨ret_tup (by unfold num; omega), HT.out.drewN _⟩

end Go.Proofs.YtllbcbodfahidabDoor
