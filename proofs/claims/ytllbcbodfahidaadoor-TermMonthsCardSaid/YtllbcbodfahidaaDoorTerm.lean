/-
  Package term's functions, walked: boundOf, monthBehind, monthAhead, anchored.
-/
import Derived.Test.YtllbcbodfahidaaDoorLaw
import Derived.Test.YtllbcbodfahidaaDoorMon
namespace Go.Proofs.YtllbcbodfahidaaDoor
open Go.RowKit Cal

/-- The day of a date, or nothing. -/
def Cal.numV (y m d : Int) : Int := if vldB y m d then num y m d else 0
/-- Its error. -/
def Cal.errV (y m d : Int) : Int := if vldB y m d then 0 else 1
/-- The month behind. -/
def Cal.sy (y m : Int) : Int := if m = 12 then y + 1 else y
def Cal.sm (m : Int) : Int := if m = 12 then 1 else m + 1
/-- The month ahead. -/
def Cal.py (y m : Int) : Int := if m = 1 then y - 1 else y
def Cal.pm (m : Int) : Int := if m = 1 then 12 else m - 1

theorem number_any (y m d : Int) (w : World) (hT : Tab w) :
    Calls Tryd.prog 26 #[.agg #[.int .i64 y, .int .i64 m, .int .i64 d]] w fun e w' => e = .returned (.tuple #[.int .i64 (numV y m d), .int .i64 (errV y m d)]) ∧ Turn [] w w' := by
  by_cases h : vldB y m d = true
  · simp only [numV, errV, h, if_true]; exact number_yes y m d w hT h
  · have h' : vldB y m d = false := by simpa using h
    simp only [numV, errV, h', Bool.false_eq_true, if_false]; exact number_no y m d w hT h'

set_option maxRecDepth 100000 in
set_option maxHeartbeats 1000000 in
theorem bound_ymd (y m d a : Int) (w : World) (hT : Tab w) :
    Calls Tryd.prog 24 #[.agg #[.int .i64 y, .int .i64 m, .int .i64 d], .int .i64 a] w fun e w' => e = .returned (.agg #[.int .i64 y, .int .i64 m, .int .i64 (min a (len y m))]) ∧ Turn [] w w' := by
  have HT := hide hT
  clear hT
  by_cases h : len y m < a
  · rw [Int.min_eq_right (by omega)]
    go_enter Tryd.func24, Tryd.ntmps24
    go_wp2_with fail
    refine (length_any y m _ (HT.out.turn (((Turn.refl [] w).alloc _).alloc _))).mono ?_
    rintro e w' ⟨rfl, rfl⟩
    go_wp2
    exact bodyPost_ret (v := .agg #[.int .i64 y, .int .i64 m, .int .i64 (len y m)]) (by simp [results, Tryd.results24, go_sem]) rfl ⟨rfl, ((Turn.refl [] w).alloc _).alloc _⟩
  · rw [Int.min_eq_left (by omega)]
    have h' : a ≤ len y m := by omega
    go_enter Tryd.func24, Tryd.ntmps24
    go_wp2_with fail
    refine (length_any y m _ (HT.out.turn (((Turn.refl [] w).alloc _).alloc _))).mono ?_
    rintro e w' ⟨rfl, rfl⟩
    go_wp2
    exact bodyPost_ret (v := .agg #[.int .i64 y, .int .i64 m, .int .i64 (a)]) (by simp [results, Tryd.results24, go_sem]) rfl ⟨rfl, ((Turn.refl [] w).alloc _).alloc _⟩

set_option maxRecDepth 100000 in
set_option maxHeartbeats 1000000 in
theorem behind_ymd (y m d : Int) (w : World) (h0 : 0 ≤ y) (h1 : y ≤ 10000) (h2 : 1 ≤ m) (h3 : m ≤ 12) :
    Calls Tryd.prog 29 #[.agg #[.int .i64 y, .int .i64 m, .int .i64 d]] w fun e w' => e = .returned (.agg #[.int .i64 (sy y m), .int .i64 (sm m), .int .i64 d]) ∧ Turn [] w w' := by
  by_cases h : m = 12
  · subst h
    rw [show sy y 12 = y + 1 from if_pos rfl, show sm 12 = 1 from rfl]
    go_enter Tryd.func29, Tryd.ntmps29
    go_wp2
    exact bodyPost_ret (v := .agg #[.int .i64 (y + 1), .int .i64 1, .int .i64 d]) (by simp [results, Tryd.results29, go_sem]) rfl ⟨rfl, ((Turn.refl [] w).alloc _).alloc _⟩
  · have e : (m == 12) = false := by simpa using h
    rw [show sy y m = y from if_neg h, show sm m = m + 1 from if_neg h]
    go_enter Tryd.func29, Tryd.ntmps29
    go_wp2
    exact bodyPost_ret (v := .agg #[.int .i64 y, .int .i64 (m + 1), .int .i64 d]) (by simp [results, Tryd.results29, go_sem]) rfl ⟨rfl, ((Turn.refl [] w).alloc _).alloc _⟩

set_option maxRecDepth 100000 in
set_option maxHeartbeats 1000000 in
theorem ahead_ymd (y m d : Int) (w : World) (h0 : 0 ≤ y) (h1 : y ≤ 10000) (h2 : 1 ≤ m) (h3 : m ≤ 12) :
    Calls Tryd.prog 25 #[.agg #[.int .i64 y, .int .i64 m, .int .i64 d]] w fun e w' => e = .returned (.agg #[.int .i64 (py y m), .int .i64 (pm m), .int .i64 d]) ∧ Turn [] w w' := by
  by_cases h : m = 1
  · subst h
    rw [show py y 1 = y - 1 from if_pos rfl, show pm 1 = 12 from rfl]
    go_enter Tryd.func25, Tryd.ntmps25
    go_wp2
    exact bodyPost_ret (v := .agg #[.int .i64 (y - 1), .int .i64 12, .int .i64 d]) (by simp [results, Tryd.results25, go_sem]) rfl ⟨rfl, ((Turn.refl [] w).alloc _).alloc _⟩
  · have e : (m == 1) = false := by simpa using h
    rw [show py y m = y from if_neg h, show pm m = m - 1 from if_neg h]
    go_enter Tryd.func25, Tryd.ntmps25
    go_wp2
    exact bodyPost_ret (v := .agg #[.int .i64 y, .int .i64 (m - 1), .int .i64 d]) (by simp [results, Tryd.results25, go_sem]) rfl ⟨rfl, ((Turn.refl [] w).alloc _).alloc _⟩

set_option maxRecDepth 100000 in
set_option maxHeartbeats 1000000 in
theorem anchored_bad (a n : Int) (w : World) (h : a < 1 ∨ 31 < a) :
    Calls Tryd.prog 23 #[.int .i64 a, .int .i64 n] w fun e w' => e = .returned (.tuple #[.agg #[.int .i64 0, .int .i64 0, .int .i64 0], .int .i64 1]) ∧ Turn [] w w' := by
  by_cases h1 : a < 1
  · go_enter Tryd.func23, Tryd.ntmps23
    go_wp2
    exact bodyPost_ret (v := .tuple #[.agg #[.int .i64 0, .int .i64 0, .int .i64 0], .int .i64 1]) (by simp [results, Tryd.results23, go_sem]) rfl ⟨rfl, (Turn.refl [] w).alloc _⟩
  · have h2 : 31 < a := by omega
    go_enter Tryd.func23, Tryd.ntmps23
    go_wp2
    exact bodyPost_ret (v := .tuple #[.agg #[.int .i64 0, .int .i64 0, .int .i64 0], .int .i64 1]) (by simp [results, Tryd.results23, go_sem]) rfl ⟨rfl, (Turn.refl [] w).alloc _⟩

theorem of_any (n : Int) (w : World) (hT : Tab w) :
    Calls Tryd.prog 30 #[.int .i64 n] w fun e w' => (∃ y m d f : Int, e = .returned (.tuple #[.agg #[.int .i64 y, .int .i64 m, .int .i64 d], .int .i64 f]) ∧
      ((f = 1 ∧ y = 0 ∧ m = 0 ∧ d = 0 ∧ (n < -719162 ∨ 2932896 < n)) ∨ (f = 0 ∧ vldB y m d = true ∧ num y m d = n))) ∧ Turn [] w w' := by
  by_cases h : n < -719162 ∨ 2932896 < n
  · exact (of_no n w h).mono fun e w' ⟨h1, h2⟩ => ⟨⟨0, 0, 0, 1, h1, .inl ⟨rfl, rfl, rfl, rfl, h⟩⟩, h2⟩
  · exact (of_yes n w hT (by omega) (by omega)).mono fun e w' ⟨y, m, d, h1, h2, h3, h4⟩ => ⟨⟨y, m, d, 0, h1, .inr ⟨rfl, h2, h3⟩⟩, h4⟩

set_option maxRecDepth 100000 in
set_option maxHeartbeats 1000000 in
theorem anchored_ok (a n : Int) (w : World) (hT : Tab w) (h1 : 1 ≤ a) (h2 : a ≤ 31) :
    Calls Tryd.prog 23 #[.int .i64 a, .int .i64 n] w fun e w' => (∃ y m d f : Int, e = .returned (.tuple #[.agg #[.int .i64 y, .int .i64 m, .int .i64 d], .int .i64 f]) ∧
      ((f = 1 ∧ y = 0 ∧ m = 0 ∧ d = 0 ∧ (n < -719162 ∨ 2932896 < n)) ∨ (f = 0 ∧ vldB y m d = true ∧ num y m d = n))) ∧ Turn [] w w' := by
  have HT := hide hT
  clear hT
  go_enter Tryd.func23, Tryd.ntmps23
  go_wp2_with fail
  refine (of_any n _ (HT.out.turn ((Turn.refl [] w).alloc _))).mono ?_
  rintro e w1 ⟨⟨y, m, d, f, rfl, hc⟩, hT1⟩
  have hD := (DateAt.new w 0 0 0 33).turn hT1
  have HT1 := hide (((Turn.refl [] w).alloc _).trans hT1)
  have HC := hide hc
  obtain ⟨c0, c1, c2, fz⟩ := hD
  have HD := hide (DateAt.mk c0 c1 c2 fz)
  clear hT1 hc
  have fz0 := fz 0
  have fz1 := fz 1
  have fz2 := fz 2
  clear fz
  go_wp2
  have HF := hide (((HD.out.set0 y).set1 m).set2 d)
  have HTF := hide (((HT1.out.setNew (Nat.le_refl _) 0 (.int .i64 y)).setNew (Nat.le_refl _) 1 (.int .i64 m)).setNew (Nat.le_refl _) 2 (.int .i64 d))
  generalize ((w1.setCell ⟨w.heap.size, 0, none⟩ (.int .i64 y)).setCell ⟨w.heap.size, 1, none⟩ (.int .i64 m)).setCell ⟨w.heap.size, 2, none⟩ (.int .i64 d) = w6 at *
  obtain ⟨f0, f1, f2, -⟩ := HF.out
  exact bodyPost_ret (v := .tuple #[.agg #[.int .i64 y, .int .i64 m, .int .i64 d], .int .i64 f]) (by simp [results, Tryd.results23, go_sem, f0, f1, f2]) rfl ⟨⟨y, m, d, f, rfl, HC.out⟩, HTF.out⟩

end Go.Proofs.YtllbcbodfahidaaDoor
