/-
  daysBehind, Next and Share, walked.
-/
import Derived.Test.YtllbcbodfahidaaDoorTerm2
namespace Go.Proofs.YtllbcbodfahidaaDoor
open Go.RowKit Cal

/-- A day that has a date, or none. -/
theorem of_ok (n : Int) (w : World) (hT : Tab w) (h1 : -719162 ≤ n) (h2 : n ≤ 2932896) :
    Calls Tryd.prog 30 #[.int .i64 n] w fun e w' => (∃ y m d : Int, e = .returned (.tuple #[.agg #[.int .i64 y, .int .i64 m, .int .i64 d], .int .i64 0])) ∧ Turn [] w w' :=
  (of_yes n w hT h1 h2).mono fun _ _ ⟨y, m, d, h1, _, _, h4⟩ => ⟨⟨y, m, d, h1⟩, h4⟩

set_option maxRecDepth 100000 in
set_option maxHeartbeats 1000000 in
theorem db_bad (k n : Int) (w : World) (h : k < 1 ∨ 366 < k) :
    Calls Tryd.prog 21 #[.int .i64 k, .int .i64 n] w fun e w' => e = .returned (.tuple #[.int .i64 0, .int .i64 1]) ∧ Turn [] w w' := by
  by_cases h1 : k < 1
  · go_enter Tryd.func21, Tryd.ntmps21
    go_wp2
    go_ret2
    exact ⟨rfl, Turn.refl [] w⟩
  · have h2 : 366 < k := by omega
    go_enter Tryd.func21, Tryd.ntmps21
    go_wp2
    go_ret2
    exact ⟨rfl, Turn.refl [] w⟩

set_option maxRecDepth 100000 in
set_option maxHeartbeats 1000000 in
theorem db_no (k n : Int) (w : World) (h1 : 1 ≤ k) (h2 : k ≤ 366) (h : n < -719162 ∨ 2932896 < n) :
    Calls Tryd.prog 21 #[.int .i64 k, .int .i64 n] w fun e w' => e = .returned (.tuple #[.int .i64 0, .int .i64 1]) ∧ Turn [] w w' := by
  have HC := hide h
  clear h
  go_enter Tryd.func21, Tryd.ntmps21
  go_wp2_with fail
  refine (of_no n w HC.out).mono ?_
  rintro e w1 ⟨rfl, hT1⟩
  have HT1 := hide hT1
  clear hT1
  go_wp2
  go_ret2
  exact ⟨rfl, HT1.out.alloc _⟩

set_option maxRecDepth 100000 in
set_option maxHeartbeats 1000000 in
theorem db_far (k n : Int) (w : World) (hT : Tab w) (h1 : 1 ≤ k) (h2 : k ≤ 366) (h3 : -719162 ≤ n) (h4 : n ≤ 2932896) (h5 : 2932896 < n + k) :
    Calls Tryd.prog 21 #[.int .i64 k, .int .i64 n] w fun e w' => e = .returned (.tuple #[.int .i64 0, .int .i64 1]) ∧ Turn [] w w' := by
  have HT := hide hT
  clear hT
  go_enter Tryd.func21, Tryd.ntmps21
  go_wp2_with fail
  refine (of_ok n w HT.out h3 h4).mono ?_
  rintro e w1 ⟨⟨y, m, d, rfl⟩, hT1⟩
  have HT1 := hide (hT1.alloc (.cells #[.int .i64 y, .int .i64 m, .int .i64 d] 33))
  clear hT1
  go_wp2_with fail
  generalize w1.alloc (.cells #[.int .i64 y, .int .i64 m, .int .i64 d] 33) = W1 at *
  generalize w1.heap.size = g at *
  refine (of_no (n + k) W1 (.inr h5)).mono ?_
  rintro e w2 ⟨rfl, hT2⟩
  have HT2 := hide (HT1.out.trans hT2)
  clear hT2
  go_wp2
  go_ret2
  exact ⟨rfl, HT2.out.alloc _⟩

set_option maxRecDepth 100000 in
set_option maxHeartbeats 1000000 in
theorem db_yes (k n : Int) (w : World) (hT : Tab w) (h1 : 1 ≤ k) (h2 : k ≤ 366) (h3 : -719162 ≤ n) (h5 : n + k ≤ 2932896) :
    Calls Tryd.prog 21 #[.int .i64 k, .int .i64 n] w fun e w' => e = .returned (.tuple #[.int .i64 (n + k), .int .i64 0]) ∧ Turn [] w w' := by
  have HT := hide hT
  clear hT
  go_enter Tryd.func21, Tryd.ntmps21
  go_wp2_with fail
  refine (of_ok n w HT.out h3 (by omega)).mono ?_
  rintro e w1 ⟨⟨y, m, d, rfl⟩, hT1⟩
  have HT1 := hide (hT1.alloc (.cells #[.int .i64 y, .int .i64 m, .int .i64 d] 33))
  clear hT1
  go_wp2_with fail
  generalize w1.alloc (.cells #[.int .i64 y, .int .i64 m, .int .i64 d] 33) = W1 at *
  generalize w1.heap.size = g at *
  refine (of_ok (n + k) W1 (HT.out.turn HT1.out) (by omega) h5).mono ?_
  rintro e w2 ⟨⟨y2, m2, d2, rfl⟩, hT2⟩
  have HT2 := hide (HT1.out.trans hT2)
  clear hT2
  go_wp2
  go_ret2
  exact ⟨rfl, HT2.out.alloc _⟩

set_option maxRecDepth 100000 in
set_option maxHeartbeats 1000000 in
/-- Next by months is nextBound. -/
theorem next_m {a k n V E : Int} {w : World} (h : Calls Tryd.prog 20 #[.int .i64 a, .int .i64 n] w fun e w' => e = .returned (.tuple #[.int .i64 V, .int .i64 E]) ∧ Turn [] w w') :
    Calls Tryd.prog 10 #[.int .i64 0, .int .i64 a, .int .i64 k, .int .i64 n] w fun e w' => e = .returned (.tuple #[.int .i64 V, .int .i64 E]) ∧ Turn [] w w' := by
  have HC := hide h
  clear h
  go_enter Tryd.func10, Tryd.ntmps10
  go_wp2_with fail
  refine HC.out.mono ?_
  rintro e w1 ⟨rfl, hT1⟩
  have HT1 := hide hT1
  clear hT1 HC
  go_wp2
  go_ret2
  exact ⟨rfl, HT1.out⟩

set_option maxRecDepth 100000 in
set_option maxHeartbeats 1000000 in
/-- Next by days is daysBehind. -/
theorem next_d {a k n V E : Int} {w : World} (h : Calls Tryd.prog 21 #[.int .i64 k, .int .i64 n] w fun e w' => e = .returned (.tuple #[.int .i64 V, .int .i64 E]) ∧ Turn [] w w') :
    Calls Tryd.prog 10 #[.int .i64 1, .int .i64 a, .int .i64 k, .int .i64 n] w fun e w' => e = .returned (.tuple #[.int .i64 V, .int .i64 E]) ∧ Turn [] w w' := by
  have HC := hide h
  clear h
  go_enter Tryd.func10, Tryd.ntmps10
  go_wp2_with fail
  refine HC.out.mono ?_
  rintro e w1 ⟨rfl, hT1⟩
  have HT1 := hide hT1
  clear hT1 HC
  go_wp2
  go_ret2
  exact ⟨rfl, HT1.out⟩

set_option maxRecDepth 100000 in
set_option maxHeartbeats 1000000 in
theorem next_k (t a k n : Int) (w : World) (h0 : t ≠ 0) (h1 : t ≠ 1) :
    Calls Tryd.prog 10 #[.int .i64 t, .int .i64 a, .int .i64 k, .int .i64 n] w fun e w' => e = .returned (.tuple #[.int .i64 0, .int .i64 3]) ∧ Turn [] w w' := by
  have e0 : (t == 0) = false := by simpa using h0
  have e1 : (t == 1) = false := by simpa using h1
  go_enter Tryd.func10, Tryd.ntmps10
  go_wp2
  go_ret2
  exact ⟨rfl, Turn.refl [] w⟩

namespace Cal
theorem mul_bd {n p : Int} (h1 : 0 ≤ n) (h2 : n ≤ 1000000000) (h3 : 0 ≤ p) (h4 : p ≤ 400) : 0 ≤ n * p ∧ n * p ≤ 400000000000 := by
  have a := Int.mul_nonneg h1 h3
  have b := Int.mul_le_mul h2 h4 h3 (by omega)
  exact ⟨a, by omega⟩
end Cal

set_option maxRecDepth 100000 in
set_option maxHeartbeats 1000000 in
theorem share_any (n p q : Int) (w : World) (h1 : 0 ≤ n) (h2 : n ≤ 1000000000) (h3 : 0 ≤ p) (h4 : p ≤ 400) (h5 : 1 ≤ q) :
    Calls Tryd.prog 17 #[.int .i64 n, .int .i64 p, .int .i64 q] w fun e w' => e = .returned (.int .i64 (n * p / q)) ∧ w' = w := by
  have hb := mul_bd h1 h2 h3 h4
  go_enter Tryd.func17, Tryd.ntmps17
  go_wp2
  go_ret
  exact ⟨rfl, rfl⟩

set_option maxRecDepth 100000 in
set_option maxHeartbeats 1000000 in
theorem rshare_any (n p q : Int) (w : World) (h1 : 0 ≤ n) (h2 : n ≤ 1000000000) (h3 : 0 ≤ p) (h4 : p ≤ 400) (h5 : 1 ≤ q) :
    Calls Tryd.prog 18 #[.int .i64 n, .int .i64 p, .int .i64 q] w fun e w' => e = .returned (.int .i64 (n * p / q)) ∧ w' = w := by
  have hb := mul_bd h1 h2 h3 h4
  go_enter Tryd.func18, Tryd.ntmps18
  go_wp2
  go_ret
  exact ⟨rfl, rfl⟩

end Go.Proofs.YtllbcbodfahidaaDoor
