/-
  The reference's bound, Next and Last, walked. Written by program (genrterm.py).
-/
import Derived.Test.YtllbcbodfahidaaDoorTerm3
import Derived.Test.YtllbcbodfahidaaDoorRNum
namespace Go.Proofs.YtllbcbodfahidaaDoor
open Go.RowKit Cal

theorem rnumber_any (y m d : Int) (w : World) :
    Calls Tryd.prog 19 #[.agg #[.int .i64 y, .int .i64 m, .int .i64 d]] w fun e w' => e = .returned (.tuple #[.int .i64 (numV y m d), .int .i64 (errV y m d)]) ∧ Turn [] w w' := by
  by_cases h : vldB y m d = true
  · simp only [numV, errV, h, if_true]; exact rnumber_yes y m d w h
  · have h' : vldB y m d = false := by simpa using h
    simp only [numV, errV, h', Bool.false_eq_true, if_false]; exact rnumber_no y m d w h'

set_option maxRecDepth 100000 in
set_option maxHeartbeats 1000000 in
theorem rbound_ymd (y m a : Int) (w : World) (h1 : 1 ≤ m) (h2 : m ≤ 12) :
    Calls Tryd.prog 22 #[.int .i64 y, .int .i64 m, .int .i64 a] w fun e w' => e = .returned (.tuple #[.int .i64 (numV y m (min a (len y m))), .int .i64 (errV y m (min a (len y m)))]) ∧ Turn [] w w' := by
  have hl := len_28 y m h1 h2
  by_cases h : len y m < a
  · rw [Int.min_eq_right (by omega)]
    go_enter Tryd.func22, Tryd.ntmps22
    go_wp2_with fail
    refine (rlength_any y m w).mono ?_
    rintro e w' ⟨rfl, rfl⟩
    go_wp2_with fail
    refine (rnumber_any y m (len y m) _).mono ?_
    rintro e w1 ⟨rfl, hT1⟩
    have HT1 := hide hT1
    clear hT1
    go_wp2
    go_ret2
    exact ⟨rfl, HT1.out⟩
  · rw [Int.min_eq_left (by omega)]
    have h' : a ≤ len y m := by omega
    go_enter Tryd.func22, Tryd.ntmps22
    go_wp2_with fail
    refine (rlength_any y m w).mono ?_
    rintro e w' ⟨rfl, rfl⟩
    go_wp2_with fail
    refine (rnumber_any y m (a) _).mono ?_
    rintro e w1 ⟨rfl, hT1⟩
    have HT1 := hide hT1
    clear hT1
    go_wp2
    go_ret2
    exact ⟨rfl, HT1.out⟩

theorem rof_any (n : Int) (w : World) :
    Calls Tryd.prog 15 #[.int .i64 n] w fun e w' => (∃ y m d f : Int, e = .returned (.tuple #[.agg #[.int .i64 y, .int .i64 m, .int .i64 d], .int .i64 f]) ∧
      ((f = 1 ∧ (n < -719162 ∨ 2932896 < n)) ∨ (f = 0 ∧ vldB y m d = true ∧ num y m d = n))) ∧ Turn [] w w' := by
  by_cases h : n < -719162 ∨ 2932896 < n
  · exact (rof_no n w h).mono fun e w' ⟨h1, h2⟩ => ⟨⟨0, 0, 0, 1, h1, .inl ⟨rfl, h⟩⟩, h2⟩
  · exact (rof_yes n w (by omega) (by omega)).mono fun e w' ⟨y, m, d, h1, h2, h3, h4⟩ => ⟨⟨y, m, d, 0, h1, .inr ⟨rfl, h2, h3⟩⟩, h4⟩

set_option maxRecDepth 100000 in
set_option maxHeartbeats 1000000 in
theorem rnb_bad (a k n : Int) (w : World) (h : a < 1 ∨ 31 < a ∨ n < -719162 ∨ 2932896 < n) :
    Calls Tryd.prog 11 #[.int .i64 0, .int .i64 a, .int .i64 k, .int .i64 n] w fun e w' => e = .returned (.tuple #[.int .i64 0, .int .i64 1]) ∧ Turn [] w w' := by
  have HC := hide h
  clear h
  by_cases h1 : a < 1
  · go_enter Tryd.func11, Tryd.ntmps11
    go_wp2_with fail
    refine (rof_any n w).mono ?_
    rintro e w1 ⟨⟨y, m, d, f, rfl, -⟩, hT1⟩
    have HT1 := hide hT1
    clear hT1
    go_wp2
    go_ret2
    exact ⟨rfl, HT1.out.alloc _⟩
  · by_cases h2 : 31 < a
    · go_enter Tryd.func11, Tryd.ntmps11
      go_wp2_with fail
      refine (rof_any n w).mono ?_
      rintro e w1 ⟨⟨y, m, d, f, rfl, -⟩, hT1⟩
      have HT1 := hide hT1
      clear hT1
      go_wp2
      go_ret2
      exact ⟨rfl, HT1.out.alloc _⟩
    · have h3 : n < -719162 ∨ 2932896 < n := by have := HC.out; omega
      have H3 := hide h3
      clear h3
      go_enter Tryd.func11, Tryd.ntmps11
      go_wp2_with fail
      refine (rof_no n w H3.out).mono ?_
      rintro e w1 ⟨rfl, hT1⟩
      have HT1 := hide hT1
      clear hT1
      go_wp2
      go_ret2
      exact ⟨rfl, HT1.out.alloc _⟩

set_option maxRecDepth 100000 in
set_option maxHeartbeats 1000000 in
theorem rlb_bad (a n : Int) (w : World) (h : a < 1 ∨ 31 < a ∨ n < -719162 ∨ 2932896 < n) :
    Calls Tryd.prog 13 #[.int .i64 a, .int .i64 n] w fun e w' => e = .returned (.tuple #[.int .i64 0, .int .i64 1]) ∧ Turn [] w w' := by
  have HC := hide h
  clear h
  by_cases h1 : a < 1
  · go_enter Tryd.func13, Tryd.ntmps13
    go_wp2_with fail
    refine (rof_any n w).mono ?_
    rintro e w1 ⟨⟨y, m, d, f, rfl, -⟩, hT1⟩
    have HT1 := hide hT1
    clear hT1
    go_wp2
    go_ret2
    exact ⟨rfl, HT1.out.alloc _⟩
  · by_cases h2 : 31 < a
    · go_enter Tryd.func13, Tryd.ntmps13
      go_wp2_with fail
      refine (rof_any n w).mono ?_
      rintro e w1 ⟨⟨y, m, d, f, rfl, -⟩, hT1⟩
      have HT1 := hide hT1
      clear hT1
      go_wp2
      go_ret2
      exact ⟨rfl, HT1.out.alloc _⟩
    · have h3 : n < -719162 ∨ 2932896 < n := by have := HC.out; omega
      have H3 := hide h3
      clear h3
      go_enter Tryd.func13, Tryd.ntmps13
      go_wp2_with fail
      refine (rof_no n w H3.out).mono ?_
      rintro e w1 ⟨rfl, hT1⟩
      have HT1 := hide hT1
      clear hT1
      go_wp2
      go_ret2
      exact ⟨rfl, HT1.out.alloc _⟩

set_option maxRecDepth 100000 in
set_option maxHeartbeats 1000000 in
theorem rnb_this (y m d a k n x : Int) (w : World) (h1 : 1 ≤ a) (h2 : a ≤ 31) (hv : vldB y m d = true) (hn : num y m d = n) (hx : numV y m (min a (len y m)) = x) (he : errV y m (min a (len y m)) = 0) (hc : n < x) :
    Calls Tryd.prog 11 #[.int .i64 0, .int .i64 a, .int .i64 k, .int .i64 n] w fun e w' => e = .returned (.tuple #[.int .i64 x, .int .i64 0]) ∧ Turn [] w w' := by
  have HX := hide hx
  have HY := hide he
  clear hx he
  have HV := hide hv
  have HN := hide hn
  have hm := vld_m hv
  have hy := (vld_iff.1 hv).1
  have hb := num_bd hv
  rw [hn] at hb
  clear hv hn
  go_enter Tryd.func11, Tryd.ntmps11
  go_wp2_with fail
  refine (rof_yes n w hb.1 hb.2).mono ?_
  rintro e w1 ⟨y', m', d', rfl, hv', hn', hT1⟩
  obtain ⟨rfl, rfl, rfl⟩ := num_inj HV.out hv' (HN.out.trans hn'.symm)
  clear hv' hn'
  have HT1 := hide (hT1.alloc (.cells #[.int .i64 y, .int .i64 m, .int .i64 d] 33))
  have HD1 := hide (DateAt.new w1 y m d 33)
  have hg : w.heap.size ≤ w1.heap.size := hT1.size
  clear hT1
  go_wp2_with fail
  generalize w1.alloc (.cells #[.int .i64 y, .int .i64 m, .int .i64 d] 33) = W1 at *
  generalize w1.heap.size = g at *
  refine (rbound_ymd y m a W1 hm.1 hm.2).mono ?_
  rintro e w2 ⟨rfl, hT2⟩
  rw [HX.out, HY.out]
  have HT2 := hide (HT1.out.trans hT2)
  have HD2 := hide (HD1.out.turn hT2)
  clear hT2 HT1 HD1
  obtain ⟨c0, c1, c2, fz⟩ := HD2.out
  have fz0 := fz 0
  have fz1 := fz 1
  clear fz
  go_wp2
  go_ret2
  exact ⟨rfl, HT2.out⟩

set_option maxRecDepth 100000 in
set_option maxHeartbeats 1000000 in
theorem rlb_this (y m d a n x : Int) (w : World) (h1 : 1 ≤ a) (h2 : a ≤ 31) (hv : vldB y m d = true) (hn : num y m d = n) (hx : numV y m (min a (len y m)) = x) (he : errV y m (min a (len y m)) = 0) (hc : x ≤ n) :
    Calls Tryd.prog 13 #[.int .i64 a, .int .i64 n] w fun e w' => e = .returned (.tuple #[.int .i64 x, .int .i64 0]) ∧ Turn [] w w' := by
  have HX := hide hx
  have HY := hide he
  clear hx he
  have HV := hide hv
  have HN := hide hn
  have hm := vld_m hv
  have hy := (vld_iff.1 hv).1
  have hb := num_bd hv
  rw [hn] at hb
  clear hv hn
  go_enter Tryd.func13, Tryd.ntmps13
  go_wp2_with fail
  refine (rof_yes n w hb.1 hb.2).mono ?_
  rintro e w1 ⟨y', m', d', rfl, hv', hn', hT1⟩
  obtain ⟨rfl, rfl, rfl⟩ := num_inj HV.out hv' (HN.out.trans hn'.symm)
  clear hv' hn'
  have HT1 := hide (hT1.alloc (.cells #[.int .i64 y, .int .i64 m, .int .i64 d] 33))
  have HD1 := hide (DateAt.new w1 y m d 33)
  have hg : w.heap.size ≤ w1.heap.size := hT1.size
  clear hT1
  go_wp2_with fail
  generalize w1.alloc (.cells #[.int .i64 y, .int .i64 m, .int .i64 d] 33) = W1 at *
  generalize w1.heap.size = g at *
  refine (rbound_ymd y m a W1 hm.1 hm.2).mono ?_
  rintro e w2 ⟨rfl, hT2⟩
  rw [HX.out, HY.out]
  have HT2 := hide (HT1.out.trans hT2)
  have HD2 := hide (HD1.out.turn hT2)
  clear hT2 HT1 HD1
  obtain ⟨c0, c1, c2, fz⟩ := HD2.out
  have fz0 := fz 0
  have fz1 := fz 1
  clear fz
  go_wp2
  go_ret2
  exact ⟨rfl, HT2.out⟩


set_option maxRecDepth 100000 in
set_option maxHeartbeats 1000000 in
theorem rnb_ok (y m d a k n x x2 y2 m2 : Int) (w : World) (h1 : 1 ≤ a) (h2 : a ≤ 31) (hv : vldB y m d = true) (hn : num y m d = n) (hx : numV y m (min a (len y m)) = x) (he : errV y m (min a (len y m)) = 0) (hc : x ≤ n)
    (hs : (m < 12 ∧ y = y2 ∧ m + 1 = m2) ∨ (m = 12 ∧ y + 1 = y2 ∧ 1 = m2)) (hx2 : numV y2 m2 (min a (len y2 m2)) = x2) (he2 : errV y2 m2 (min a (len y2 m2)) = 0) :
    Calls Tryd.prog 11 #[.int .i64 0, .int .i64 a, .int .i64 k, .int .i64 n] w fun e w' => e = .returned (.tuple #[.int .i64 x2, .int .i64 0]) ∧ Turn [] w w' := by
  have HX := hide hx
  have HY := hide he
  have HX2 := hide hx2
  have HY2 := hide he2
  clear hx he hx2 he2
  rcases hs with ⟨hm0, rfl, rfl⟩ | ⟨rfl, rfl, rfl⟩
  · have HV := hide hv
    have HN := hide hn
    have hm := vld_m hv
    have hy := (vld_iff.1 hv).1
    have hb := num_bd hv
    rw [hn] at hb
    clear hv hn
    go_enter Tryd.func11, Tryd.ntmps11
    go_wp2_with fail
    refine (rof_yes n w hb.1 hb.2).mono ?_
    rintro e w1 ⟨y', m', d', rfl, hv', hn', hT1⟩
    obtain ⟨rfl, rfl, rfl⟩ := num_inj HV.out hv' (HN.out.trans hn'.symm)
    clear hv' hn'
    have HT1 := hide (hT1.alloc (.cells #[.int .i64 y, .int .i64 m, .int .i64 d] 33))
    have HD1 := hide (DateAt.new w1 y m d 33)
    have hg : w.heap.size ≤ w1.heap.size := hT1.size
    clear hT1
    go_wp2_with fail
    generalize w1.alloc (.cells #[.int .i64 y, .int .i64 m, .int .i64 d] 33) = W1 at *
    generalize w1.heap.size = g at *
    refine (rbound_ymd y m a W1 (by omega) (by omega)).mono ?_
    rintro e w2 ⟨rfl, hT2⟩
    rw [HX.out, HY.out]
    have HT2 := hide (HT1.out.trans hT2)
    have HD2 := hide (HD1.out.turn hT2)
    clear hT2 HT1 HD1
    obtain ⟨c0, c1, c2, fz⟩ := HD2.out
    have fz0 := fz 0
    have fz1 := fz 1
    clear fz
    go_wp2_with fail
    have HT3 := hide (HT2.out.setNew hg 1 (.int .i64 (m + 1)))
    generalize (w2.setCell ⟨g, 1, none⟩ (.int .i64 (m + 1))) = W3 at *
    refine (rbound_ymd (y) (m + 1) a W3 (by omega) (by omega)).mono ?_
    rintro e w4 ⟨rfl, hT4⟩
    rw [HX2.out, HY2.out]
    have HT4 := hide (HT3.out.trans hT4)
    clear hT4 HT3 HT2 HD2 c0 c1 c2 fz0 fz1
    go_wp2
    go_ret2
    exact ⟨rfl, HT4.out⟩
  · have HV := hide hv
    have HN := hide hn
    have hm := vld_m hv
    have hy := (vld_iff.1 hv).1
    have hb := num_bd hv
    rw [hn] at hb
    clear hv hn
    go_enter Tryd.func11, Tryd.ntmps11
    go_wp2_with fail
    refine (rof_yes n w hb.1 hb.2).mono ?_
    rintro e w1 ⟨y', m', d', rfl, hv', hn', hT1⟩
    obtain ⟨rfl, rfl, rfl⟩ := num_inj HV.out hv' (HN.out.trans hn'.symm)
    clear hv' hn'
    have HT1 := hide (hT1.alloc (.cells #[.int .i64 y, .int .i64 12, .int .i64 d] 33))
    have HD1 := hide (DateAt.new w1 y 12 d 33)
    have hg : w.heap.size ≤ w1.heap.size := hT1.size
    clear hT1
    go_wp2_with fail
    generalize w1.alloc (.cells #[.int .i64 y, .int .i64 12, .int .i64 d] 33) = W1 at *
    generalize w1.heap.size = g at *
    refine (rbound_ymd y 12 a W1 (by decide) (by decide)).mono ?_
    rintro e w2 ⟨rfl, hT2⟩
    rw [HX.out, HY.out]
    have HT2 := hide (HT1.out.trans hT2)
    have HD2 := hide (HD1.out.turn hT2)
    clear hT2 HT1 HD1
    obtain ⟨c0, c1, c2, fz⟩ := HD2.out
    have fz0 := fz 0
    have fz1 := fz 1
    clear fz
    go_wp2_with fail
    have HT3 := hide (((HT2.out.setNew hg 1 (.int .i64 (13))).setNew hg 1 (.int .i64 (1))).setNew hg 0 (.int .i64 (y + 1)))
    generalize (((w2.setCell ⟨g, 1, none⟩ (.int .i64 (13))).setCell ⟨g, 1, none⟩ (.int .i64 (1))).setCell ⟨g, 0, none⟩ (.int .i64 (y + 1))) = W3 at *
    refine (rbound_ymd (y + 1) (1) a W3 (by omega) (by omega)).mono ?_
    rintro e w4 ⟨rfl, hT4⟩
    rw [HX2.out, HY2.out]
    have HT4 := hide (HT3.out.trans hT4)
    clear hT4 HT3 HT2 HD2 c0 c1 c2 fz0 fz1
    go_wp2
    go_ret2
    exact ⟨rfl, HT4.out⟩

set_option maxRecDepth 100000 in
set_option maxHeartbeats 1000000 in
theorem rnb_no (y m d a k n x x2 y2 m2 : Int) (w : World) (h1 : 1 ≤ a) (h2 : a ≤ 31) (hv : vldB y m d = true) (hn : num y m d = n) (hx : numV y m (min a (len y m)) = x) (he : errV y m (min a (len y m)) = 0) (hc : x ≤ n)
    (hs : (m < 12 ∧ y = y2 ∧ m + 1 = m2) ∨ (m = 12 ∧ y + 1 = y2 ∧ 1 = m2)) (hx2 : numV y2 m2 (min a (len y2 m2)) = x2) (he2 : errV y2 m2 (min a (len y2 m2)) = 1) :
    Calls Tryd.prog 11 #[.int .i64 0, .int .i64 a, .int .i64 k, .int .i64 n] w fun e w' => e = .returned (.tuple #[.int .i64 0, .int .i64 1]) ∧ Turn [] w w' := by
  have HX := hide hx
  have HY := hide he
  have HX2 := hide hx2
  have HY2 := hide he2
  clear hx he hx2 he2
  rcases hs with ⟨hm0, rfl, rfl⟩ | ⟨rfl, rfl, rfl⟩
  · have HV := hide hv
    have HN := hide hn
    have hm := vld_m hv
    have hy := (vld_iff.1 hv).1
    have hb := num_bd hv
    rw [hn] at hb
    clear hv hn
    go_enter Tryd.func11, Tryd.ntmps11
    go_wp2_with fail
    refine (rof_yes n w hb.1 hb.2).mono ?_
    rintro e w1 ⟨y', m', d', rfl, hv', hn', hT1⟩
    obtain ⟨rfl, rfl, rfl⟩ := num_inj HV.out hv' (HN.out.trans hn'.symm)
    clear hv' hn'
    have HT1 := hide (hT1.alloc (.cells #[.int .i64 y, .int .i64 m, .int .i64 d] 33))
    have HD1 := hide (DateAt.new w1 y m d 33)
    have hg : w.heap.size ≤ w1.heap.size := hT1.size
    clear hT1
    go_wp2_with fail
    generalize w1.alloc (.cells #[.int .i64 y, .int .i64 m, .int .i64 d] 33) = W1 at *
    generalize w1.heap.size = g at *
    refine (rbound_ymd y m a W1 (by omega) (by omega)).mono ?_
    rintro e w2 ⟨rfl, hT2⟩
    rw [HX.out, HY.out]
    have HT2 := hide (HT1.out.trans hT2)
    have HD2 := hide (HD1.out.turn hT2)
    clear hT2 HT1 HD1
    obtain ⟨c0, c1, c2, fz⟩ := HD2.out
    have fz0 := fz 0
    have fz1 := fz 1
    clear fz
    go_wp2_with fail
    have HT3 := hide (HT2.out.setNew hg 1 (.int .i64 (m + 1)))
    generalize (w2.setCell ⟨g, 1, none⟩ (.int .i64 (m + 1))) = W3 at *
    refine (rbound_ymd (y) (m + 1) a W3 (by omega) (by omega)).mono ?_
    rintro e w4 ⟨rfl, hT4⟩
    rw [HX2.out, HY2.out]
    have HT4 := hide (HT3.out.trans hT4)
    clear hT4 HT3 HT2 HD2 c0 c1 c2 fz0 fz1
    go_wp2
    go_ret2
    exact ⟨rfl, HT4.out⟩
  · have HV := hide hv
    have HN := hide hn
    have hm := vld_m hv
    have hy := (vld_iff.1 hv).1
    have hb := num_bd hv
    rw [hn] at hb
    clear hv hn
    go_enter Tryd.func11, Tryd.ntmps11
    go_wp2_with fail
    refine (rof_yes n w hb.1 hb.2).mono ?_
    rintro e w1 ⟨y', m', d', rfl, hv', hn', hT1⟩
    obtain ⟨rfl, rfl, rfl⟩ := num_inj HV.out hv' (HN.out.trans hn'.symm)
    clear hv' hn'
    have HT1 := hide (hT1.alloc (.cells #[.int .i64 y, .int .i64 12, .int .i64 d] 33))
    have HD1 := hide (DateAt.new w1 y 12 d 33)
    have hg : w.heap.size ≤ w1.heap.size := hT1.size
    clear hT1
    go_wp2_with fail
    generalize w1.alloc (.cells #[.int .i64 y, .int .i64 12, .int .i64 d] 33) = W1 at *
    generalize w1.heap.size = g at *
    refine (rbound_ymd y 12 a W1 (by decide) (by decide)).mono ?_
    rintro e w2 ⟨rfl, hT2⟩
    rw [HX.out, HY.out]
    have HT2 := hide (HT1.out.trans hT2)
    have HD2 := hide (HD1.out.turn hT2)
    clear hT2 HT1 HD1
    obtain ⟨c0, c1, c2, fz⟩ := HD2.out
    have fz0 := fz 0
    have fz1 := fz 1
    clear fz
    go_wp2_with fail
    have HT3 := hide (((HT2.out.setNew hg 1 (.int .i64 (13))).setNew hg 1 (.int .i64 (1))).setNew hg 0 (.int .i64 (y + 1)))
    generalize (((w2.setCell ⟨g, 1, none⟩ (.int .i64 (13))).setCell ⟨g, 1, none⟩ (.int .i64 (1))).setCell ⟨g, 0, none⟩ (.int .i64 (y + 1))) = W3 at *
    refine (rbound_ymd (y + 1) (1) a W3 (by omega) (by omega)).mono ?_
    rintro e w4 ⟨rfl, hT4⟩
    rw [HX2.out, HY2.out]
    have HT4 := hide (HT3.out.trans hT4)
    clear hT4 HT3 HT2 HD2 c0 c1 c2 fz0 fz1
    go_wp2
    go_ret2
    exact ⟨rfl, HT4.out⟩

set_option maxRecDepth 100000 in
set_option maxHeartbeats 1000000 in
theorem rlb_ok (y m d a n x x2 y2 m2 : Int) (w : World) (h1 : 1 ≤ a) (h2 : a ≤ 31) (hv : vldB y m d = true) (hn : num y m d = n) (hx : numV y m (min a (len y m)) = x) (he : errV y m (min a (len y m)) = 0) (hc : n < x)
    (hs : (1 < m ∧ y = y2 ∧ m - 1 = m2) ∨ (m = 1 ∧ y - 1 = y2 ∧ 12 = m2)) (hx2 : numV y2 m2 (min a (len y2 m2)) = x2) (he2 : errV y2 m2 (min a (len y2 m2)) = 0) :
    Calls Tryd.prog 13 #[.int .i64 a, .int .i64 n] w fun e w' => e = .returned (.tuple #[.int .i64 x2, .int .i64 0]) ∧ Turn [] w w' := by
  have HX := hide hx
  have HY := hide he
  have HX2 := hide hx2
  have HY2 := hide he2
  clear hx he hx2 he2
  rcases hs with ⟨hm0, rfl, rfl⟩ | ⟨rfl, rfl, rfl⟩
  · have HV := hide hv
    have HN := hide hn
    have hm := vld_m hv
    have hy := (vld_iff.1 hv).1
    have hb := num_bd hv
    rw [hn] at hb
    clear hv hn
    go_enter Tryd.func13, Tryd.ntmps13
    go_wp2_with fail
    refine (rof_yes n w hb.1 hb.2).mono ?_
    rintro e w1 ⟨y', m', d', rfl, hv', hn', hT1⟩
    obtain ⟨rfl, rfl, rfl⟩ := num_inj HV.out hv' (HN.out.trans hn'.symm)
    clear hv' hn'
    have HT1 := hide (hT1.alloc (.cells #[.int .i64 y, .int .i64 m, .int .i64 d] 33))
    have HD1 := hide (DateAt.new w1 y m d 33)
    have hg : w.heap.size ≤ w1.heap.size := hT1.size
    clear hT1
    go_wp2_with fail
    generalize w1.alloc (.cells #[.int .i64 y, .int .i64 m, .int .i64 d] 33) = W1 at *
    generalize w1.heap.size = g at *
    refine (rbound_ymd y m a W1 (by omega) (by omega)).mono ?_
    rintro e w2 ⟨rfl, hT2⟩
    rw [HX.out, HY.out]
    have HT2 := hide (HT1.out.trans hT2)
    have HD2 := hide (HD1.out.turn hT2)
    clear hT2 HT1 HD1
    obtain ⟨c0, c1, c2, fz⟩ := HD2.out
    have fz0 := fz 0
    have fz1 := fz 1
    clear fz
    go_wp2_with fail
    have HT3 := hide (HT2.out.setNew hg 1 (.int .i64 (m - 1)))
    generalize (w2.setCell ⟨g, 1, none⟩ (.int .i64 (m - 1))) = W3 at *
    refine (rbound_ymd (y) (m - 1) a W3 (by omega) (by omega)).mono ?_
    rintro e w4 ⟨rfl, hT4⟩
    rw [HX2.out, HY2.out]
    have HT4 := hide (HT3.out.trans hT4)
    clear hT4 HT3 HT2 HD2 c0 c1 c2 fz0 fz1
    go_wp2
    go_ret2
    exact ⟨rfl, HT4.out⟩
  · have HV := hide hv
    have HN := hide hn
    have hm := vld_m hv
    have hy := (vld_iff.1 hv).1
    have hb := num_bd hv
    rw [hn] at hb
    clear hv hn
    go_enter Tryd.func13, Tryd.ntmps13
    go_wp2_with fail
    refine (rof_yes n w hb.1 hb.2).mono ?_
    rintro e w1 ⟨y', m', d', rfl, hv', hn', hT1⟩
    obtain ⟨rfl, rfl, rfl⟩ := num_inj HV.out hv' (HN.out.trans hn'.symm)
    clear hv' hn'
    have HT1 := hide (hT1.alloc (.cells #[.int .i64 y, .int .i64 1, .int .i64 d] 33))
    have HD1 := hide (DateAt.new w1 y 1 d 33)
    have hg : w.heap.size ≤ w1.heap.size := hT1.size
    clear hT1
    go_wp2_with fail
    generalize w1.alloc (.cells #[.int .i64 y, .int .i64 1, .int .i64 d] 33) = W1 at *
    generalize w1.heap.size = g at *
    refine (rbound_ymd y 1 a W1 (by decide) (by decide)).mono ?_
    rintro e w2 ⟨rfl, hT2⟩
    rw [HX.out, HY.out]
    have HT2 := hide (HT1.out.trans hT2)
    have HD2 := hide (HD1.out.turn hT2)
    clear hT2 HT1 HD1
    obtain ⟨c0, c1, c2, fz⟩ := HD2.out
    have fz0 := fz 0
    have fz1 := fz 1
    clear fz
    go_wp2_with fail
    have HT3 := hide (((HT2.out.setNew hg 1 (.int .i64 (0))).setNew hg 1 (.int .i64 (12))).setNew hg 0 (.int .i64 (y - 1)))
    generalize (((w2.setCell ⟨g, 1, none⟩ (.int .i64 (0))).setCell ⟨g, 1, none⟩ (.int .i64 (12))).setCell ⟨g, 0, none⟩ (.int .i64 (y - 1))) = W3 at *
    refine (rbound_ymd (y - 1) (12) a W3 (by omega) (by omega)).mono ?_
    rintro e w4 ⟨rfl, hT4⟩
    rw [HX2.out, HY2.out]
    have HT4 := hide (HT3.out.trans hT4)
    clear hT4 HT3 HT2 HD2 c0 c1 c2 fz0 fz1
    go_wp2
    go_ret2
    exact ⟨rfl, HT4.out⟩

set_option maxRecDepth 100000 in
set_option maxHeartbeats 1000000 in
theorem rlb_no (y m d a n x x2 y2 m2 : Int) (w : World) (h1 : 1 ≤ a) (h2 : a ≤ 31) (hv : vldB y m d = true) (hn : num y m d = n) (hx : numV y m (min a (len y m)) = x) (he : errV y m (min a (len y m)) = 0) (hc : n < x)
    (hs : (1 < m ∧ y = y2 ∧ m - 1 = m2) ∨ (m = 1 ∧ y - 1 = y2 ∧ 12 = m2)) (hx2 : numV y2 m2 (min a (len y2 m2)) = x2) (he2 : errV y2 m2 (min a (len y2 m2)) = 1) :
    Calls Tryd.prog 13 #[.int .i64 a, .int .i64 n] w fun e w' => e = .returned (.tuple #[.int .i64 0, .int .i64 1]) ∧ Turn [] w w' := by
  have HX := hide hx
  have HY := hide he
  have HX2 := hide hx2
  have HY2 := hide he2
  clear hx he hx2 he2
  rcases hs with ⟨hm0, rfl, rfl⟩ | ⟨rfl, rfl, rfl⟩
  · have HV := hide hv
    have HN := hide hn
    have hm := vld_m hv
    have hy := (vld_iff.1 hv).1
    have hb := num_bd hv
    rw [hn] at hb
    clear hv hn
    go_enter Tryd.func13, Tryd.ntmps13
    go_wp2_with fail
    refine (rof_yes n w hb.1 hb.2).mono ?_
    rintro e w1 ⟨y', m', d', rfl, hv', hn', hT1⟩
    obtain ⟨rfl, rfl, rfl⟩ := num_inj HV.out hv' (HN.out.trans hn'.symm)
    clear hv' hn'
    have HT1 := hide (hT1.alloc (.cells #[.int .i64 y, .int .i64 m, .int .i64 d] 33))
    have HD1 := hide (DateAt.new w1 y m d 33)
    have hg : w.heap.size ≤ w1.heap.size := hT1.size
    clear hT1
    go_wp2_with fail
    generalize w1.alloc (.cells #[.int .i64 y, .int .i64 m, .int .i64 d] 33) = W1 at *
    generalize w1.heap.size = g at *
    refine (rbound_ymd y m a W1 (by omega) (by omega)).mono ?_
    rintro e w2 ⟨rfl, hT2⟩
    rw [HX.out, HY.out]
    have HT2 := hide (HT1.out.trans hT2)
    have HD2 := hide (HD1.out.turn hT2)
    clear hT2 HT1 HD1
    obtain ⟨c0, c1, c2, fz⟩ := HD2.out
    have fz0 := fz 0
    have fz1 := fz 1
    clear fz
    go_wp2_with fail
    have HT3 := hide (HT2.out.setNew hg 1 (.int .i64 (m - 1)))
    generalize (w2.setCell ⟨g, 1, none⟩ (.int .i64 (m - 1))) = W3 at *
    refine (rbound_ymd (y) (m - 1) a W3 (by omega) (by omega)).mono ?_
    rintro e w4 ⟨rfl, hT4⟩
    rw [HX2.out, HY2.out]
    have HT4 := hide (HT3.out.trans hT4)
    clear hT4 HT3 HT2 HD2 c0 c1 c2 fz0 fz1
    go_wp2
    go_ret2
    exact ⟨rfl, HT4.out⟩
  · have HV := hide hv
    have HN := hide hn
    have hm := vld_m hv
    have hy := (vld_iff.1 hv).1
    have hb := num_bd hv
    rw [hn] at hb
    clear hv hn
    go_enter Tryd.func13, Tryd.ntmps13
    go_wp2_with fail
    refine (rof_yes n w hb.1 hb.2).mono ?_
    rintro e w1 ⟨y', m', d', rfl, hv', hn', hT1⟩
    obtain ⟨rfl, rfl, rfl⟩ := num_inj HV.out hv' (HN.out.trans hn'.symm)
    clear hv' hn'
    have HT1 := hide (hT1.alloc (.cells #[.int .i64 y, .int .i64 1, .int .i64 d] 33))
    have HD1 := hide (DateAt.new w1 y 1 d 33)
    have hg : w.heap.size ≤ w1.heap.size := hT1.size
    clear hT1
    go_wp2_with fail
    generalize w1.alloc (.cells #[.int .i64 y, .int .i64 1, .int .i64 d] 33) = W1 at *
    generalize w1.heap.size = g at *
    refine (rbound_ymd y 1 a W1 (by decide) (by decide)).mono ?_
    rintro e w2 ⟨rfl, hT2⟩
    rw [HX.out, HY.out]
    have HT2 := hide (HT1.out.trans hT2)
    have HD2 := hide (HD1.out.turn hT2)
    clear hT2 HT1 HD1
    obtain ⟨c0, c1, c2, fz⟩ := HD2.out
    have fz0 := fz 0
    have fz1 := fz 1
    clear fz
    go_wp2_with fail
    have HT3 := hide (((HT2.out.setNew hg 1 (.int .i64 (0))).setNew hg 1 (.int .i64 (12))).setNew hg 0 (.int .i64 (y - 1)))
    generalize (((w2.setCell ⟨g, 1, none⟩ (.int .i64 (0))).setCell ⟨g, 1, none⟩ (.int .i64 (12))).setCell ⟨g, 0, none⟩ (.int .i64 (y - 1))) = W3 at *
    refine (rbound_ymd (y - 1) (12) a W3 (by omega) (by omega)).mono ?_
    rintro e w4 ⟨rfl, hT4⟩
    rw [HX2.out, HY2.out]
    have HT4 := hide (HT3.out.trans hT4)
    clear hT4 HT3 HT2 HD2 c0 c1 c2 fz0 fz1
    go_wp2
    go_ret2
    exact ⟨rfl, HT4.out⟩

end Go.Proofs.YtllbcbodfahidaaDoor
