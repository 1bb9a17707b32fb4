/-
  nextBound and Last, walked. Written by program (genterm.py).
-/
import Derived.Test.YtllbcbodfahidaaDoorTerm
import Derived.Deep.Cut
namespace Go.Proofs.YtllbcbodfahidaaDoor
open Go.RowKit Cal

set_option maxRecDepth 100000 in
set_option maxHeartbeats 1000000 in
theorem nb_bad (a n : Int) (w : World) (h : a < 1 ∨ 31 < a) :
    Calls Tryd.prog 20 #[.int .i64 a, .int .i64 n] w fun e w' => e = .returned (.tuple #[.int .i64 0, .int .i64 1]) ∧ Turn [] w w' := by
  go_enter Tryd.func20, Tryd.ntmps20
  go_wp2_with fail
  refine (anchored_bad a n w h).mono ?_
  rintro e w1 ⟨rfl, hT1⟩
  have HT1 := hide hT1
  clear hT1
  go_wp2
  go_ret2
  exact ⟨rfl, HT1.out.alloc _⟩

set_option maxRecDepth 100000 in
set_option maxHeartbeats 1000000 in
theorem nb_no (a n : Int) (w : World) (hT : Tab w) (h1 : 1 ≤ a) (h2 : a ≤ 31) (h : n < -719162 ∨ 2932896 < n) :
    Calls Tryd.prog 20 #[.int .i64 a, .int .i64 n] w fun e w' => e = .returned (.tuple #[.int .i64 0, .int .i64 1]) ∧ Turn [] w w' := by
  have HT := hide hT
  clear hT
  go_enter Tryd.func20, Tryd.ntmps20
  go_wp2_with fail
  refine (anchored_ok a n w HT.out h1 h2).mono ?_
  rintro e w1 ⟨⟨y, m, d, f, rfl, hc⟩, hT1⟩
  have HT1 := hide hT1
  clear hT1
  obtain ⟨rfl, rfl, rfl, rfl, -⟩ | ⟨-, hv, hn⟩ := hc
  · go_wp2
    go_ret2
    exact ⟨rfl, HT1.out.alloc _⟩
  · have := num_bd hv; omega

set_option maxRecDepth 100000 in
set_option maxHeartbeats 1000000 in
theorem nb_this (y m d a n : Int) (w : World) (hT : Tab w) (h1 : 1 ≤ a) (h2 : a ≤ 31) (hv : vldB y m d = true) (hn : num y m d = n) (hc : ¬ (min a (len y m) ≤ d)) :
    Calls Tryd.prog 20 #[.int .i64 a, .int .i64 n] w fun e w' => e = .returned (.tuple #[.int .i64 (numV y m (min a (len y m))), .int .i64 (errV y m (min a (len y m)))]) ∧ Turn [] w w' := by
  have HT := hide hT
  have HV := hide hv
  have HN := hide hn
  have hm := vld_m hv
  have hy := (vld_iff.1 hv).1
  have hb := num_bd hv
  rw [hn] at hb
  clear hT hv hn
  generalize eb : min a (len y m) = b at *
  have EB := hide eb
  clear eb
  go_enter Tryd.func20, Tryd.ntmps20
  go_wp2_with fail
  refine (anchored_ok a n w HT.out h1 h2).mono ?_
  rintro e w1 ⟨⟨y', m', d', f, rfl, hc⟩, hT1⟩
  obtain ⟨-, -, -, -, hx⟩ | ⟨rfl, hv', hn'⟩ := hc
  · omega
  obtain ⟨rfl, rfl, rfl⟩ := num_inj HV.out hv' (HN.out.trans hn'.symm)
  clear hv' hn'
  have HT1 := hide (hT1.alloc (.cells #[.int .i64 y, .int .i64 m, .int .i64 d] 33))
  have HD1 := hide (DateAt.new w1 y m d 33)
  clear hT1
  go_wp2_with fail
  generalize w1.alloc (.cells #[.int .i64 y, .int .i64 m, .int .i64 d] 33) = W1 at *
  generalize w1.heap.size = g at *
  refine (bound_ymd y m d a W1 (HT.out.turn HT1.out)).mono ?_
  rintro e w2 ⟨rfl, hT2⟩
  rw [EB.out]
  have HT2 := hide ((HT1.out.trans hT2).alloc (.cells #[.int .i64 y, .int .i64 m, .int .i64 b] 33))
  have HD2 := hide ((HD1.out.turn hT2).turn ((Turn.refl [] w2).alloc (.cells #[.int .i64 y, .int .i64 m, .int .i64 b] 33)))
  have HB2 := hide (DateAt.new w2 y m b 33)
  have hW : g < w2.heap.size := (HD1.out.turn hT2).lt
  have hw2 : w.heap.size ≤ w2.heap.size := (HT1.out.trans hT2).size
  clear hT2 HT1 HD1
  obtain ⟨c0, c1, c2, -⟩ := HD2.out
  go_upto_if 25 with fail
  generalize w2.alloc (.cells #[.int .i64 y, .int .i64 m, .int .i64 b] 33) = W2 at *
  generalize w2.heap.size = k at *
  clear c0 c1 c2
  obtain ⟨c0, c1, c2, -⟩ := HB2.out
  go_wp2_with fail
  refine (number_any y m b W2 (HT.out.turn HT2.out)).mono ?_
  rintro e w3 ⟨rfl, hT3⟩
  have HT3 := hide (HT2.out.trans hT3)
  clear hT3 HT2 c0 c1 c2
  go_wp2
  go_ret2
  exact ⟨rfl, HT3.out⟩

set_option maxRecDepth 100000 in
set_option maxHeartbeats 1000000 in
theorem nb_step (y m d a n : Int) (w : World) (hT : Tab w) (h1 : 1 ≤ a) (h2 : a ≤ 31) (hv : vldB y m d = true) (hn : num y m d = n) (hc : min a (len y m) ≤ d) :
    Calls Tryd.prog 20 #[.int .i64 a, .int .i64 n] w fun e w' => e = .returned (.tuple #[.int .i64 (numV (sy y m) (sm m) (min a (len (sy y m) (sm m)))), .int .i64 (errV (sy y m) (sm m) (min a (len (sy y m) (sm m))))]) ∧ Turn [] w w' := by
  have HT := hide hT
  have HV := hide hv
  have HN := hide hn
  have hm := vld_m hv
  have hy := (vld_iff.1 hv).1
  have hb := num_bd hv
  rw [hn] at hb
  clear hT hv hn
  generalize eb : min a (len y m) = b at *
  have EB := hide eb
  clear eb
  go_enter Tryd.func20, Tryd.ntmps20
  go_wp2_with fail
  refine (anchored_ok a n w HT.out h1 h2).mono ?_
  rintro e w1 ⟨⟨y', m', d', f, rfl, hc⟩, hT1⟩
  obtain ⟨-, -, -, -, hx⟩ | ⟨rfl, hv', hn'⟩ := hc
  · omega
  obtain ⟨rfl, rfl, rfl⟩ := num_inj HV.out hv' (HN.out.trans hn'.symm)
  clear hv' hn'
  have HT1 := hide (hT1.alloc (.cells #[.int .i64 y, .int .i64 m, .int .i64 d] 33))
  have HD1 := hide (DateAt.new w1 y m d 33)
  clear hT1
  go_wp2_with fail
  generalize w1.alloc (.cells #[.int .i64 y, .int .i64 m, .int .i64 d] 33) = W1 at *
  generalize w1.heap.size = g at *
  refine (bound_ymd y m d a W1 (HT.out.turn HT1.out)).mono ?_
  rintro e w2 ⟨rfl, hT2⟩
  rw [EB.out]
  have HT2 := hide ((HT1.out.trans hT2).alloc (.cells #[.int .i64 y, .int .i64 m, .int .i64 b] 33))
  have HD2 := hide ((HD1.out.turn hT2).turn ((Turn.refl [] w2).alloc (.cells #[.int .i64 y, .int .i64 m, .int .i64 b] 33)))
  have HB2 := hide (DateAt.new w2 y m b 33)
  have hW : g < w2.heap.size := (HD1.out.turn hT2).lt
  have hw2 : w.heap.size ≤ w2.heap.size := (HT1.out.trans hT2).size
  clear hT2 HT1 HD1
  obtain ⟨c0, c1, c2, -⟩ := HD2.out
  go_upto_if 25 with fail
  generalize w2.alloc (.cells #[.int .i64 y, .int .i64 m, .int .i64 b] 33) = W2 at *
  generalize w2.heap.size = k at *
  clear c0 c1 c2
  obtain ⟨c0, c1, c2, -⟩ := HD2.out
  go_wp2_with fail
  refine (behind_ymd y m d W2 (by omega) (by omega) (by omega) (by omega)).mono ?_
  rintro e w3 ⟨rfl, hT3⟩
  have HT3 := hide (HT2.out.trans hT3)
  have HB3 := hide (HB2.out.turn hT3)
  clear hT3 HT2 HD2 HB2 c0 c1 c2
  go_wp2_with fail
  refine (bound_ymd (sy y m) (sm m) d a w3 (HT.out.turn HT3.out)).mono ?_
  rintro e w4 ⟨rfl, hT4⟩
  have HT4 := hide (HT3.out.trans hT4)
  have HB4 := hide (HB3.out.turn hT4)
  clear hT4 HT3 HB3
  obtain ⟨c0, c1, c2, fz⟩ := HB4.out
  have fz0 := fz 0
  have fz1 := fz 1
  have fz2 := fz 2
  clear fz
  go_wp2_with fail
  have HTF := hide (((HT4.out.setNew hw2 0 (.int .i64 (sy y m))).setNew hw2 1 (.int .i64 (sm m))).setNew hw2 2 (.int .i64 (min a (len (sy y m) (sm m)))))
  generalize ((w4.setCell ⟨k, 0, none⟩ (.int .i64 (sy y m))).setCell ⟨k, 1, none⟩ (.int .i64 (sm m))).setCell ⟨k, 2, none⟩ (.int .i64 (min a (len (sy y m) (sm m)))) = w5 at *
  refine (number_any (sy y m) (sm m) (min a (len (sy y m) (sm m))) w5 (HT.out.turn HTF.out)).mono ?_
  rintro e w6 ⟨rfl, hT6⟩
  have HT6 := hide (HTF.out.trans hT6)
  clear hT6 HTF HT4 HB4 c0 c1 c2 fz0 fz1 fz2
  go_wp2
  go_ret2
  exact ⟨rfl, HT6.out⟩

set_option maxRecDepth 100000 in
set_option maxHeartbeats 1000000 in
theorem lb_bad (a n : Int) (w : World) (h : a < 1 ∨ 31 < a) :
    Calls Tryd.prog 12 #[.int .i64 a, .int .i64 n] w fun e w' => e = .returned (.tuple #[.int .i64 0, .int .i64 1]) ∧ Turn [] w w' := by
  go_enter Tryd.func12, Tryd.ntmps12
  go_wp2_with fail
  refine (anchored_bad a n w h).mono ?_
  rintro e w1 ⟨rfl, hT1⟩
  have HT1 := hide hT1
  clear hT1
  go_wp2
  go_ret2
  exact ⟨rfl, HT1.out.alloc _⟩

set_option maxRecDepth 100000 in
set_option maxHeartbeats 1000000 in
theorem lb_no (a n : Int) (w : World) (hT : Tab w) (h1 : 1 ≤ a) (h2 : a ≤ 31) (h : n < -719162 ∨ 2932896 < n) :
    Calls Tryd.prog 12 #[.int .i64 a, .int .i64 n] w fun e w' => e = .returned (.tuple #[.int .i64 0, .int .i64 1]) ∧ Turn [] w w' := by
  have HT := hide hT
  clear hT
  go_enter Tryd.func12, Tryd.ntmps12
  go_wp2_with fail
  refine (anchored_ok a n w HT.out h1 h2).mono ?_
  rintro e w1 ⟨⟨y, m, d, f, rfl, hc⟩, hT1⟩
  have HT1 := hide hT1
  clear hT1
  obtain ⟨rfl, rfl, rfl, rfl, -⟩ | ⟨-, hv, hn⟩ := hc
  · go_wp2
    go_ret2
    exact ⟨rfl, HT1.out.alloc _⟩
  · have := num_bd hv; omega

set_option maxRecDepth 100000 in
set_option maxHeartbeats 1000000 in
theorem lb_this (y m d a n : Int) (w : World) (hT : Tab w) (h1 : 1 ≤ a) (h2 : a ≤ 31) (hv : vldB y m d = true) (hn : num y m d = n) (hc : ¬ (d < min a (len y m))) :
    Calls Tryd.prog 12 #[.int .i64 a, .int .i64 n] w fun e w' => e = .returned (.tuple #[.int .i64 (numV y m (min a (len y m))), .int .i64 (errV y m (min a (len y m)))]) ∧ Turn [] w w' := by
  have HT := hide hT
  have HV := hide hv
  have HN := hide hn
  have hm := vld_m hv
  have hy := (vld_iff.1 hv).1
  have hb := num_bd hv
  rw [hn] at hb
  clear hT hv hn
  generalize eb : min a (len y m) = b at *
  have EB := hide eb
  clear eb
  go_enter Tryd.func12, Tryd.ntmps12
  go_wp2_with fail
  refine (anchored_ok a n w HT.out h1 h2).mono ?_
  rintro e w1 ⟨⟨y', m', d', f, rfl, hc⟩, hT1⟩
  obtain ⟨-, -, -, -, hx⟩ | ⟨rfl, hv', hn'⟩ := hc
  · omega
  obtain ⟨rfl, rfl, rfl⟩ := num_inj HV.out hv' (HN.out.trans hn'.symm)
  clear hv' hn'
  have HT1 := hide (hT1.alloc (.cells #[.int .i64 y, .int .i64 m, .int .i64 d] 33))
  have HD1 := hide (DateAt.new w1 y m d 33)
  clear hT1
  go_wp2_with fail
  generalize w1.alloc (.cells #[.int .i64 y, .int .i64 m, .int .i64 d] 33) = W1 at *
  generalize w1.heap.size = g at *
  refine (bound_ymd y m d a W1 (HT.out.turn HT1.out)).mono ?_
  rintro e w2 ⟨rfl, hT2⟩
  rw [EB.out]
  have HT2 := hide ((HT1.out.trans hT2).alloc (.cells #[.int .i64 y, .int .i64 m, .int .i64 b] 33))
  have HD2 := hide ((HD1.out.turn hT2).turn ((Turn.refl [] w2).alloc (.cells #[.int .i64 y, .int .i64 m, .int .i64 b] 33)))
  have HB2 := hide (DateAt.new w2 y m b 33)
  have hW : g < w2.heap.size := (HD1.out.turn hT2).lt
  have hw2 : w.heap.size ≤ w2.heap.size := (HT1.out.trans hT2).size
  clear hT2 HT1 HD1
  obtain ⟨c0, c1, c2, -⟩ := HD2.out
  go_upto_if 25 with fail
  generalize w2.alloc (.cells #[.int .i64 y, .int .i64 m, .int .i64 b] 33) = W2 at *
  generalize w2.heap.size = k at *
  clear c0 c1 c2
  obtain ⟨c0, c1, c2, -⟩ := HB2.out
  go_wp2_with fail
  refine (number_any y m b W2 (HT.out.turn HT2.out)).mono ?_
  rintro e w3 ⟨rfl, hT3⟩
  have HT3 := hide (HT2.out.trans hT3)
  clear hT3 HT2 c0 c1 c2
  go_wp2
  go_ret2
  exact ⟨rfl, HT3.out⟩

set_option maxRecDepth 100000 in
set_option maxHeartbeats 1000000 in
theorem lb_step (y m d a n : Int) (w : World) (hT : Tab w) (h1 : 1 ≤ a) (h2 : a ≤ 31) (hv : vldB y m d = true) (hn : num y m d = n) (hc : d < min a (len y m)) :
    Calls Tryd.prog 12 #[.int .i64 a, .int .i64 n] w fun e w' => e = .returned (.tuple #[.int .i64 (numV (py y m) (pm m) (min a (len (py y m) (pm m)))), .int .i64 (errV (py y m) (pm m) (min a (len (py y m) (pm m))))]) ∧ Turn [] w w' := by
  have HT := hide hT
  have HV := hide hv
  have HN := hide hn
  have hm := vld_m hv
  have hy := (vld_iff.1 hv).1
  have hb := num_bd hv
  rw [hn] at hb
  clear hT hv hn
  generalize eb : min a (len y m) = b at *
  have EB := hide eb
  clear eb
  go_enter Tryd.func12, Tryd.ntmps12
  go_wp2_with fail
  refine (anchored_ok a n w HT.out h1 h2).mono ?_
  rintro e w1 ⟨⟨y', m', d', f, rfl, hc⟩, hT1⟩
  obtain ⟨-, -, -, -, hx⟩ | ⟨rfl, hv', hn'⟩ := hc
  · omega
  obtain ⟨rfl, rfl, rfl⟩ := num_inj HV.out hv' (HN.out.trans hn'.symm)
  clear hv' hn'
  have HT1 := hide (hT1.alloc (.cells #[.int .i64 y, .int .i64 m, .int .i64 d] 33))
  have HD1 := hide (DateAt.new w1 y m d 33)
  clear hT1
  go_wp2_with fail
  generalize w1.alloc (.cells #[.int .i64 y, .int .i64 m, .int .i64 d] 33) = W1 at *
  generalize w1.heap.size = g at *
  refine (bound_ymd y m d a W1 (HT.out.turn HT1.out)).mono ?_
  rintro e w2 ⟨rfl, hT2⟩
  rw [EB.out]
  have HT2 := hide ((HT1.out.trans hT2).alloc (.cells #[.int .i64 y, .int .i64 m, .int .i64 b] 33))
  have HD2 := hide ((HD1.out.turn hT2).turn ((Turn.refl [] w2).alloc (.cells #[.int .i64 y, .int .i64 m, .int .i64 b] 33)))
  have HB2 := hide (DateAt.new w2 y m b 33)
  have hW : g < w2.heap.size := (HD1.out.turn hT2).lt
  have hw2 : w.heap.size ≤ w2.heap.size := (HT1.out.trans hT2).size
  clear hT2 HT1 HD1
  obtain ⟨c0, c1, c2, -⟩ := HD2.out
  go_upto_if 25 with fail
  generalize w2.alloc (.cells #[.int .i64 y, .int .i64 m, .int .i64 b] 33) = W2 at *
  generalize w2.heap.size = k at *
  clear c0 c1 c2
  obtain ⟨c0, c1, c2, -⟩ := HD2.out
  go_wp2_with fail
  refine (ahead_ymd y m d W2 (by omega) (by omega) (by omega) (by omega)).mono ?_
  rintro e w3 ⟨rfl, hT3⟩
  have HT3 := hide (HT2.out.trans hT3)
  have HB3 := hide (HB2.out.turn hT3)
  clear hT3 HT2 HD2 HB2 c0 c1 c2
  go_wp2_with fail
  refine (bound_ymd (py y m) (pm m) d a w3 (HT.out.turn HT3.out)).mono ?_
  rintro e w4 ⟨rfl, hT4⟩
  have HT4 := hide (HT3.out.trans hT4)
  have HB4 := hide (HB3.out.turn hT4)
  clear hT4 HT3 HB3
  obtain ⟨c0, c1, c2, fz⟩ := HB4.out
  have fz0 := fz 0
  have fz1 := fz 1
  have fz2 := fz 2
  clear fz
  go_wp2_with fail
  have HTF := hide (((HT4.out.setNew hw2 0 (.int .i64 (py y m))).setNew hw2 1 (.int .i64 (pm m))).setNew hw2 2 (.int .i64 (min a (len (py y m) (pm m)))))
  generalize ((w4.setCell ⟨k, 0, none⟩ (.int .i64 (py y m))).setCell ⟨k, 1, none⟩ (.int .i64 (pm m))).setCell ⟨k, 2, none⟩ (.int .i64 (min a (len (py y m) (pm m)))) = w5 at *
  refine (number_any (py y m) (pm m) (min a (len (py y m) (pm m))) w5 (HT.out.turn HTF.out)).mono ?_
  rintro e w6 ⟨rfl, hT6⟩
  have HT6 := hide (HTF.out.trans hT6)
  clear hT6 HTF HT4 HB4 c0 c1 c2 fz0 fz1 fz2
  go_wp2
  go_ret2
  exact ⟨rfl, HT6.out⟩

end Go.Proofs.YtllbcbodfahidaaDoor
