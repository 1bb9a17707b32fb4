/-
  RecPlans where no name is too long, walked.
-/
import Derived.Test.YtghgkjollafeiaaR8
namespace Go.Proofs.Ytghgkjollafeiaa
open Go.RowKit

set_option maxRecDepth 100000 in
set_option maxHeartbeats 6400000 in
theorem plans_any (w : World) (np nq ns : ByteArray) (x1 x2 x3 x4 x5 x6 x7 x8 x9 u1 u2 u3 u4 u5 u6 u7 u8 u9 z1 z2 z3 z4 z5 z6 z7 z8 : Int) (hp : np.size ≤ 255) (hq : nq.size ≤ 255) (hs : ns.size ≤ 255) (hP : ∀ x ∈ [x1, x2, x3, x4, x5, x6, x7, x8, x9], I64 x) (hS : ∀ x ∈ [z1, z2, z3, z4, z5, z6, z7, z8], I64 x) :
    Calls Try.prog 4 #[.agg #[Value.string np, .int .i64 x1, .int .i64 x2, .int .i64 x3, .int .i64 x4, .int .i64 x5, .int .i64 x6, .int .i64 x7, .int .i64 x8, .int .i64 x9], .agg #[Value.string nq, .int .i64 u1, .int .i64 u2, .int .i64 u3, .int .i64 u4, .int .i64 u5, .int .i64 u6, .int .i64 u7, .int .i64 u8, .int .i64 u9], .agg #[Value.string ns, .int .i64 z1, .int .i64 z2, .int .i64 z3, .int .i64 z4, .int .i64 z5, .int .i64 z6, .int .i64 z7, .int .i64 z8]] w fun e w' => e = .returned (.bool true) ∧ Turn [] w w' := by
  have hb0 := boxes w (.cells #[Value.string np, .int .i64 x1, .int .i64 x2, .int .i64 x3, .int .i64 x4, .int .i64 x5, .int .i64 x6, .int .i64 x7, .int .i64 x8, .int .i64 x9] 23) (.cells #[Value.string nq, .int .i64 u1, .int .i64 u2, .int .i64 u3, .int .i64 u4, .int .i64 u5, .int .i64 u6, .int .i64 u7, .int .i64 u8, .int .i64 u9] 23) (.cells #[Value.string ns, .int .i64 z1, .int .i64 z2, .int .i64 z3, .int .i64 z4, .int .i64 z5, .int .i64 z6, .int .i64 z7, .int .i64 z8] 40)
  have hb1 := boxes1 w (.cells #[Value.string np, .int .i64 x1, .int .i64 x2, .int .i64 x3, .int .i64 x4, .int .i64 x5, .int .i64 x6, .int .i64 x7, .int .i64 x8, .int .i64 x9] 23) (.cells #[Value.string nq, .int .i64 u1, .int .i64 u2, .int .i64 u3, .int .i64 u4, .int .i64 u5, .int .i64 u6, .int .i64 u7, .int .i64 u8, .int .i64 u9] 23) (.cells #[Value.string ns, .int .i64 z1, .int .i64 z2, .int .i64 z3, .int .i64 z4, .int .i64 z5, .int .i64 z6, .int .i64 z7, .int .i64 z8] 40)
  have hb2 := boxes2 w (.cells #[Value.string np, .int .i64 x1, .int .i64 x2, .int .i64 x3, .int .i64 x4, .int .i64 x5, .int .i64 x6, .int .i64 x7, .int .i64 x8, .int .i64 x9] 23) (.cells #[Value.string nq, .int .i64 u1, .int .i64 u2, .int .i64 u3, .int .i64 u4, .int .i64 u5, .int .i64 u6, .int .i64 u7, .int .i64 u8, .int .i64 u9] 23) (.cells #[Value.string ns, .int .i64 z1, .int .i64 z2, .int .i64 z3, .int .i64 z4, .int .i64 z5, .int .i64 z6, .int .i64 z7, .int .i64 z8] 40)
  have hT0 : Turn [] w (((w.alloc (.cells #[Value.string np, .int .i64 x1, .int .i64 x2, .int .i64 x3, .int .i64 x4, .int .i64 x5, .int .i64 x6, .int .i64 x7, .int .i64 x8, .int .i64 x9] 23)).alloc (.cells #[Value.string nq, .int .i64 u1, .int .i64 u2, .int .i64 u3, .int .i64 u4, .int .i64 u5, .int .i64 u6, .int .i64 u7, .int .i64 u8, .int .i64 u9] 23)).alloc (.cells #[Value.string ns, .int .i64 z1, .int .i64 z2, .int .i64 z3, .int .i64 z4, .int .i64 z5, .int .i64 z6, .int .i64 z7, .int .i64 z8] 40)) := (((Turn.refl [] w).alloc _).alloc _).alloc _
  obtain ⟨r, hr⟩ := eql_pq np nq x1 x2 x3 x4 x5 x6 x7 x8 x9 u1 u2 u3 u4 u5 u6 u7 u8 u9
  have HEP : Hid (∀ w', Calls Try.prog 15 #[.agg #[Value.string np, .int .i64 x1, .int .i64 x2, .int .i64 x3, .int .i64 x4, .int .i64 x5, .int .i64 x6, .int .i64 x7, .int .i64 x8, .int .i64 x9]] w' fun r w'' => ∃ v, r = .returned v ∧ Out w' w'' v (tiB np [x1, x2, x3, x4, x5, x6, x7, x8, x9])) := fun w' => enc_plan w' np x1 x2 x3 x4 x5 x6 x7 x8 x9 hp
  have HES : Hid (∀ w', Calls Try.prog 16 #[.agg #[Value.string ns, .int .i64 z1, .int .i64 z2, .int .i64 z3, .int .i64 z4, .int .i64 z5, .int .i64 z6, .int .i64 z7, .int .i64 z8]] w' fun r w'' => ∃ v, r = .returned v ∧ Out w' w'' v (tiB ns [z1, z2, z3, z4, z5, z6, z7, z8])) := fun w' => enc_stm w' ns z1 z2 z3 z4 z5 z6 z7 z8 hs
  have HRP : Hid (∀ w', Calls Try.prog 19 #[.slice none 0 0, .agg #[Value.string np, .int .i64 x1, .int .i64 x2, .int .i64 x3, .int .i64 x4, .int .i64 x5, .int .i64 x6, .int .i64 x7, .int .i64 x8, .int .i64 x9]] w' fun e w'' => ∃ v', e = .returned v' ∧ Gr w' w'' (.slice none 0 0) v' (tiB np [x1, x2, x3, x4, x5, x6, x7, x8, x9])) := fun w' => rplan (.slice none 0 0) [] np x1 x2 x3 x4 x5 x6 x7 x8 x9 hp (by simp) (World.ownsRow_nil _ _ _ _)
  have HRS : Hid (∀ w', Calls Try.prog 20 #[.slice none 0 0, .agg #[Value.string ns, .int .i64 z1, .int .i64 z2, .int .i64 z3, .int .i64 z4, .int .i64 z5, .int .i64 z6, .int .i64 z7, .int .i64 z8]] w' fun e w'' => ∃ v', e = .returned v' ∧ Gr w' w'' (.slice none 0 0) v' (tiB ns [z1, z2, z3, z4, z5, z6, z7, z8])) := fun w' => rstm (.slice none 0 0) [] ns z1 z2 z3 z4 z5 z6 z7 z8 hs (by simp) (World.ownsRow_nil _ _ _ _)
  have HSM : Hid (∀ w', Calls Try.prog 21 #[.agg #[Value.string np, .int .i64 x1, .int .i64 x2, .int .i64 x3, .int .i64 x4, .int .i64 x5, .int .i64 x6, .int .i64 x7, .int .i64 x8, .int .i64 x9], .agg #[Value.string nq, .int .i64 u1, .int .i64 u2, .int .i64 u3, .int .i64 u4, .int .i64 u5, .int .i64 u6, .int .i64 u7, .int .i64 u8, .int .i64 u9]] w' fun e w'' => e = .returned (.bool r) ∧ Turn [] w' w'') := fun w' => same_any w' np nq x1 x2 x3 x4 x5 x6 x7 x8 x9 u1 u2 u3 u4 u5 u6 u7 u8 u9 r hr
  have HPP := hide (back_plan np x1 x2 x3 x4 x5 x6 x7 x8 x9 hp hP)
  have HPS := hide (back_stm ns z1 z2 z3 z4 z5 z6 z7 z8 hs hS)
  have HR := hide hr
  have hb0l := tiB_pos np [x1, x2, x3, x4, x5, x6, x7, x8, x9]
  have hs0l := tiB_pos ns [z1, z2, z3, z4, z5, z6, z7, z8]
  generalize tiB np [x1, x2, x3, x4, x5, x6, x7, x8, x9] = LB at *
  generalize tiB ns [z1, z2, z3, z4, z5, z6, z7, z8] = LC at *
  have HB0 := hide hb0
  have HB1 := hide hb1
  have HB2 := hide hb2
  have HT0 := hide hT0
  clear hb0 hb1 hb2 hT0 hP hS hr
  go_enter Try.func4, Try.ntmps4
  go_wp2_with fail
  generalize (((w.alloc (.cells #[Value.string np, .int .i64 x1, .int .i64 x2, .int .i64 x3, .int .i64 x4, .int .i64 x5, .int .i64 x6, .int .i64 x7, .int .i64 x8, .int .i64 x9] 23)).alloc (.cells #[Value.string nq, .int .i64 u1, .int .i64 u2, .int .i64 u3, .int .i64 u4, .int .i64 u5, .int .i64 u6, .int .i64 u7, .int .i64 u8, .int .i64 u9] 23)).alloc (.cells #[Value.string ns, .int .i64 z1, .int .i64 z2, .int .i64 z3, .int .i64 z4, .int .i64 z5, .int .i64 z6, .int .i64 z7, .int .i64 z8] 40)) = w0 at *
  refine (known_any w0).mono ?_
  rintro e w1 ⟨rfl, hT1⟩
  have cp := box_cells HB0.out hT1
  have cq := box_cells HB1.out hT1
  have cs := box_cells HB2.out hT1
  have cp0 := cp 0 _ rfl
  have cp1 := cp 1 _ rfl
  have cp2 := cp 2 _ rfl
  have cp3 := cp 3 _ rfl
  have cp4 := cp 4 _ rfl
  have cp5 := cp 5 _ rfl
  have cp6 := cp 6 _ rfl
  have cp7 := cp 7 _ rfl
  have cp8 := cp 8 _ rfl
  have cp9 := cp 9 _ rfl
  have cq0 := cq 0 _ rfl
  have cs0 := cs 0 _ rfl
  have cs1 := cs 1 _ rfl
  have cs2 := cs 2 _ rfl
  have cs3 := cs 3 _ rfl
  have cs4 := cs 4 _ rfl
  have cs5 := cs 5 _ rfl
  have cs6 := cs 6 _ rfl
  have cs7 := cs 7 _ rfl
  have cs8 := cs 8 _ rfl
  have HT1 := hide hT1
  clear cp cq cs hT1
  go_wp2_with fail
  go_region_with (first
    | (go_at_call 15; refine (HEP.out _).mono ?_; rintro e w2 ⟨vb, rfl, hO2⟩; have HT2 := hide (HT1.out.drew.trans hO2.old); have ds := box_cells HB2.out HT2.out; have ds0 := ds 0 _ rfl; have ds1 := ds 1 _ rfl; have ds2 := ds 2 _ rfl; have ds3 := ds 3 _ rfl; have ds4 := ds 4 _ rfl; have ds5 := ds 5 _ rfl; have ds6 := ds 6 _ rfl; have ds7 := ds 7 _ rfl; have ds8 := ds 8 _ rfl; obtain ⟨gb, capb, rfl, hBb, hb1c, hb2c⟩ := out_row hO2 hb0l; have HBb := hide hBb; clear hO2 hBb ds)
    | (go_at_call 16; refine (HES.out _).mono ?_; rintro e w3 ⟨vc, rfl, hO3⟩; have HT3 := hide (HT2.out.trans hO3.old); have HO3 := hide hO3.old; obtain ⟨gc, capc, rfl, hBc, hc1c, hc2c⟩ := out_row hO3 hs0l; have HBc := hide hBc; clear hO3 hBc))
  all_goals
    clear cp0 cp1 cp2 cp3 cp4 cp5 cp6 cp7 cp8 cp9 cs0 cs1 cs2 cs3 cs4 cs5 cs6 cs7 cs8 cq0 ds0 ds1 ds2 ds3 ds4 ds5 ds6 ds7 ds8 HEP HES
    go_wp2_with fail
    refine (HPP.out _ gb capb (HBb.out.turn HO3.out (by simp)) hb1c hb2c).mono ?_
    rintro e w4 ⟨rfl, hT4⟩
    have HT4 := hide hT4
    clear hT4
    have HX4 := hide (show (w4.alloc (.cells #[Value.string np, .int .i64 x1, .int .i64 x2, .int .i64 x3, .int .i64 x4, .int .i64 x5, .int .i64 x6, .int .i64 x7, .int .i64 x8, .int .i64 x9] 23)).heap[w4.heap.size]? = some (.cells #[Value.string np, .int .i64 x1, .int .i64 x2, .int .i64 x3, .int .i64 x4, .int .i64 x5, .int .i64 x6, .int .i64 x7, .int .i64 x8, .int .i64 x9] 23 (0, 0)) from heap_alloc_new w4 _)
    have HT4a := hide (show Turn [] w4 (w4.alloc (.cells #[Value.string np, .int .i64 x1, .int .i64 x2, .int .i64 x3, .int .i64 x4, .int .i64 x5, .int .i64 x6, .int .i64 x7, .int .i64 x8, .int .i64 x9] 23)) from (Turn.refl [] w4).alloc _)
    go_wp2_with fail
    generalize w4.alloc (.cells #[Value.string np, .int .i64 x1, .int .i64 x2, .int .i64 x3, .int .i64 x4, .int .i64 x5, .int .i64 x6, .int .i64 x7, .int .i64 x8, .int .i64 x9] 23) = w4a at *
    refine (HPS.out _ gc capc ((HBc.out.turn HT4.out (by simp)).turn HT4a.out (by simp)) hc1c hc2c).mono ?_
    rintro e w5 ⟨rfl, hT5⟩
    have HT5 := hide hT5
    clear hT5
    have HY5 := hide (show (w5.alloc (.cells #[Value.string ns, .int .i64 z1, .int .i64 z2, .int .i64 z3, .int .i64 z4, .int .i64 z5, .int .i64 z6, .int .i64 z7, .int .i64 z8] 40)).heap[w5.heap.size]? = some (.cells #[Value.string ns, .int .i64 z1, .int .i64 z2, .int .i64 z3, .int .i64 z4, .int .i64 z5, .int .i64 z6, .int .i64 z7, .int .i64 z8] 40 (0, 0)) from heap_alloc_new w5 _)
    have HT5a := hide (show Turn [] w5 (w5.alloc (.cells #[Value.string ns, .int .i64 z1, .int .i64 z2, .int .i64 z3, .int .i64 z4, .int .i64 z5, .int .i64 z6, .int .i64 z7, .int .i64 z8] 40)) from (Turn.refl [] w5).alloc _)
    go_wp2_with fail
    generalize w5.alloc (.cells #[Value.string ns, .int .i64 z1, .int .i64 z2, .int .i64 z3, .int .i64 z4, .int .i64 z5, .int .i64 z6, .int .i64 z7, .int .i64 z8] 40) = w6 at *
    have hT46 : Turn [] w4a w6 := HT5.out.trans HT5a.out
    have hT36 : Turn [] w3 w6 := (HT4.out.trans HT4a.out).trans hT46
    have hT06 : Turn [] w0 w6 := HT3.out.trans hT36
    have hF : Faces w6 w.heap.size (w.heap.size + 1) (w.heap.size + 1 + 1) w4.heap.size w5.heap.size gb gc LB LC #[Value.string np, .int .i64 x1, .int .i64 x2, .int .i64 x3, .int .i64 x4, .int .i64 x5, .int .i64 x6, .int .i64 x7, .int .i64 x8, .int .i64 x9] #[Value.string nq, .int .i64 u1, .int .i64 u2, .int .i64 u3, .int .i64 u4, .int .i64 u5, .int .i64 u6, .int .i64 u7, .int .i64 u8, .int .i64 u9] #[Value.string ns, .int .i64 z1, .int .i64 z2, .int .i64 z3, .int .i64 z4, .int .i64 z5, .int .i64 z6, .int .i64 z7, .int .i64 z8] :=
      ⟨fun w' h => box_cells HB0.out (hT06.trans h), fun w' h => box_cells HB1.out (hT06.trans h), fun w' h => box_cells HB2.out (hT06.trans h), fun w' h => box_cells HX4.out (hT46.trans h), fun w' h => box_cells HY5.out h, (HBb.out.turn HO3.out (by simp)).turn hT36 (by simp), HBc.out.turn hT36 (by simp)⟩
    have HW6 := hide (HT0.out.trans hT06)
    refine reg8_any w6 np nq ns x1 x2 x3 x4 x5 x6 x7 x8 x9 u1 u2 u3 u4 u5 u6 u7 u8 u9 z1 z2 z3 z4 z5 z6 z7 z8 _ _ _ _ _ gb gc capb capc LB LC r _ hF HR.out HRP HRS HSM ?_
    intro L w' h6 hT
    have HFin := hide (HW6.out.trans hT)
    have H6 := hide h6
    clear hF hT hT46 hT36 hT06 h6
    go_wp2_with fail
    go_ret
    have h := H6.out
    refine ⟨?_, HFin.out⟩
    first
      | exact congrArg Ending.returned h
      | (simp at h ⊢; exact h)
end Go.Proofs.Ytghgkjollafeiaa
