/-
  FrameRequests: SameRequest of the reference, walked, kind by kind.
-/
import Derived.Test.YtkbboingeacgjaaFRSame
namespace Go.Proofs.Ytkbboingeacgjaa
open Go.RowKit

set_option maxRecDepth 100000 in
set_option maxHeartbeats 6400000 in
theorem rs_16 (w : World) (a b : Rq) (ha : a.k = 16) (hb : b.k = 16) : Calls Try.prog 16 #[.agg (rqC a).toArray, .agg (rqC b).toArray] w fun e w' => ∃ z, e = .returned (.bool z) ∧ (z = true ↔ keptR a = keptR b) ∧ Turn [] w w' := by
  obtain ⟨E, hE⟩ : ∃ E : Ending → World → Prop, E = fun e w' => ∃ z, e = .returned (.bool z) ∧ (z = true ↔ keptR a = keptR b) ∧ Turn [] w w' := ⟨_, rfl⟩
  rw [← hE]
  have hRa : ((w.alloc (.cells (rqC a).toArray 25)).alloc (.cells (rqC b).toArray 25)).rangeAt w.heap.size 0 (rqC a) := rangeAt_keep (rng_new w (rqC a) (rqC a).toArray 25 rfl) (Below.heap_alloc _ _ _ (by simp))
  have hRb : ((w.alloc (.cells (rqC a).toArray 25)).alloc (.cells (rqC b).toArray 25)).rangeAt (w.heap.size + 1) 0 (rqC b) := by
    have := rng_new (w.alloc (.cells (rqC a).toArray 25)) (rqC b) (rqC b).toArray 25 rfl
    rwa [show (w.alloc (.cells (rqC a).toArray 25)).heap.size = w.heap.size + 1 by simp] at this
  have HTw : Hid (Turn [] w ((w.alloc (.cells (rqC a).toArray 25)).alloc (.cells (rqC b).toArray 25))) := ((Turn.refl [] w).alloc _).alloc _
  have HE : Hid (∀ z : Bool, (z = true ↔ keptR a = keptR b) → E (.returned (.bool z)) ((w.alloc (.cells (rqC a).toArray 25)).alloc (.cells (rqC b).toArray 25))) := fun z h => by
    rw [hE]
    exact ⟨z, rfl, h, HTw.out⟩
  have HRa := hide hRa
  have HRb := hide hRb
  clear hRa hRb hE HTw
  have hsz : (w.alloc (.cells (rqC a).toArray 25)).heap.size = w.heap.size + 1 := by simp
  generalize hca : rqC a = ca at *
  generalize hcb : rqC b = cb at *
  generalize hfb : w.heap.size = fb at *
  go_enter Try.func16, Try.ntmps16
  go_upto_region 1 with fail
  clear hfb hsz
  generalize (w.alloc (.cells ca.toArray 25)).alloc (.cells cb.toArray 25) = W at *
  subst hca hcb
  have ca0 : W.cell? ⟨fb, 0, none⟩ = some (.int .i64 a.k) := by have := HRa.out 0 _ rfl; rwa [Nat.zero_add] at this
  have cb0 : W.cell? ⟨fb + 1, 0, none⟩ = some (.int .i64 b.k) := by have := HRb.out 0 _ rfl; rwa [Nat.zero_add] at this
  have ca1 : W.cell? ⟨fb, 1, none⟩ = some (.string a.key) := by have := HRa.out 1 _ rfl; rwa [Nat.zero_add] at this
  have cb1 : W.cell? ⟨fb + 1, 1, none⟩ = some (.string b.key) := by have := HRb.out 1 _ rfl; rwa [Nat.zero_add] at this
  rw [ha] at ca0
  rw [hb] at cb0
  have hi := kept_iff_16 a b ha hb
  have HI := hide hi
  clear hi
  obtain ⟨z, hz, hZ⟩ := eq_plans a b
  have hPa : W.rangeAt fb 8 [.string a.pn, .int .i64 a.p1, .int .i64 a.p2, .int .i64 a.p3, .int .i64 a.p4, .int .i64 a.p5, .int .i64 a.p6, .int .i64 a.p7, .int .i64 a.p8, .int .i64 a.p9] := fun j v hj => by
    have := HRa.out (8 + j) v (by
      rw [show rqC a = [.int .i64 a.k, .string a.key, .int .i64 a.id, .int .i64 a.n, .int .i64 a.ttl, .int .i64 a.o, .string a.nm, .string a.sec] ++ [.string a.pn, .int .i64 a.p1, .int .i64 a.p2, .int .i64 a.p3, .int .i64 a.p4, .int .i64 a.p5, .int .i64 a.p6, .int .i64 a.p7, .int .i64 a.p8, .int .i64 a.p9] from rfl, List.getElem?_append_right (by simp)]
      simpa using hj)
    rwa [Nat.zero_add] at this
  have hPb : W.rangeAt (fb + 1) 8 [.string b.pn, .int .i64 b.p1, .int .i64 b.p2, .int .i64 b.p3, .int .i64 b.p4, .int .i64 b.p5, .int .i64 b.p6, .int .i64 b.p7, .int .i64 b.p8, .int .i64 b.p9] := fun j v hj => by
    have := HRb.out (8 + j) v (by
      rw [show rqC b = [.int .i64 b.k, .string b.key, .int .i64 b.id, .int .i64 b.n, .int .i64 b.ttl, .int .i64 b.o, .string b.nm, .string b.sec] ++ [.string b.pn, .int .i64 b.p1, .int .i64 b.p2, .int .i64 b.p3, .int .i64 b.p4, .int .i64 b.p5, .int .i64 b.p6, .int .i64 b.p7, .int .i64 b.p8, .int .i64 b.p9] from rfl, List.getElem?_append_right (by simp)]
      simpa using hj)
    rwa [Nat.zero_add] at this
  have HPa := hide hPa
  have HPb := hide hPb
  have HZ := hide hZ
  have Hz := hide hz
  clear hPa hPb hz hZ
  clear HRa HRb
  by_cases h0 : a.key = b.key
  rotate_left
  · have HX := hide (HE.out false ⟨fun e => (by cases e), fun e => absurd (HI.out.1 e).1 h0⟩)
    have g0 : ¬ a.key.toList = b.key.toList := fun e => h0 (str_eq e)
    have k0 : (a.key.toList == b.key.toList) = false := by rw [beq_eq_false_iff_ne]; exact g0
    clear HE HI HPa HPb HZ Hz
    go_wp2_with (first | (go_at_call 26; refine (rk16 _).mono ?_; rintro e w' ⟨rfl, hw'⟩; subst w') | fail)
    exact HX.out
  rw [← h0] at cb1
  have HX := hide (HE.out z ⟨fun e => HI.out.2 ⟨h0, Hz.out.1 e⟩, fun e => Hz.out.2 (HI.out.1 e).2⟩)
  clear HE HI Hz h0
  go_upto_region 16 with (first | (go_at_call 26; refine (rk16 _).mono ?_; rintro e w' ⟨rfl, hw'⟩; subst w') | fail)
  have hE2 : ∀ V, (binOp .eql 23 (.agg #[.string a.pn, .int .i64 a.p1, .int .i64 a.p2, .int .i64 a.p3, .int .i64 a.p4, .int .i64 a.p5, .int .i64 a.p6, .int .i64 a.p7, .int .i64 a.p8, .int .i64 a.p9]) (.agg #[.string b.pn, .int .i64 b.p1, .int .i64 b.p2, .int .i64 b.p3, .int .i64 b.p4, .int .i64 b.p5, .int .i64 b.p6, .int .i64 b.p7, .int .i64 b.p8, .int .i64 b.p9])).run Try.prog V = .ok (.bool z) V := HZ.out
  go_wp2_with (first | ((with_reducible refine load_sz 23 10 sz23 _ fb 8 [.string a.pn, .int .i64 a.p1, .int .i64 a.p2, .int .i64 a.p3, .int .i64 a.p4, .int .i64 a.p5, .int .i64 a.p6, .int .i64 a.p7, .int .i64 a.p8, .int .i64 a.p9] rfl ?_ HPa.out ?_); rfl) | ((with_reducible refine load_sz 23 10 sz23 _ (fb + 1) 8 [.string b.pn, .int .i64 b.p1, .int .i64 b.p2, .int .i64 b.p3, .int .i64 b.p4, .int .i64 b.p5, .int .i64 b.p6, .int .i64 b.p7, .int .i64 b.p8, .int .i64 b.p9] rfl ?_ HPb.out ?_); rfl) | ((with_reducible refine eql_pl _ _ _ ?_ ?_ eqg23 HZ.out ?_); rfl; rfl) | fail)
  exact HX.out

set_option maxRecDepth 100000 in
set_option maxHeartbeats 6400000 in
theorem rs_17 (w : World) (a b : Rq) (ha : a.k = 17) (hb : b.k = 17) : Calls Try.prog 16 #[.agg (rqC a).toArray, .agg (rqC b).toArray] w fun e w' => ∃ z, e = .returned (.bool z) ∧ (z = true ↔ keptR a = keptR b) ∧ Turn [] w w' := by
  obtain ⟨E, hE⟩ : ∃ E : Ending → World → Prop, E = fun e w' => ∃ z, e = .returned (.bool z) ∧ (z = true ↔ keptR a = keptR b) ∧ Turn [] w w' := ⟨_, rfl⟩
  rw [← hE]
  have hRa : ((w.alloc (.cells (rqC a).toArray 25)).alloc (.cells (rqC b).toArray 25)).rangeAt w.heap.size 0 (rqC a) := rangeAt_keep (rng_new w (rqC a) (rqC a).toArray 25 rfl) (Below.heap_alloc _ _ _ (by simp))
  have hRb : ((w.alloc (.cells (rqC a).toArray 25)).alloc (.cells (rqC b).toArray 25)).rangeAt (w.heap.size + 1) 0 (rqC b) := by
    have := rng_new (w.alloc (.cells (rqC a).toArray 25)) (rqC b) (rqC b).toArray 25 rfl
    rwa [show (w.alloc (.cells (rqC a).toArray 25)).heap.size = w.heap.size + 1 by simp] at this
  have HTw : Hid (Turn [] w ((w.alloc (.cells (rqC a).toArray 25)).alloc (.cells (rqC b).toArray 25))) := ((Turn.refl [] w).alloc _).alloc _
  have HE : Hid (∀ z : Bool, (z = true ↔ keptR a = keptR b) → E (.returned (.bool z)) ((w.alloc (.cells (rqC a).toArray 25)).alloc (.cells (rqC b).toArray 25))) := fun z h => by
    rw [hE]
    exact ⟨z, rfl, h, HTw.out⟩
  have HRa := hide hRa
  have HRb := hide hRb
  clear hRa hRb hE HTw
  have hsz : (w.alloc (.cells (rqC a).toArray 25)).heap.size = w.heap.size + 1 := by simp
  generalize hca : rqC a = ca at *
  generalize hcb : rqC b = cb at *
  generalize hfb : w.heap.size = fb at *
  go_enter Try.func16, Try.ntmps16
  go_upto_region 1 with fail
  clear hfb hsz
  generalize (w.alloc (.cells ca.toArray 25)).alloc (.cells cb.toArray 25) = W at *
  subst hca hcb
  have ca0 : W.cell? ⟨fb, 0, none⟩ = some (.int .i64 a.k) := by have := HRa.out 0 _ rfl; rwa [Nat.zero_add] at this
  have cb0 : W.cell? ⟨fb + 1, 0, none⟩ = some (.int .i64 b.k) := by have := HRb.out 0 _ rfl; rwa [Nat.zero_add] at this
  have ca1 : W.cell? ⟨fb, 1, none⟩ = some (.string a.key) := by have := HRa.out 1 _ rfl; rwa [Nat.zero_add] at this
  have cb1 : W.cell? ⟨fb + 1, 1, none⟩ = some (.string b.key) := by have := HRb.out 1 _ rfl; rwa [Nat.zero_add] at this
  have ca6 : W.cell? ⟨fb, 6, none⟩ = some (.string a.nm) := by have := HRa.out 6 _ rfl; rwa [Nat.zero_add] at this
  have cb6 : W.cell? ⟨fb + 1, 6, none⟩ = some (.string b.nm) := by have := HRb.out 6 _ rfl; rwa [Nat.zero_add] at this
  have ca7 : W.cell? ⟨fb, 7, none⟩ = some (.string a.sec) := by have := HRa.out 7 _ rfl; rwa [Nat.zero_add] at this
  have cb7 : W.cell? ⟨fb + 1, 7, none⟩ = some (.string b.sec) := by have := HRb.out 7 _ rfl; rwa [Nat.zero_add] at this
  have ca8 : W.cell? ⟨fb, 8, none⟩ = some (.string a.pn) := by have := HRa.out 8 _ rfl; rwa [Nat.zero_add] at this
  have cb8 : W.cell? ⟨fb + 1, 8, none⟩ = some (.string b.pn) := by have := HRb.out 8 _ rfl; rwa [Nat.zero_add] at this
  have ca9 : W.cell? ⟨fb, 9, none⟩ = some (.int .i64 a.p1) := by have := HRa.out 9 _ rfl; rwa [Nat.zero_add] at this
  have cb9 : W.cell? ⟨fb + 1, 9, none⟩ = some (.int .i64 b.p1) := by have := HRb.out 9 _ rfl; rwa [Nat.zero_add] at this
  rw [ha] at ca0
  rw [hb] at cb0
  have hi := kept_iff_17 a b ha hb
  have HI := hide hi
  clear hi
  clear HRa HRb
  by_cases h0 : a.key = b.key
  rotate_left
  · have HX := hide (HE.out false ⟨fun e => (by cases e), fun e => absurd (HI.out.1 e).1 h0⟩)
    have g0 : ¬ a.key.toList = b.key.toList := fun e => h0 (str_eq e)
    have k0 : (a.key.toList == b.key.toList) = false := by rw [beq_eq_false_iff_ne]; exact g0
    clear HE HI
    go_wp2_with (first | (go_at_call 26; refine (rk17 _).mono ?_; rintro e w' ⟨rfl, hw'⟩; subst w') | fail)
    exact HX.out
  rw [← h0] at cb1
  by_cases h1 : a.nm = b.nm
  rotate_left
  · have HX := hide (HE.out false ⟨fun e => (by cases e), fun e => absurd (HI.out.1 e).2.1 h1⟩)
    have g1 : ¬ a.nm.toList = b.nm.toList := fun e => h1 (str_eq e)
    have k1 : (a.nm.toList == b.nm.toList) = false := by rw [beq_eq_false_iff_ne]; exact g1
    clear HE HI
    go_wp2_with (first | (go_at_call 26; refine (rk17 _).mono ?_; rintro e w' ⟨rfl, hw'⟩; subst w') | fail)
    exact HX.out
  rw [← h1] at cb6
  by_cases h2 : a.sec = b.sec
  rotate_left
  · have HX := hide (HE.out false ⟨fun e => (by cases e), fun e => absurd (HI.out.1 e).2.2.1 h2⟩)
    have g2 : ¬ a.sec.toList = b.sec.toList := fun e => h2 (str_eq e)
    have k2 : (a.sec.toList == b.sec.toList) = false := by rw [beq_eq_false_iff_ne]; exact g2
    clear HE HI
    go_wp2_with (first | (go_at_call 26; refine (rk17 _).mono ?_; rintro e w' ⟨rfl, hw'⟩; subst w') | fail)
    exact HX.out
  rw [← h2] at cb7
  by_cases h3 : a.pn = b.pn
  rotate_left
  · have HX := hide (HE.out false ⟨fun e => (by cases e), fun e => absurd (HI.out.1 e).2.2.2.1 h3⟩)
    have g3 : ¬ a.pn.toList = b.pn.toList := fun e => h3 (str_eq e)
    have k3 : (a.pn.toList == b.pn.toList) = false := by rw [beq_eq_false_iff_ne]; exact g3
    clear HE HI
    go_wp2_with (first | (go_at_call 26; refine (rk17 _).mono ?_; rintro e w' ⟨rfl, hw'⟩; subst w') | fail)
    exact HX.out
  rw [← h3] at cb8
  by_cases h4 : a.p1 = b.p1
  rotate_left
  · have HX := hide (HE.out false ⟨fun e => (by cases e), fun e => absurd (HI.out.1 e).2.2.2.2 h4⟩)
    have k4 : (a.p1 == b.p1) = false := by rw [beq_eq_false_iff_ne]; exact h4
    clear HE HI
    go_wp2_with (first | (go_at_call 26; refine (rk17 _).mono ?_; rintro e w' ⟨rfl, hw'⟩; subst w') | fail)
    exact HX.out
  rw [← h4] at cb9
  have HX := hide (HE.out true ⟨fun _ => HI.out.2 ⟨h0, h1, h2, h3, h4⟩, fun _ => rfl⟩)
  clear HE HI h0 h1 h2 h3 h4
  go_wp2_with (first | (go_at_call 26; refine (rk17 _).mono ?_; rintro e w' ⟨rfl, hw'⟩; subst w') | fail)
  exact HX.out

set_option maxRecDepth 100000 in
set_option maxHeartbeats 6400000 in
theorem rs_18 (w : World) (a b : Rq) (ha : a.k = 18) (hb : b.k = 18) : Calls Try.prog 16 #[.agg (rqC a).toArray, .agg (rqC b).toArray] w fun e w' => ∃ z, e = .returned (.bool z) ∧ (z = true ↔ keptR a = keptR b) ∧ Turn [] w w' := by
  obtain ⟨E, hE⟩ : ∃ E : Ending → World → Prop, E = fun e w' => ∃ z, e = .returned (.bool z) ∧ (z = true ↔ keptR a = keptR b) ∧ Turn [] w w' := ⟨_, rfl⟩
  rw [← hE]
  have hRa : ((w.alloc (.cells (rqC a).toArray 25)).alloc (.cells (rqC b).toArray 25)).rangeAt w.heap.size 0 (rqC a) := rangeAt_keep (rng_new w (rqC a) (rqC a).toArray 25 rfl) (Below.heap_alloc _ _ _ (by simp))
  have hRb : ((w.alloc (.cells (rqC a).toArray 25)).alloc (.cells (rqC b).toArray 25)).rangeAt (w.heap.size + 1) 0 (rqC b) := by
    have := rng_new (w.alloc (.cells (rqC a).toArray 25)) (rqC b) (rqC b).toArray 25 rfl
    rwa [show (w.alloc (.cells (rqC a).toArray 25)).heap.size = w.heap.size + 1 by simp] at this
  have HTw : Hid (Turn [] w ((w.alloc (.cells (rqC a).toArray 25)).alloc (.cells (rqC b).toArray 25))) := ((Turn.refl [] w).alloc _).alloc _
  have HE : Hid (∀ z : Bool, (z = true ↔ keptR a = keptR b) → E (.returned (.bool z)) ((w.alloc (.cells (rqC a).toArray 25)).alloc (.cells (rqC b).toArray 25))) := fun z h => by
    rw [hE]
    exact ⟨z, rfl, h, HTw.out⟩
  have HRa := hide hRa
  have HRb := hide hRb
  clear hRa hRb hE HTw
  have hsz : (w.alloc (.cells (rqC a).toArray 25)).heap.size = w.heap.size + 1 := by simp
  generalize hca : rqC a = ca at *
  generalize hcb : rqC b = cb at *
  generalize hfb : w.heap.size = fb at *
  go_enter Try.func16, Try.ntmps16
  go_upto_region 1 with fail
  clear hfb hsz
  generalize (w.alloc (.cells ca.toArray 25)).alloc (.cells cb.toArray 25) = W at *
  subst hca hcb
  have ca0 : W.cell? ⟨fb, 0, none⟩ = some (.int .i64 a.k) := by have := HRa.out 0 _ rfl; rwa [Nat.zero_add] at this
  have cb0 : W.cell? ⟨fb + 1, 0, none⟩ = some (.int .i64 b.k) := by have := HRb.out 0 _ rfl; rwa [Nat.zero_add] at this
  have ca1 : W.cell? ⟨fb, 1, none⟩ = some (.string a.key) := by have := HRa.out 1 _ rfl; rwa [Nat.zero_add] at this
  have cb1 : W.cell? ⟨fb + 1, 1, none⟩ = some (.string b.key) := by have := HRb.out 1 _ rfl; rwa [Nat.zero_add] at this
  have ca6 : W.cell? ⟨fb, 6, none⟩ = some (.string a.nm) := by have := HRa.out 6 _ rfl; rwa [Nat.zero_add] at this
  have cb6 : W.cell? ⟨fb + 1, 6, none⟩ = some (.string b.nm) := by have := HRb.out 6 _ rfl; rwa [Nat.zero_add] at this
  have ca8 : W.cell? ⟨fb, 8, none⟩ = some (.string a.pn) := by have := HRa.out 8 _ rfl; rwa [Nat.zero_add] at this
  have cb8 : W.cell? ⟨fb + 1, 8, none⟩ = some (.string b.pn) := by have := HRb.out 8 _ rfl; rwa [Nat.zero_add] at this
  have ca9 : W.cell? ⟨fb, 9, none⟩ = some (.int .i64 a.p1) := by have := HRa.out 9 _ rfl; rwa [Nat.zero_add] at this
  have cb9 : W.cell? ⟨fb + 1, 9, none⟩ = some (.int .i64 b.p1) := by have := HRb.out 9 _ rfl; rwa [Nat.zero_add] at this
  rw [ha] at ca0
  rw [hb] at cb0
  have hi := kept_iff_18 a b ha hb
  have HI := hide hi
  clear hi
  clear HRa HRb
  by_cases h0 : a.key = b.key
  rotate_left
  · have HX := hide (HE.out false ⟨fun e => (by cases e), fun e => absurd (HI.out.1 e).1 h0⟩)
    have g0 : ¬ a.key.toList = b.key.toList := fun e => h0 (str_eq e)
    have k0 : (a.key.toList == b.key.toList) = false := by rw [beq_eq_false_iff_ne]; exact g0
    clear HE HI
    go_wp2_with (first | (go_at_call 26; refine (rk18 _).mono ?_; rintro e w' ⟨rfl, hw'⟩; subst w') | fail)
    exact HX.out
  rw [← h0] at cb1
  by_cases h1 : a.nm = b.nm
  rotate_left
  · have HX := hide (HE.out false ⟨fun e => (by cases e), fun e => absurd (HI.out.1 e).2.1 h1⟩)
    have g1 : ¬ a.nm.toList = b.nm.toList := fun e => h1 (str_eq e)
    have k1 : (a.nm.toList == b.nm.toList) = false := by rw [beq_eq_false_iff_ne]; exact g1
    clear HE HI
    go_wp2_with (first | (go_at_call 26; refine (rk18 _).mono ?_; rintro e w' ⟨rfl, hw'⟩; subst w') | fail)
    exact HX.out
  rw [← h1] at cb6
  by_cases h2 : a.pn = b.pn
  rotate_left
  · have HX := hide (HE.out false ⟨fun e => (by cases e), fun e => absurd (HI.out.1 e).2.2.1 h2⟩)
    have g2 : ¬ a.pn.toList = b.pn.toList := fun e => h2 (str_eq e)
    have k2 : (a.pn.toList == b.pn.toList) = false := by rw [beq_eq_false_iff_ne]; exact g2
    clear HE HI
    go_wp2_with (first | (go_at_call 26; refine (rk18 _).mono ?_; rintro e w' ⟨rfl, hw'⟩; subst w') | fail)
    exact HX.out
  rw [← h2] at cb8
  by_cases h3 : a.p1 = b.p1
  rotate_left
  · have HX := hide (HE.out false ⟨fun e => (by cases e), fun e => absurd (HI.out.1 e).2.2.2 h3⟩)
    have k3 : (a.p1 == b.p1) = false := by rw [beq_eq_false_iff_ne]; exact h3
    clear HE HI
    go_wp2_with (first | (go_at_call 26; refine (rk18 _).mono ?_; rintro e w' ⟨rfl, hw'⟩; subst w') | fail)
    exact HX.out
  rw [← h3] at cb9
  have HX := hide (HE.out true ⟨fun _ => HI.out.2 ⟨h0, h1, h2, h3⟩, fun _ => rfl⟩)
  clear HE HI h0 h1 h2 h3
  go_wp2_with (first | (go_at_call 26; refine (rk18 _).mono ?_; rintro e w' ⟨rfl, hw'⟩; subst w') | fail)
  exact HX.out

set_option maxRecDepth 100000 in
set_option maxHeartbeats 6400000 in
theorem rs_19 (w : World) (a b : Rq) (ha : a.k = 19) (hb : b.k = 19) : Calls Try.prog 16 #[.agg (rqC a).toArray, .agg (rqC b).toArray] w fun e w' => ∃ z, e = .returned (.bool z) ∧ (z = true ↔ keptR a = keptR b) ∧ Turn [] w w' := by
  obtain ⟨E, hE⟩ : ∃ E : Ending → World → Prop, E = fun e w' => ∃ z, e = .returned (.bool z) ∧ (z = true ↔ keptR a = keptR b) ∧ Turn [] w w' := ⟨_, rfl⟩
  rw [← hE]
  have hRa : ((w.alloc (.cells (rqC a).toArray 25)).alloc (.cells (rqC b).toArray 25)).rangeAt w.heap.size 0 (rqC a) := rangeAt_keep (rng_new w (rqC a) (rqC a).toArray 25 rfl) (Below.heap_alloc _ _ _ (by simp))
  have hRb : ((w.alloc (.cells (rqC a).toArray 25)).alloc (.cells (rqC b).toArray 25)).rangeAt (w.heap.size + 1) 0 (rqC b) := by
    have := rng_new (w.alloc (.cells (rqC a).toArray 25)) (rqC b) (rqC b).toArray 25 rfl
    rwa [show (w.alloc (.cells (rqC a).toArray 25)).heap.size = w.heap.size + 1 by simp] at this
  have HTw : Hid (Turn [] w ((w.alloc (.cells (rqC a).toArray 25)).alloc (.cells (rqC b).toArray 25))) := ((Turn.refl [] w).alloc _).alloc _
  have HE : Hid (∀ z : Bool, (z = true ↔ keptR a = keptR b) → E (.returned (.bool z)) ((w.alloc (.cells (rqC a).toArray 25)).alloc (.cells (rqC b).toArray 25))) := fun z h => by
    rw [hE]
    exact ⟨z, rfl, h, HTw.out⟩
  have HRa := hide hRa
  have HRb := hide hRb
  clear hRa hRb hE HTw
  have hsz : (w.alloc (.cells (rqC a).toArray 25)).heap.size = w.heap.size + 1 := by simp
  generalize hca : rqC a = ca at *
  generalize hcb : rqC b = cb at *
  generalize hfb : w.heap.size = fb at *
  go_enter Try.func16, Try.ntmps16
  go_upto_region 1 with fail
  clear hfb hsz
  generalize (w.alloc (.cells ca.toArray 25)).alloc (.cells cb.toArray 25) = W at *
  subst hca hcb
  have ca0 : W.cell? ⟨fb, 0, none⟩ = some (.int .i64 a.k) := by have := HRa.out 0 _ rfl; rwa [Nat.zero_add] at this
  have cb0 : W.cell? ⟨fb + 1, 0, none⟩ = some (.int .i64 b.k) := by have := HRb.out 0 _ rfl; rwa [Nat.zero_add] at this
  have ca1 : W.cell? ⟨fb, 1, none⟩ = some (.string a.key) := by have := HRa.out 1 _ rfl; rwa [Nat.zero_add] at this
  have cb1 : W.cell? ⟨fb + 1, 1, none⟩ = some (.string b.key) := by have := HRb.out 1 _ rfl; rwa [Nat.zero_add] at this
  have ca3 : W.cell? ⟨fb, 3, none⟩ = some (.int .i64 a.n) := by have := HRa.out 3 _ rfl; rwa [Nat.zero_add] at this
  have cb3 : W.cell? ⟨fb + 1, 3, none⟩ = some (.int .i64 b.n) := by have := HRb.out 3 _ rfl; rwa [Nat.zero_add] at this
  rw [ha] at ca0
  rw [hb] at cb0
  have hi := kept_iff_19 a b ha hb
  have HI := hide hi
  clear hi
  clear HRa HRb
  by_cases h0 : a.key = b.key
  rotate_left
  · have HX := hide (HE.out false ⟨fun e => (by cases e), fun e => absurd (HI.out.1 e).1 h0⟩)
    have g0 : ¬ a.key.toList = b.key.toList := fun e => h0 (str_eq e)
    have k0 : (a.key.toList == b.key.toList) = false := by rw [beq_eq_false_iff_ne]; exact g0
    clear HE HI
    go_wp2_with (first | (go_at_call 26; refine (rk19 _).mono ?_; rintro e w' ⟨rfl, hw'⟩; subst w') | fail)
    exact HX.out
  rw [← h0] at cb1
  by_cases h1 : a.n = b.n
  rotate_left
  · have HX := hide (HE.out false ⟨fun e => (by cases e), fun e => absurd (HI.out.1 e).2 h1⟩)
    have k1 : (a.n == b.n) = false := by rw [beq_eq_false_iff_ne]; exact h1
    clear HE HI
    go_wp2_with (first | (go_at_call 26; refine (rk19 _).mono ?_; rintro e w' ⟨rfl, hw'⟩; subst w') | fail)
    exact HX.out
  rw [← h1] at cb3
  have HX := hide (HE.out true ⟨fun _ => HI.out.2 ⟨h0, h1⟩, fun _ => rfl⟩)
  clear HE HI h0 h1
  go_wp2_with (first | (go_at_call 26; refine (rk19 _).mono ?_; rintro e w' ⟨rfl, hw'⟩; subst w') | fail)
  exact HX.out

set_option maxRecDepth 100000 in
set_option maxHeartbeats 6400000 in
theorem rs_20 (w : World) (a b : Rq) (ha : a.k = 20) (hb : b.k = 20) : Calls Try.prog 16 #[.agg (rqC a).toArray, .agg (rqC b).toArray] w fun e w' => ∃ z, e = .returned (.bool z) ∧ (z = true ↔ keptR a = keptR b) ∧ Turn [] w w' := by
  obtain ⟨E, hE⟩ : ∃ E : Ending → World → Prop, E = fun e w' => ∃ z, e = .returned (.bool z) ∧ (z = true ↔ keptR a = keptR b) ∧ Turn [] w w' := ⟨_, rfl⟩
  rw [← hE]
  have hRa : ((w.alloc (.cells (rqC a).toArray 25)).alloc (.cells (rqC b).toArray 25)).rangeAt w.heap.size 0 (rqC a) := rangeAt_keep (rng_new w (rqC a) (rqC a).toArray 25 rfl) (Below.heap_alloc _ _ _ (by simp))
  have hRb : ((w.alloc (.cells (rqC a).toArray 25)).alloc (.cells (rqC b).toArray 25)).rangeAt (w.heap.size + 1) 0 (rqC b) := by
    have := rng_new (w.alloc (.cells (rqC a).toArray 25)) (rqC b) (rqC b).toArray 25 rfl
    rwa [show (w.alloc (.cells (rqC a).toArray 25)).heap.size = w.heap.size + 1 by simp] at this
  have HTw : Hid (Turn [] w ((w.alloc (.cells (rqC a).toArray 25)).alloc (.cells (rqC b).toArray 25))) := ((Turn.refl [] w).alloc _).alloc _
  have HE : Hid (∀ z : Bool, (z = true ↔ keptR a = keptR b) → E (.returned (.bool z)) ((w.alloc (.cells (rqC a).toArray 25)).alloc (.cells (rqC b).toArray 25))) := fun z h => by
    rw [hE]
    exact ⟨z, rfl, h, HTw.out⟩
  have HRa := hide hRa
  have HRb := hide hRb
  clear hRa hRb hE HTw
  have hsz : (w.alloc (.cells (rqC a).toArray 25)).heap.size = w.heap.size + 1 := by simp
  generalize hca : rqC a = ca at *
  generalize hcb : rqC b = cb at *
  generalize hfb : w.heap.size = fb at *
  go_enter Try.func16, Try.ntmps16
  go_upto_region 1 with fail
  clear hfb hsz
  generalize (w.alloc (.cells ca.toArray 25)).alloc (.cells cb.toArray 25) = W at *
  subst hca hcb
  have ca0 : W.cell? ⟨fb, 0, none⟩ = some (.int .i64 a.k) := by have := HRa.out 0 _ rfl; rwa [Nat.zero_add] at this
  have cb0 : W.cell? ⟨fb + 1, 0, none⟩ = some (.int .i64 b.k) := by have := HRb.out 0 _ rfl; rwa [Nat.zero_add] at this
  have ca1 : W.cell? ⟨fb, 1, none⟩ = some (.string a.key) := by have := HRa.out 1 _ rfl; rwa [Nat.zero_add] at this
  have cb1 : W.cell? ⟨fb + 1, 1, none⟩ = some (.string b.key) := by have := HRb.out 1 _ rfl; rwa [Nat.zero_add] at this
  have ca6 : W.cell? ⟨fb, 6, none⟩ = some (.string a.nm) := by have := HRa.out 6 _ rfl; rwa [Nat.zero_add] at this
  have cb6 : W.cell? ⟨fb + 1, 6, none⟩ = some (.string b.nm) := by have := HRb.out 6 _ rfl; rwa [Nat.zero_add] at this
  have ca3 : W.cell? ⟨fb, 3, none⟩ = some (.int .i64 a.n) := by have := HRa.out 3 _ rfl; rwa [Nat.zero_add] at this
  have cb3 : W.cell? ⟨fb + 1, 3, none⟩ = some (.int .i64 b.n) := by have := HRb.out 3 _ rfl; rwa [Nat.zero_add] at this
  rw [ha] at ca0
  rw [hb] at cb0
  have hi := kept_iff_20 a b ha hb
  have HI := hide hi
  clear hi
  clear HRa HRb
  by_cases h0 : a.key = b.key
  rotate_left
  · have HX := hide (HE.out false ⟨fun e => (by cases e), fun e => absurd (HI.out.1 e).1 h0⟩)
    have g0 : ¬ a.key.toList = b.key.toList := fun e => h0 (str_eq e)
    have k0 : (a.key.toList == b.key.toList) = false := by rw [beq_eq_false_iff_ne]; exact g0
    clear HE HI
    go_wp2_with (first | (go_at_call 26; refine (rk20 _).mono ?_; rintro e w' ⟨rfl, hw'⟩; subst w') | fail)
    exact HX.out
  rw [← h0] at cb1
  by_cases h1 : a.nm = b.nm
  rotate_left
  · have HX := hide (HE.out false ⟨fun e => (by cases e), fun e => absurd (HI.out.1 e).2.1 h1⟩)
    have g1 : ¬ a.nm.toList = b.nm.toList := fun e => h1 (str_eq e)
    have k1 : (a.nm.toList == b.nm.toList) = false := by rw [beq_eq_false_iff_ne]; exact g1
    clear HE HI
    go_wp2_with (first | (go_at_call 26; refine (rk20 _).mono ?_; rintro e w' ⟨rfl, hw'⟩; subst w') | fail)
    exact HX.out
  rw [← h1] at cb6
  by_cases h2 : a.n = b.n
  rotate_left
  · have HX := hide (HE.out false ⟨fun e => (by cases e), fun e => absurd (HI.out.1 e).2.2 h2⟩)
    have k2 : (a.n == b.n) = false := by rw [beq_eq_false_iff_ne]; exact h2
    clear HE HI
    go_wp2_with (first | (go_at_call 26; refine (rk20 _).mono ?_; rintro e w' ⟨rfl, hw'⟩; subst w') | fail)
    exact HX.out
  rw [← h2] at cb3
  have HX := hide (HE.out true ⟨fun _ => HI.out.2 ⟨h0, h1, h2⟩, fun _ => rfl⟩)
  clear HE HI h0 h1 h2
  go_wp2_with (first | (go_at_call 26; refine (rk20 _).mono ?_; rintro e w' ⟨rfl, hw'⟩; subst w') | fail)
  exact HX.out

end Go.Proofs.Ytkbboingeacgjaa
