/-
  FrameRequests: SameRequest of the reference, walked, kind by kind.
-/
import Derived.Test.YtkbboingeacgjaaFRSame
namespace Go.Proofs.Ytkbboingeacgjaa
open Go.RowKit

set_option maxRecDepth 100000 in
set_option maxHeartbeats 6400000 in
theorem rs_ne (w : World) (a b : Rq) (h : a.k ≠ b.k) : Calls Try.prog 16 #[.agg (rqC a).toArray, .agg (rqC b).toArray] w fun e w' => ∃ z, e = .returned (.bool z) ∧ (z = true ↔ keptR a = keptR b) ∧ Turn [] w w' := by
  obtain ⟨E, hE⟩ : ∃ E : Ending → World → Prop, E = fun e w' => ∃ z, e = .returned (.bool z) ∧ (z = true ↔ keptR a = keptR b) ∧ Turn [] w w' := ⟨_, rfl⟩
  rw [← hE]
  have hRa : ((w.alloc (.cells (rqC a).toArray 25)).alloc (.cells (rqC b).toArray 25)).rangeAt w.heap.size 0 (rqC a) := rangeAt_keep (rng_new w (rqC a) (rqC a).toArray 25 rfl) (Below.heap_alloc _ _ _ (by simp))
  have hRb : ((w.alloc (.cells (rqC a).toArray 25)).alloc (.cells (rqC b).toArray 25)).rangeAt (w.heap.size + 1) 0 (rqC b) := by
    have := rng_new (w.alloc (.cells (rqC a).toArray 25)) (rqC b) (rqC b).toArray 25 rfl
    rwa [show (w.alloc (.cells (rqC a).toArray 25)).heap.size = w.heap.size + 1 by simp] at this
  have HTw : Hid (Turn [] w ((w.alloc (.cells (rqC a).toArray 25)).alloc (.cells (rqC b).toArray 25))) := ((Turn.refl [] w).alloc _).alloc _
  have HE : Hid (∀ z : Bool, (z = true ↔ keptR a = keptR b) → E (.returned (.bool z)) ((w.alloc (.cells (rqC a).toArray 25)).alloc (.cells (rqC b).toArray 25))) := fun z h => by
    rw [hE]
    exact ⟨z, rfl, h, HTw.out⟩
  have HRa := hide hRa
  have HRb := hide hRb
  clear hRa hRb hE HTw
  have hsz : (w.alloc (.cells (rqC a).toArray 25)).heap.size = w.heap.size + 1 := by simp
  generalize hca : rqC a = ca at *
  generalize hcb : rqC b = cb at *
  generalize hfb : w.heap.size = fb at *
  go_enter Try.func16, Try.ntmps16
  go_upto_region 1 with fail
  clear hfb hsz
  generalize (w.alloc (.cells ca.toArray 25)).alloc (.cells cb.toArray 25) = W at *
  subst hca hcb
  have ca0 : W.cell? ⟨fb, 0, none⟩ = some (.int .i64 a.k) := by have := HRa.out 0 _ rfl; rwa [Nat.zero_add] at this
  have cb0 : W.cell? ⟨fb + 1, 0, none⟩ = some (.int .i64 b.k) := by have := HRb.out 0 _ rfl; rwa [Nat.zero_add] at this
  have HX := hide (HE.out false ⟨fun e => (by cases e), fun e => absurd (by have := congrArg Rq.k e; rwa [kept_k, kept_k] at this) h⟩)
  clear HE HRa HRb
  go_wp2_with fail
  exact HX.out

set_option maxRecDepth 100000 in
set_option maxHeartbeats 6400000 in
theorem rs_no (w : World) (a b : Rq) (h : a.k = b.k) (hk : ¬ isK a.k) : Calls Try.prog 16 #[.agg (rqC a).toArray, .agg (rqC b).toArray] w fun e w' => ∃ z, e = .returned (.bool z) ∧ (z = true ↔ keptR a = keptR b) ∧ Turn [] w w' := by
  obtain ⟨E, hE⟩ : ∃ E : Ending → World → Prop, E = fun e w' => ∃ z, e = .returned (.bool z) ∧ (z = true ↔ keptR a = keptR b) ∧ Turn [] w w' := ⟨_, rfl⟩
  rw [← hE]
  have hRa : ((w.alloc (.cells (rqC a).toArray 25)).alloc (.cells (rqC b).toArray 25)).rangeAt w.heap.size 0 (rqC a) := rangeAt_keep (rng_new w (rqC a) (rqC a).toArray 25 rfl) (Below.heap_alloc _ _ _ (by simp))
  have hRb : ((w.alloc (.cells (rqC a).toArray 25)).alloc (.cells (rqC b).toArray 25)).rangeAt (w.heap.size + 1) 0 (rqC b) := by
    have := rng_new (w.alloc (.cells (rqC a).toArray 25)) (rqC b) (rqC b).toArray 25 rfl
    rwa [show (w.alloc (.cells (rqC a).toArray 25)).heap.size = w.heap.size + 1 by simp] at this
  have HTw : Hid (Turn [] w ((w.alloc (.cells (rqC a).toArray 25)).alloc (.cells (rqC b).toArray 25))) := ((Turn.refl [] w).alloc _).alloc _
  have HE : Hid (∀ z : Bool, (z = true ↔ keptR a = keptR b) → E (.returned (.bool z)) ((w.alloc (.cells (rqC a).toArray 25)).alloc (.cells (rqC b).toArray 25))) := fun z h => by
    rw [hE]
    exact ⟨z, rfl, h, HTw.out⟩
  have HRa := hide hRa
  have HRb := hide hRb
  clear hRa hRb hE HTw
  have hsz : (w.alloc (.cells (rqC a).toArray 25)).heap.size = w.heap.size + 1 := by simp
  generalize hca : rqC a = ca at *
  generalize hcb : rqC b = cb at *
  generalize hfb : w.heap.size = fb at *
  go_enter Try.func16, Try.ntmps16
  go_upto_region 1 with fail
  clear hfb hsz
  generalize (w.alloc (.cells ca.toArray 25)).alloc (.cells cb.toArray 25) = W at *
  subst hca hcb
  have ca0 : W.cell? ⟨fb, 0, none⟩ = some (.int .i64 a.k) := by have := HRa.out 0 _ rfl; rwa [Nat.zero_add] at this
  have cb0 : W.cell? ⟨fb + 1, 0, none⟩ = some (.int .i64 b.k) := by have := HRb.out 0 _ rfl; rwa [Nat.zero_add] at this
  have HX := hide (HE.out true ⟨fun _ => by rw [kept_no hk, kept_no (by rw [← h]; exact hk), h], fun _ => rfl⟩)
  rw [← h] at cb0
  clear HE HRa HRb h
  go_wp2_with (first | (go_at_call 26; refine (rkno _ hk _).mono ?_; rintro e w' ⟨rfl, hw'⟩; subst w') | fail)
  exact HX.out

set_option maxRecDepth 100000 in
set_option maxHeartbeats 6400000 in
theorem rs_1 (w : World) (a b : Rq) (ha : a.k = 1) (hb : b.k = 1) : Calls Try.prog 16 #[.agg (rqC a).toArray, .agg (rqC b).toArray] w fun e w' => ∃ z, e = .returned (.bool z) ∧ (z = true ↔ keptR a = keptR b) ∧ Turn [] w w' := by
  obtain ⟨E, hE⟩ : ∃ E : Ending → World → Prop, E = fun e w' => ∃ z, e = .returned (.bool z) ∧ (z = true ↔ keptR a = keptR b) ∧ Turn [] w w' := ⟨_, rfl⟩
  rw [← hE]
  have hRa : ((w.alloc (.cells (rqC a).toArray 25)).alloc (.cells (rqC b).toArray 25)).rangeAt w.heap.size 0 (rqC a) := rangeAt_keep (rng_new w (rqC a) (rqC a).toArray 25 rfl) (Below.heap_alloc _ _ _ (by simp))
  have hRb : ((w.alloc (.cells (rqC a).toArray 25)).alloc (.cells (rqC b).toArray 25)).rangeAt (w.heap.size + 1) 0 (rqC b) := by
    have := rng_new (w.alloc (.cells (rqC a).toArray 25)) (rqC b) (rqC b).toArray 25 rfl
    rwa [show (w.alloc (.cells (rqC a).toArray 25)).heap.size = w.heap.size + 1 by simp] at this
  have HTw : Hid (Turn [] w ((w.alloc (.cells (rqC a).toArray 25)).alloc (.cells (rqC b).toArray 25))) := ((Turn.refl [] w).alloc _).alloc _
  have HE : Hid (∀ z : Bool, (z = true ↔ keptR a = keptR b) → E (.returned (.bool z)) ((w.alloc (.cells (rqC a).toArray 25)).alloc (.cells (rqC b).toArray 25))) := fun z h => by
    rw [hE]
    exact ⟨z, rfl, h, HTw.out⟩
  have HRa := hide hRa
  have HRb := hide hRb
  clear hRa hRb hE HTw
  have hsz : (w.alloc (.cells (rqC a).toArray 25)).heap.size = w.heap.size + 1 := by simp
  generalize hca : rqC a = ca at *
  generalize hcb : rqC b = cb at *
  generalize hfb : w.heap.size = fb at *
  go_enter Try.func16, Try.ntmps16
  go_upto_region 1 with fail
  clear hfb hsz
  generalize (w.alloc (.cells ca.toArray 25)).alloc (.cells cb.toArray 25) = W at *
  subst hca hcb
  have ca0 : W.cell? ⟨fb, 0, none⟩ = some (.int .i64 a.k) := by have := HRa.out 0 _ rfl; rwa [Nat.zero_add] at this
  have cb0 : W.cell? ⟨fb + 1, 0, none⟩ = some (.int .i64 b.k) := by have := HRb.out 0 _ rfl; rwa [Nat.zero_add] at this
  have ca1 : W.cell? ⟨fb, 1, none⟩ = some (.string a.key) := by have := HRa.out 1 _ rfl; rwa [Nat.zero_add] at this
  have cb1 : W.cell? ⟨fb + 1, 1, none⟩ = some (.string b.key) := by have := HRb.out 1 _ rfl; rwa [Nat.zero_add] at this
  have ca2 : W.cell? ⟨fb, 2, none⟩ = some (.int .i64 a.id) := by have := HRa.out 2 _ rfl; rwa [Nat.zero_add] at this
  have cb2 : W.cell? ⟨fb + 1, 2, none⟩ = some (.int .i64 b.id) := by have := HRb.out 2 _ rfl; rwa [Nat.zero_add] at this
  have ca3 : W.cell? ⟨fb, 3, none⟩ = some (.int .i64 a.n) := by have := HRa.out 3 _ rfl; rwa [Nat.zero_add] at this
  have cb3 : W.cell? ⟨fb + 1, 3, none⟩ = some (.int .i64 b.n) := by have := HRb.out 3 _ rfl; rwa [Nat.zero_add] at this
  have ca4 : W.cell? ⟨fb, 4, none⟩ = some (.int .i64 a.ttl) := by have := HRa.out 4 _ rfl; rwa [Nat.zero_add] at this
  have cb4 : W.cell? ⟨fb + 1, 4, none⟩ = some (.int .i64 b.ttl) := by have := HRb.out 4 _ rfl; rwa [Nat.zero_add] at this
  rw [ha] at ca0
  rw [hb] at cb0
  have hi := kept_iff_1 a b ha hb
  have HI := hide hi
  clear hi
  clear HRa HRb
  by_cases h0 : a.key = b.key
  rotate_left
  · have HX := hide (HE.out false ⟨fun e => (by cases e), fun e => absurd (HI.out.1 e).1 h0⟩)
    have g0 : ¬ a.key.toList = b.key.toList := fun e => h0 (str_eq e)
    have k0 : (a.key.toList == b.key.toList) = false := by rw [beq_eq_false_iff_ne]; exact g0
    clear HE HI
    go_wp2_with (first | (go_at_call 26; refine (rk1 _).mono ?_; rintro e w' ⟨rfl, hw'⟩; subst w') | fail)
    exact HX.out
  rw [← h0] at cb1
  by_cases h1 : a.id = b.id
  rotate_left
  · have HX := hide (HE.out false ⟨fun e => (by cases e), fun e => absurd (HI.out.1 e).2.1 h1⟩)
    have k1 : (a.id == b.id) = false := by rw [beq_eq_false_iff_ne]; exact h1
    clear HE HI
    go_wp2_with (first | (go_at_call 26; refine (rk1 _).mono ?_; rintro e w' ⟨rfl, hw'⟩; subst w') | fail)
    exact HX.out
  rw [← h1] at cb2
  by_cases h2 : a.n = b.n
  rotate_left
  · have HX := hide (HE.out false ⟨fun e => (by cases e), fun e => absurd (HI.out.1 e).2.2.1 h2⟩)
    have k2 : (a.n == b.n) = false := by rw [beq_eq_false_iff_ne]; exact h2
    clear HE HI
    go_wp2_with (first | (go_at_call 26; refine (rk1 _).mono ?_; rintro e w' ⟨rfl, hw'⟩; subst w') | fail)
    exact HX.out
  rw [← h2] at cb3
  by_cases h3 : a.ttl = b.ttl
  rotate_left
  · have HX := hide (HE.out false ⟨fun e => (by cases e), fun e => absurd (HI.out.1 e).2.2.2 h3⟩)
    have k3 : (a.ttl == b.ttl) = false := by rw [beq_eq_false_iff_ne]; exact h3
    clear HE HI
    go_wp2_with (first | (go_at_call 26; refine (rk1 _).mono ?_; rintro e w' ⟨rfl, hw'⟩; subst w') | fail)
    exact HX.out
  rw [← h3] at cb4
  have HX := hide (HE.out true ⟨fun _ => HI.out.2 ⟨h0, h1, h2, h3⟩, fun _ => rfl⟩)
  clear HE HI h0 h1 h2 h3
  go_wp2_with (first | (go_at_call 26; refine (rk1 _).mono ?_; rintro e w' ⟨rfl, hw'⟩; subst w') | fail)
  exact HX.out

set_option maxRecDepth 100000 in
set_option maxHeartbeats 6400000 in
theorem rs_4 (w : World) (a b : Rq) (ha : a.k = 4) (hb : b.k = 4) : Calls Try.prog 16 #[.agg (rqC a).toArray, .agg (rqC b).toArray] w fun e w' => ∃ z, e = .returned (.bool z) ∧ (z = true ↔ keptR a = keptR b) ∧ Turn [] w w' := by
  obtain ⟨E, hE⟩ : ∃ E : Ending → World → Prop, E = fun e w' => ∃ z, e = .returned (.bool z) ∧ (z = true ↔ keptR a = keptR b) ∧ Turn [] w w' := ⟨_, rfl⟩
  rw [← hE]
  have hRa : ((w.alloc (.cells (rqC a).toArray 25)).alloc (.cells (rqC b).toArray 25)).rangeAt w.heap.size 0 (rqC a) := rangeAt_keep (rng_new w (rqC a) (rqC a).toArray 25 rfl) (Below.heap_alloc _ _ _ (by simp))
  have hRb : ((w.alloc (.cells (rqC a).toArray 25)).alloc (.cells (rqC b).toArray 25)).rangeAt (w.heap.size + 1) 0 (rqC b) := by
    have := rng_new (w.alloc (.cells (rqC a).toArray 25)) (rqC b) (rqC b).toArray 25 rfl
    rwa [show (w.alloc (.cells (rqC a).toArray 25)).heap.size = w.heap.size + 1 by simp] at this
  have HTw : Hid (Turn [] w ((w.alloc (.cells (rqC a).toArray 25)).alloc (.cells (rqC b).toArray 25))) := ((Turn.refl [] w).alloc _).alloc _
  have HE : Hid (∀ z : Bool, (z = true ↔ keptR a = keptR b) → E (.returned (.bool z)) ((w.alloc (.cells (rqC a).toArray 25)).alloc (.cells (rqC b).toArray 25))) := fun z h => by
    rw [hE]
    exact ⟨z, rfl, h, HTw.out⟩
  have HRa := hide hRa
  have HRb := hide hRb
  clear hRa hRb hE HTw
  have hsz : (w.alloc (.cells (rqC a).toArray 25)).heap.size = w.heap.size + 1 := by simp
  generalize hca : rqC a = ca at *
  generalize hcb : rqC b = cb at *
  generalize hfb : w.heap.size = fb at *
  go_enter Try.func16, Try.ntmps16
  go_upto_region 1 with fail
  clear hfb hsz
  generalize (w.alloc (.cells ca.toArray 25)).alloc (.cells cb.toArray 25) = W at *
  subst hca hcb
  have ca0 : W.cell? ⟨fb, 0, none⟩ = some (.int .i64 a.k) := by have := HRa.out 0 _ rfl; rwa [Nat.zero_add] at this
  have cb0 : W.cell? ⟨fb + 1, 0, none⟩ = some (.int .i64 b.k) := by have := HRb.out 0 _ rfl; rwa [Nat.zero_add] at this
  have ca1 : W.cell? ⟨fb, 1, none⟩ = some (.string a.key) := by have := HRa.out 1 _ rfl; rwa [Nat.zero_add] at this
  have cb1 : W.cell? ⟨fb + 1, 1, none⟩ = some (.string b.key) := by have := HRb.out 1 _ rfl; rwa [Nat.zero_add] at this
  have ca2 : W.cell? ⟨fb, 2, none⟩ = some (.int .i64 a.id) := by have := HRa.out 2 _ rfl; rwa [Nat.zero_add] at this
  have cb2 : W.cell? ⟨fb + 1, 2, none⟩ = some (.int .i64 b.id) := by have := HRb.out 2 _ rfl; rwa [Nat.zero_add] at this
  have ca3 : W.cell? ⟨fb, 3, none⟩ = some (.int .i64 a.n) := by have := HRa.out 3 _ rfl; rwa [Nat.zero_add] at this
  have cb3 : W.cell? ⟨fb + 1, 3, none⟩ = some (.int .i64 b.n) := by have := HRb.out 3 _ rfl; rwa [Nat.zero_add] at this
  have ca4 : W.cell? ⟨fb, 4, none⟩ = some (.int .i64 a.ttl) := by have := HRa.out 4 _ rfl; rwa [Nat.zero_add] at this
  have cb4 : W.cell? ⟨fb + 1, 4, none⟩ = some (.int .i64 b.ttl) := by have := HRb.out 4 _ rfl; rwa [Nat.zero_add] at this
  rw [ha] at ca0
  rw [hb] at cb0
  have hi := kept_iff_4 a b ha hb
  have HI := hide hi
  clear hi
  clear HRa HRb
  by_cases h0 : a.key = b.key
  rotate_left
  · have HX := hide (HE.out false ⟨fun e => (by cases e), fun e => absurd (HI.out.1 e).1 h0⟩)
    have g0 : ¬ a.key.toList = b.key.toList := fun e => h0 (str_eq e)
    have k0 : (a.key.toList == b.key.toList) = false := by rw [beq_eq_false_iff_ne]; exact g0
    clear HE HI
    go_wp2_with (first | (go_at_call 26; refine (rk4 _).mono ?_; rintro e w' ⟨rfl, hw'⟩; subst w') | fail)
    exact HX.out
  rw [← h0] at cb1
  by_cases h1 : a.id = b.id
  rotate_left
  · have HX := hide (HE.out false ⟨fun e => (by cases e), fun e => absurd (HI.out.1 e).2.1 h1⟩)
    have k1 : (a.id == b.id) = false := by rw [beq_eq_false_iff_ne]; exact h1
    clear HE HI
    go_wp2_with (first | (go_at_call 26; refine (rk4 _).mono ?_; rintro e w' ⟨rfl, hw'⟩; subst w') | fail)
    exact HX.out
  rw [← h1] at cb2
  by_cases h2 : a.n = b.n
  rotate_left
  · have HX := hide (HE.out false ⟨fun e => (by cases e), fun e => absurd (HI.out.1 e).2.2.1 h2⟩)
    have k2 : (a.n == b.n) = false := by rw [beq_eq_false_iff_ne]; exact h2
    clear HE HI
    go_wp2_with (first | (go_at_call 26; refine (rk4 _).mono ?_; rintro e w' ⟨rfl, hw'⟩; subst w') | fail)
    exact HX.out
  rw [← h2] at cb3
  by_cases h3 : a.ttl = b.ttl
  rotate_left
  · have HX := hide (HE.out false ⟨fun e => (by cases e), fun e => absurd (HI.out.1 e).2.2.2 h3⟩)
    have k3 : (a.ttl == b.ttl) = false := by rw [beq_eq_false_iff_ne]; exact h3
    clear HE HI
    go_wp2_with (first | (go_at_call 26; refine (rk4 _).mono ?_; rintro e w' ⟨rfl, hw'⟩; subst w') | fail)
    exact HX.out
  rw [← h3] at cb4
  have HX := hide (HE.out true ⟨fun _ => HI.out.2 ⟨h0, h1, h2, h3⟩, fun _ => rfl⟩)
  clear HE HI h0 h1 h2 h3
  go_wp2_with (first | (go_at_call 26; refine (rk4 _).mono ?_; rintro e w' ⟨rfl, hw'⟩; subst w') | fail)
  exact HX.out

set_option maxRecDepth 100000 in
set_option maxHeartbeats 6400000 in
theorem rs_2 (w : World) (a b : Rq) (ha : a.k = 2) (hb : b.k = 2) : Calls Try.prog 16 #[.agg (rqC a).toArray, .agg (rqC b).toArray] w fun e w' => ∃ z, e = .returned (.bool z) ∧ (z = true ↔ keptR a = keptR b) ∧ Turn [] w w' := by
  obtain ⟨E, hE⟩ : ∃ E : Ending → World → Prop, E = fun e w' => ∃ z, e = .returned (.bool z) ∧ (z = true ↔ keptR a = keptR b) ∧ Turn [] w w' := ⟨_, rfl⟩
  rw [← hE]
  have hRa : ((w.alloc (.cells (rqC a).toArray 25)).alloc (.cells (rqC b).toArray 25)).rangeAt w.heap.size 0 (rqC a) := rangeAt_keep (rng_new w (rqC a) (rqC a).toArray 25 rfl) (Below.heap_alloc _ _ _ (by simp))
  have hRb : ((w.alloc (.cells (rqC a).toArray 25)).alloc (.cells (rqC b).toArray 25)).rangeAt (w.heap.size + 1) 0 (rqC b) := by
    have := rng_new (w.alloc (.cells (rqC a).toArray 25)) (rqC b) (rqC b).toArray 25 rfl
    rwa [show (w.alloc (.cells (rqC a).toArray 25)).heap.size = w.heap.size + 1 by simp] at this
  have HTw : Hid (Turn [] w ((w.alloc (.cells (rqC a).toArray 25)).alloc (.cells (rqC b).toArray 25))) := ((Turn.refl [] w).alloc _).alloc _
  have HE : Hid (∀ z : Bool, (z = true ↔ keptR a = keptR b) → E (.returned (.bool z)) ((w.alloc (.cells (rqC a).toArray 25)).alloc (.cells (rqC b).toArray 25))) := fun z h => by
    rw [hE]
    exact ⟨z, rfl, h, HTw.out⟩
  have HRa := hide hRa
  have HRb := hide hRb
  clear hRa hRb hE HTw
  have hsz : (w.alloc (.cells (rqC a).toArray 25)).heap.size = w.heap.size + 1 := by simp
  generalize hca : rqC a = ca at *
  generalize hcb : rqC b = cb at *
  generalize hfb : w.heap.size = fb at *
  go_enter Try.func16, Try.ntmps16
  go_upto_region 1 with fail
  clear hfb hsz
  generalize (w.alloc (.cells ca.toArray 25)).alloc (.cells cb.toArray 25) = W at *
  subst hca hcb
  have ca0 : W.cell? ⟨fb, 0, none⟩ = some (.int .i64 a.k) := by have := HRa.out 0 _ rfl; rwa [Nat.zero_add] at this
  have cb0 : W.cell? ⟨fb + 1, 0, none⟩ = some (.int .i64 b.k) := by have := HRb.out 0 _ rfl; rwa [Nat.zero_add] at this
  have ca1 : W.cell? ⟨fb, 1, none⟩ = some (.string a.key) := by have := HRa.out 1 _ rfl; rwa [Nat.zero_add] at this
  have cb1 : W.cell? ⟨fb + 1, 1, none⟩ = some (.string b.key) := by have := HRb.out 1 _ rfl; rwa [Nat.zero_add] at this
  have ca2 : W.cell? ⟨fb, 2, none⟩ = some (.int .i64 a.id) := by have := HRa.out 2 _ rfl; rwa [Nat.zero_add] at this
  have cb2 : W.cell? ⟨fb + 1, 2, none⟩ = some (.int .i64 b.id) := by have := HRb.out 2 _ rfl; rwa [Nat.zero_add] at this
  have ca5 : W.cell? ⟨fb, 5, none⟩ = some (.int .i64 a.o) := by have := HRa.out 5 _ rfl; rwa [Nat.zero_add] at this
  have cb5 : W.cell? ⟨fb + 1, 5, none⟩ = some (.int .i64 b.o) := by have := HRb.out 5 _ rfl; rwa [Nat.zero_add] at this
  have ca3 : W.cell? ⟨fb, 3, none⟩ = some (.int .i64 a.n) := by have := HRa.out 3 _ rfl; rwa [Nat.zero_add] at this
  have cb3 : W.cell? ⟨fb + 1, 3, none⟩ = some (.int .i64 b.n) := by have := HRb.out 3 _ rfl; rwa [Nat.zero_add] at this
  rw [ha] at ca0
  rw [hb] at cb0
  have hi := kept_iff_2 a b ha hb
  have HI := hide hi
  clear hi
  clear HRa HRb
  by_cases h0 : a.key = b.key
  rotate_left
  · have HX := hide (HE.out false ⟨fun e => (by cases e), fun e => absurd (HI.out.1 e).1 h0⟩)
    have g0 : ¬ a.key.toList = b.key.toList := fun e => h0 (str_eq e)
    have k0 : (a.key.toList == b.key.toList) = false := by rw [beq_eq_false_iff_ne]; exact g0
    clear HE HI
    go_wp2_with (first | (go_at_call 26; refine (rk2 _).mono ?_; rintro e w' ⟨rfl, hw'⟩; subst w') | fail)
    exact HX.out
  rw [← h0] at cb1
  by_cases h1 : a.id = b.id
  rotate_left
  · have HX := hide (HE.out false ⟨fun e => (by cases e), fun e => absurd (HI.out.1 e).2.1 h1⟩)
    have k1 : (a.id == b.id) = false := by rw [beq_eq_false_iff_ne]; exact h1
    clear HE HI
    go_wp2_with (first | (go_at_call 26; refine (rk2 _).mono ?_; rintro e w' ⟨rfl, hw'⟩; subst w') | fail)
    exact HX.out
  rw [← h1] at cb2
  by_cases h2 : a.o = b.o
  rotate_left
  · have HX := hide (HE.out false ⟨fun e => (by cases e), fun e => absurd (HI.out.1 e).2.2.1 h2⟩)
    have k2 : (a.o == b.o) = false := by rw [beq_eq_false_iff_ne]; exact h2
    clear HE HI
    go_wp2_with (first | (go_at_call 26; refine (rk2 _).mono ?_; rintro e w' ⟨rfl, hw'⟩; subst w') | fail)
    exact HX.out
  rw [← h2] at cb5
  by_cases h3 : a.n = b.n
  rotate_left
  · have HX := hide (HE.out false ⟨fun e => (by cases e), fun e => absurd (HI.out.1 e).2.2.2 h3⟩)
    have k3 : (a.n == b.n) = false := by rw [beq_eq_false_iff_ne]; exact h3
    clear HE HI
    go_wp2_with (first | (go_at_call 26; refine (rk2 _).mono ?_; rintro e w' ⟨rfl, hw'⟩; subst w') | fail)
    exact HX.out
  rw [← h3] at cb3
  have HX := hide (HE.out true ⟨fun _ => HI.out.2 ⟨h0, h1, h2, h3⟩, fun _ => rfl⟩)
  clear HE HI h0 h1 h2 h3
  go_wp2_with (first | (go_at_call 26; refine (rk2 _).mono ?_; rintro e w' ⟨rfl, hw'⟩; subst w') | fail)
  exact HX.out

set_option maxRecDepth 100000 in
set_option maxHeartbeats 6400000 in
theorem rs_3 (w : World) (a b : Rq) (ha : a.k = 3) (hb : b.k = 3) : Calls Try.prog 16 #[.agg (rqC a).toArray, .agg (rqC b).toArray] w fun e w' => ∃ z, e = .returned (.bool z) ∧ (z = true ↔ keptR a = keptR b) ∧ Turn [] w w' := by
  obtain ⟨E, hE⟩ : ∃ E : Ending → World → Prop, E = fun e w' => ∃ z, e = .returned (.bool z) ∧ (z = true ↔ keptR a = keptR b) ∧ Turn [] w w' := ⟨_, rfl⟩
  rw [← hE]
  have hRa : ((w.alloc (.cells (rqC a).toArray 25)).alloc (.cells (rqC b).toArray 25)).rangeAt w.heap.size 0 (rqC a) := rangeAt_keep (rng_new w (rqC a) (rqC a).toArray 25 rfl) (Below.heap_alloc _ _ _ (by simp))
  have hRb : ((w.alloc (.cells (rqC a).toArray 25)).alloc (.cells (rqC b).toArray 25)).rangeAt (w.heap.size + 1) 0 (rqC b) := by
    have := rng_new (w.alloc (.cells (rqC a).toArray 25)) (rqC b) (rqC b).toArray 25 rfl
    rwa [show (w.alloc (.cells (rqC a).toArray 25)).heap.size = w.heap.size + 1 by simp] at this
  have HTw : Hid (Turn [] w ((w.alloc (.cells (rqC a).toArray 25)).alloc (.cells (rqC b).toArray 25))) := ((Turn.refl [] w).alloc _).alloc _
  have HE : Hid (∀ z : Bool, (z = true ↔ keptR a = keptR b) → E (.returned (.bool z)) ((w.alloc (.cells (rqC a).toArray 25)).alloc (.cells (rqC b).toArray 25))) := fun z h => by
    rw [hE]
    exact ⟨z, rfl, h, HTw.out⟩
  have HRa := hide hRa
  have HRb := hide hRb
  clear hRa hRb hE HTw
  have hsz : (w.alloc (.cells (rqC a).toArray 25)).heap.size = w.heap.size + 1 := by simp
  generalize hca : rqC a = ca at *
  generalize hcb : rqC b = cb at *
  generalize hfb : w.heap.size = fb at *
  go_enter Try.func16, Try.ntmps16
  go_upto_region 1 with fail
  clear hfb hsz
  generalize (w.alloc (.cells ca.toArray 25)).alloc (.cells cb.toArray 25) = W at *
  subst hca hcb
  have ca0 : W.cell? ⟨fb, 0, none⟩ = some (.int .i64 a.k) := by have := HRa.out 0 _ rfl; rwa [Nat.zero_add] at this
  have cb0 : W.cell? ⟨fb + 1, 0, none⟩ = some (.int .i64 b.k) := by have := HRb.out 0 _ rfl; rwa [Nat.zero_add] at this
  have ca1 : W.cell? ⟨fb, 1, none⟩ = some (.string a.key) := by have := HRa.out 1 _ rfl; rwa [Nat.zero_add] at this
  have cb1 : W.cell? ⟨fb + 1, 1, none⟩ = some (.string b.key) := by have := HRb.out 1 _ rfl; rwa [Nat.zero_add] at this
  have ca2 : W.cell? ⟨fb, 2, none⟩ = some (.int .i64 a.id) := by have := HRa.out 2 _ rfl; rwa [Nat.zero_add] at this
  have cb2 : W.cell? ⟨fb + 1, 2, none⟩ = some (.int .i64 b.id) := by have := HRb.out 2 _ rfl; rwa [Nat.zero_add] at this
  have ca5 : W.cell? ⟨fb, 5, none⟩ = some (.int .i64 a.o) := by have := HRa.out 5 _ rfl; rwa [Nat.zero_add] at this
  have cb5 : W.cell? ⟨fb + 1, 5, none⟩ = some (.int .i64 b.o) := by have := HRb.out 5 _ rfl; rwa [Nat.zero_add] at this
  rw [ha] at ca0
  rw [hb] at cb0
  have hi := kept_iff_3 a b ha hb
  have HI := hide hi
  clear hi
  clear HRa HRb
  by_cases h0 : a.key = b.key
  rotate_left
  · have HX := hide (HE.out false ⟨fun e => (by cases e), fun e => absurd (HI.out.1 e).1 h0⟩)
    have g0 : ¬ a.key.toList = b.key.toList := fun e => h0 (str_eq e)
    have k0 : (a.key.toList == b.key.toList) = false := by rw [beq_eq_false_iff_ne]; exact g0
    clear HE HI
    go_wp2_with (first | (go_at_call 26; refine (rk3 _).mono ?_; rintro e w' ⟨rfl, hw'⟩; subst w') | fail)
    exact HX.out
  rw [← h0] at cb1
  by_cases h1 : a.id = b.id
  rotate_left
  · have HX := hide (HE.out false ⟨fun e => (by cases e), fun e => absurd (HI.out.1 e).2.1 h1⟩)
    have k1 : (a.id == b.id) = false := by rw [beq_eq_false_iff_ne]; exact h1
    clear HE HI
    go_wp2_with (first | (go_at_call 26; refine (rk3 _).mono ?_; rintro e w' ⟨rfl, hw'⟩; subst w') | fail)
    exact HX.out
  rw [← h1] at cb2
  by_cases h2 : a.o = b.o
  rotate_left
  · have HX := hide (HE.out false ⟨fun e => (by cases e), fun e => absurd (HI.out.1 e).2.2 h2⟩)
    have k2 : (a.o == b.o) = false := by rw [beq_eq_false_iff_ne]; exact h2
    clear HE HI
    go_wp2_with (first | (go_at_call 26; refine (rk3 _).mono ?_; rintro e w' ⟨rfl, hw'⟩; subst w') | fail)
    exact HX.out
  rw [← h2] at cb5
  have HX := hide (HE.out true ⟨fun _ => HI.out.2 ⟨h0, h1, h2⟩, fun _ => rfl⟩)
  clear HE HI h0 h1 h2
  go_wp2_with (first | (go_at_call 26; refine (rk3 _).mono ?_; rintro e w' ⟨rfl, hw'⟩; subst w') | fail)
  exact HX.out

set_option maxRecDepth 100000 in
set_option maxHeartbeats 6400000 in
theorem rs_5 (w : World) (a b : Rq) (ha : a.k = 5) (hb : b.k = 5) : Calls Try.prog 16 #[.agg (rqC a).toArray, .agg (rqC b).toArray] w fun e w' => ∃ z, e = .returned (.bool z) ∧ (z = true ↔ keptR a = keptR b) ∧ Turn [] w w' := by
  obtain ⟨E, hE⟩ : ∃ E : Ending → World → Prop, E = fun e w' => ∃ z, e = .returned (.bool z) ∧ (z = true ↔ keptR a = keptR b) ∧ Turn [] w w' := ⟨_, rfl⟩
  rw [← hE]
  have hRa : ((w.alloc (.cells (rqC a).toArray 25)).alloc (.cells (rqC b).toArray 25)).rangeAt w.heap.size 0 (rqC a) := rangeAt_keep (rng_new w (rqC a) (rqC a).toArray 25 rfl) (Below.heap_alloc _ _ _ (by simp))
  have hRb : ((w.alloc (.cells (rqC a).toArray 25)).alloc (.cells (rqC b).toArray 25)).rangeAt (w.heap.size + 1) 0 (rqC b) := by
    have := rng_new (w.alloc (.cells (rqC a).toArray 25)) (rqC b) (rqC b).toArray 25 rfl
    rwa [show (w.alloc (.cells (rqC a).toArray 25)).heap.size = w.heap.size + 1 by simp] at this
  have HTw : Hid (Turn [] w ((w.alloc (.cells (rqC a).toArray 25)).alloc (.cells (rqC b).toArray 25))) := ((Turn.refl [] w).alloc _).alloc _
  have HE : Hid (∀ z : Bool, (z = true ↔ keptR a = keptR b) → E (.returned (.bool z)) ((w.alloc (.cells (rqC a).toArray 25)).alloc (.cells (rqC b).toArray 25))) := fun z h => by
    rw [hE]
    exact ⟨z, rfl, h, HTw.out⟩
  have HRa := hide hRa
  have HRb := hide hRb
  clear hRa hRb hE HTw
  have hsz : (w.alloc (.cells (rqC a).toArray 25)).heap.size = w.heap.size + 1 := by simp
  generalize hca : rqC a = ca at *
  generalize hcb : rqC b = cb at *
  generalize hfb : w.heap.size = fb at *
  go_enter Try.func16, Try.ntmps16
  go_upto_region 1 with fail
  clear hfb hsz
  generalize (w.alloc (.cells ca.toArray 25)).alloc (.cells cb.toArray 25) = W at *
  subst hca hcb
  have ca0 : W.cell? ⟨fb, 0, none⟩ = some (.int .i64 a.k) := by have := HRa.out 0 _ rfl; rwa [Nat.zero_add] at this
  have cb0 : W.cell? ⟨fb + 1, 0, none⟩ = some (.int .i64 b.k) := by have := HRb.out 0 _ rfl; rwa [Nat.zero_add] at this
  have ca1 : W.cell? ⟨fb, 1, none⟩ = some (.string a.key) := by have := HRa.out 1 _ rfl; rwa [Nat.zero_add] at this
  have cb1 : W.cell? ⟨fb + 1, 1, none⟩ = some (.string b.key) := by have := HRb.out 1 _ rfl; rwa [Nat.zero_add] at this
  rw [ha] at ca0
  rw [hb] at cb0
  have hi := kept_iff_5 a b ha hb
  have HI := hide hi
  clear hi
  clear HRa HRb
  by_cases h0 : a.key = b.key
  rotate_left
  · have HX := hide (HE.out false ⟨fun e => (by cases e), fun e => absurd (HI.out.1 e) h0⟩)
    have g0 : ¬ a.key.toList = b.key.toList := fun e => h0 (str_eq e)
    have k0 : (a.key.toList == b.key.toList) = false := by rw [beq_eq_false_iff_ne]; exact g0
    clear HE HI
    go_wp2_with (first | (go_at_call 26; refine (rk5 _).mono ?_; rintro e w' ⟨rfl, hw'⟩; subst w') | fail)
    exact HX.out
  rw [← h0] at cb1
  have HX := hide (HE.out true ⟨fun _ => HI.out.2 h0, fun _ => rfl⟩)
  clear HE HI h0
  go_wp2_with (first | (go_at_call 26; refine (rk5 _).mono ?_; rintro e w' ⟨rfl, hw'⟩; subst w') | fail)
  exact HX.out

end Go.Proofs.Ytkbboingeacgjaa
