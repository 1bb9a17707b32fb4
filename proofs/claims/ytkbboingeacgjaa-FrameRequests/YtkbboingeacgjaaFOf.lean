/-
  Which fields a kind has, walked.
-/
import Derived.Test.YtkbboingeacgjaaFCar
namespace Go.Proofs.Ytkbboingeacgjaa
open Go.RowKit

set_option maxRecDepth 100000 in
theorem fof1 (w : World) : Calls Try.prog 40 #[.int .i64 1] w fun e w' => e = .returned (.tuple #[.int .u64 208, .bool true]) ∧ w' = w := by
  go_enter Try.func40, Try.ntmps40
  go_wp2_with fail
  go_ret2
  exact ⟨rfl, rfl⟩

set_option maxRecDepth 100000 in
theorem fof4 (w : World) : Calls Try.prog 40 #[.int .i64 4] w fun e w' => e = .returned (.tuple #[.int .u64 208, .bool true]) ∧ w' = w := by
  go_enter Try.func40, Try.ntmps40
  go_wp2_with fail
  go_ret2
  exact ⟨rfl, rfl⟩

set_option maxRecDepth 100000 in
theorem fof2 (w : World) : Calls Try.prog 40 #[.int .i64 2] w fun e w' => e = .returned (.tuple #[.int .u64 112, .bool true]) ∧ w' = w := by
  go_enter Try.func40, Try.ntmps40
  go_wp2_with fail
  go_ret2
  exact ⟨rfl, rfl⟩

set_option maxRecDepth 100000 in
theorem fof3 (w : World) : Calls Try.prog 40 #[.int .i64 3] w fun e w' => e = .returned (.tuple #[.int .u64 48, .bool true]) ∧ w' = w := by
  go_enter Try.func40, Try.ntmps40
  go_wp2_with fail
  go_ret2
  exact ⟨rfl, rfl⟩

set_option maxRecDepth 100000 in
theorem fof5 (w : World) : Calls Try.prog 40 #[.int .i64 5] w fun e w' => e = .returned (.tuple #[.int .u64 0, .bool true]) ∧ w' = w := by
  go_enter Try.func40, Try.ntmps40
  go_wp2_with fail
  go_ret2
  exact ⟨rfl, rfl⟩

set_option maxRecDepth 100000 in
theorem fof16 (w : World) : Calls Try.prog 40 #[.int .i64 16] w fun e w' => e = .returned (.tuple #[.int .u64 8, .bool true]) ∧ w' = w := by
  go_enter Try.func40, Try.ntmps40
  go_wp2_with fail
  go_ret2
  exact ⟨rfl, rfl⟩

set_option maxRecDepth 100000 in
theorem fof17 (w : World) : Calls Try.prog 40 #[.int .i64 17] w fun e w' => e = .returned (.tuple #[.int .u64 7, .bool true]) ∧ w' = w := by
  go_enter Try.func40, Try.ntmps40
  go_wp2_with fail
  go_ret2
  exact ⟨rfl, rfl⟩

set_option maxRecDepth 100000 in
theorem fof18 (w : World) : Calls Try.prog 40 #[.int .i64 18] w fun e w' => e = .returned (.tuple #[.int .u64 5, .bool true]) ∧ w' = w := by
  go_enter Try.func40, Try.ntmps40
  go_wp2_with fail
  go_ret2
  exact ⟨rfl, rfl⟩

set_option maxRecDepth 100000 in
theorem fof19 (w : World) : Calls Try.prog 40 #[.int .i64 19] w fun e w' => e = .returned (.tuple #[.int .u64 64, .bool true]) ∧ w' = w := by
  go_enter Try.func40, Try.ntmps40
  go_wp2_with fail
  go_ret2
  exact ⟨rfl, rfl⟩

set_option maxRecDepth 100000 in
theorem fof20 (w : World) : Calls Try.prog 40 #[.int .i64 20] w fun e w' => e = .returned (.tuple #[.int .u64 65, .bool true]) ∧ w' = w := by
  go_enter Try.func40, Try.ntmps40
  go_wp2_with fail
  go_ret2
  exact ⟨rfl, rfl⟩

set_option maxRecDepth 100000 in
theorem fofno (k : Int) (hk : ¬ isK k) (w : World) : Calls Try.prog 40 #[.int .i64 k] w fun e w' => e = .returned (.tuple #[.int .u64 0, .bool false]) ∧ w' = w := by
  unfold isK at hk
  simp only [not_or] at hk
  obtain ⟨a1, a2, a3, a4, a5, a6, a7, a8, a9, a10⟩ := hk
  go_enter Try.func40, Try.ntmps40
  go_wp2_with fail
  go_ret2
  exact ⟨rfl, rfl⟩

/-- The world behind the three boxes that fields.request begins with. -/
theorem box3 (w : World) (iv : Value) (r : Rq) : ∃ T0 : World, T0 = ((w.alloc (.cells #[iv] 66)).alloc (.cells #[.int .i64 r.k, .string r.key, .int .i64 r.id, .int .i64 r.n, .int .i64 r.ttl, .int .i64 r.o, .string r.nm, .string r.sec, .string r.pn, .int .i64 r.p1, .int .i64 r.p2, .int .i64 r.p3, .int .i64 r.p4, .int .i64 r.p5, .int .i64 r.p6, .int .i64 r.p7, .int .i64 r.p8, .int .i64 r.p9] 25)).alloc (.cells #[.int .i64 0, .string { data := #[] }, .int .i64 0, .int .i64 0, .int .i64 0, .int .i64 0, .string { data := #[] }, .string { data := #[] }, .string { data := #[] }, .int .i64 0, .int .i64 0, .int .i64 0, .int .i64 0, .int .i64 0, .int .i64 0, .int .i64 0, .int .i64 0, .int .i64 0] 25) ∧ Keep (fun _ => True) w T0 ∧ T0.heap.size = w.heap.size + 3 ∧ T0.cell? ⟨w.heap.size, 0, none⟩ = some iv ∧ T0.rangeAt (w.heap.size + 1) 0 (rqC r) ∧ T0.there (w.heap.size + 2) 0 18 := by
  refine ⟨_, rfl, (((Keep.refl _ w).alloc _).alloc _).alloc _, by simp, ?_, ?_, ?_⟩
  · have h1 : (w.alloc (.cells #[iv] 66)).cell? ⟨w.heap.size, 0, none⟩ = some iv := World.cell?_alloc_at _ _ _ _ rfl
    exact (World.cell?_of_block (a := ⟨w.heap.size, 0, none⟩) ((Below.heap_alloc _ _ w.heap.size (by simp; omega)).trans (Below.heap_alloc _ _ w.heap.size (by simp)))).trans h1
  · have h1 := rng_new (w.alloc (.cells #[iv] 66)) (rqC r) #[.int .i64 r.k, .string r.key, .int .i64 r.id, .int .i64 r.n, .int .i64 r.ttl, .int .i64 r.o, .string r.nm, .string r.sec, .string r.pn, .int .i64 r.p1, .int .i64 r.p2, .int .i64 r.p3, .int .i64 r.p4, .int .i64 r.p5, .int .i64 r.p6, .int .i64 r.p7, .int .i64 r.p8, .int .i64 r.p9] 25 rfl
    have h2 := rangeAt_keep (w' := ((w.alloc (.cells #[iv] 66)).alloc (.cells #[.int .i64 r.k, .string r.key, .int .i64 r.id, .int .i64 r.n, .int .i64 r.ttl, .int .i64 r.o, .string r.nm, .string r.sec, .string r.pn, .int .i64 r.p1, .int .i64 r.p2, .int .i64 r.p3, .int .i64 r.p4, .int .i64 r.p5, .int .i64 r.p6, .int .i64 r.p7, .int .i64 r.p8, .int .i64 r.p9] 25)).alloc (.cells #[.int .i64 0, .string { data := #[] }, .int .i64 0, .int .i64 0, .int .i64 0, .int .i64 0, .string { data := #[] }, .string { data := #[] }, .string { data := #[] }, .int .i64 0, .int .i64 0, .int .i64 0, .int .i64 0, .int .i64 0, .int .i64 0, .int .i64 0, .int .i64 0, .int .i64 0] 25)) h1 (Below.heap_alloc _ _ _ (by simp))
    simpa using h2
  · have h1 := there_new2 ((w.alloc (.cells #[iv] 66)).alloc (.cells #[.int .i64 r.k, .string r.key, .int .i64 r.id, .int .i64 r.n, .int .i64 r.ttl, .int .i64 r.o, .string r.nm, .string r.sec, .string r.pn, .int .i64 r.p1, .int .i64 r.p2, .int .i64 r.p3, .int .i64 r.p4, .int .i64 r.p5, .int .i64 r.p6, .int .i64 r.p7, .int .i64 r.p8, .int .i64 r.p9] 25)) #[.int .i64 0, .string { data := #[] }, .int .i64 0, .int .i64 0, .int .i64 0, .int .i64 0, .string { data := #[] }, .string { data := #[] }, .string { data := #[] }, .int .i64 0, .int .i64 0, .int .i64 0, .int .i64 0, .int .i64 0, .int .i64 0, .int .i64 0, .int .i64 0, .int .i64 0] 25
    simpa using h1

end Go.Proofs.Ytkbboingeacgjaa
