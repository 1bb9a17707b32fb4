/-
  The laws' own helpers: known, Few, within; FrameLong, walked.
-/
import Derived.Test.YtkbboingeacgjaaFEnc
import Derived.Test.YtkbboingeacgjaaQRS
import Derived.Deep.Cut
namespace Go.Proofs.Ytkbboingeacgjaa
open Go.RowKit

/-- The example. -/
def exR : Rq := { Rq.zero with k := 5, key := ⟨#[107]⟩ }

theorem exS : (reqS wrC ⟨[], 0⟩ exR).1 = ⟨[5, 1, 107], 0⟩ := by
  rw [enc_ok exR (by unfold isK exR; simp) (by unfold Fit txts exR; simp; decide)]
  rfl

set_option maxRecDepth 100000 in
set_option maxHeartbeats 1000000 in
theorem known_any (w : World) : Calls Try.prog 9 #[] w fun e w' => e = .returned (.bool true) ∧ Turn [] w w' := by
  have hC := encreq w exR ⟨by decide, by decide, by decide, by decide⟩
  rw [exS] at hC
  have HC : Hid (Calls Try.prog 11 #[.agg #[.int .i64 5, .string ⟨#[107]⟩, .int .i64 0, .int .i64 0, .int .i64 0, .int .i64 0, .string { data := #[] }, .string { data := #[] }, .string { data := #[] }, .int .i64 0, .int .i64 0, .int .i64 0, .int .i64 0, .int .i64 0, .int .i64 0, .int .i64 0, .int .i64 0, .int .i64 0]] w fun e w' => ∃ v, e = .returned (.tuple #[v, .int .i64 0]) ∧ EncP w w' ⟨[5, 1, 107], 0⟩ v) := hC
  clear hC
  go_enter Try.func9, Try.ntmps9
  go_wp2_with fail
  refine HC.out.mono ?_
  rintro e w1 ⟨v, rfl, hP⟩
  obtain ⟨g, cap, rfl, _, _, _, hB, _⟩ := own_bytes (hP.own rfl) (by decide)
  have ht := text_at hB 3 cap rfl
  have HT := hide hP.old
  have he : textOf [5, 1, 107] = ⟨#[5, 1, 107]⟩ := by decide
  rw [he] at ht
  clear hP hB he
  go_wp2_with fail
  go_ret
  exact ⟨rfl, HT.out⟩

/-- A request's texts together. -/
def Rq.sum (r : Rq) : Nat := r.key.size + r.nm.size + r.sec.size + r.pn.size

/-- Its texts are no longer than memory is. -/
def Rq.Fits (r : Rq) : Prop := r.key.size ≤ 140737488355328 ∧ r.nm.size ≤ 140737488355328 ∧ r.sec.size ≤ 140737488355328 ∧ r.pn.size ≤ 140737488355328

theorem Rq.Fits.ok {r : Rq} (h : r.Fits) : r.Ok := ⟨by have := h.1; omega, by have := h.2.1; omega, by have := h.2.2.1; omega, by have := h.2.2.2; omega⟩

set_option maxRecDepth 100000 in
set_option maxHeartbeats 1000000 in
theorem few_any (r : Rq) (hr : r.Fits) (w : World) : Calls Try.prog 10 #[.agg (rqC r).toArray] w fun e w' => e = .returned (.bool (decide (r.sum < 2000))) ∧ Turn [] w w' := by
  obtain ⟨h1, h2, h3, h4⟩ := hr
  have hR := rng_new w (rqC r) (rqC r).toArray 25 rfl
  have c1 : (w.alloc (.cells (rqC r).toArray 25)).cell? ⟨w.heap.size, 1, none⟩ = some (.string r.key) := hR 1 _ rfl
  have c6 : (w.alloc (.cells (rqC r).toArray 25)).cell? ⟨w.heap.size, 6, none⟩ = some (.string r.nm) := hR 6 _ rfl
  have c7 : (w.alloc (.cells (rqC r).toArray 25)).cell? ⟨w.heap.size, 7, none⟩ = some (.string r.sec) := hR 7 _ rfl
  have c8 : (w.alloc (.cells (rqC r).toArray 25)).cell? ⟨w.heap.size, 8, none⟩ = some (.string r.pn) := hR 8 _ rfl
  have HT : Hid (Turn [] w (w.alloc (.cells (rqC r).toArray 25))) := (Turn.refl [] w).alloc _
  have hd : decide (r.sum < 2000) = decide ((r.key.size : Int) + (r.nm.size : Int) + (r.sec.size : Int) + (r.pn.size : Int) < 2000) := by
    unfold Rq.sum
    apply decide_eq_decide.2
    omega
  rw [hd]
  clear hd hR
  generalize rqC r = cs at *
  generalize r.key = t1 at *
  generalize r.nm = t2 at *
  generalize r.sec = t3 at *
  generalize r.pn = t4 at *
  go_enter Try.func10, Try.ntmps10
  go_wp2_with fail
  go_ret
  exact ⟨rfl, HT.out⟩

end Go.Proofs.Ytkbboingeacgjaa
