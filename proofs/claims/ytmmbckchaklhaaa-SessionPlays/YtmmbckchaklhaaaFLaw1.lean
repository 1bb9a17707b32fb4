/-
  The laws' own helpers: known, Few, within; FrameLong, walked.
-/
import Derived.Test.YtmmbckchaklhaaaFEnc
import Derived.Test.YtmmbckchaklhaaaFPure
import Derived.Deep.Cut
namespace Go.Proofs.Ytmmbckchaklhaaa
open Go.RowKit

theorem tmod_bd (a n : Int) (h : 1 ≤ n) : -n < a.tmod n ∧ a.tmod n < n ∧ a % n = if a.tmod n < 0 then a.tmod n + n else a.tmod n := by
  have h1 := Int.tmod_lt_of_pos a (show (0 : Int) < n by omega)
  have h2 := Int.tmod_lt_of_pos (-a) (show (0 : Int) < n by omega)
  rw [Int.neg_tmod] at h2
  refine ⟨by omega, h1, ?_⟩
  have h3 := Int.emod_emod_of_dvd a (Int.dvd_refl n)
  have h4 : a % n = a.tmod n % n := by
    have e := Int.mul_tdiv_add_tmod a n
    conv => lhs; rw [← e]
    rw [Int.add_comm, Int.add_mul_emod_self_left]
  rw [h4]
  split
  · rw [← Int.add_emod_right, Int.emod_eq_of_lt (by omega) (by omega)]
  · exact Int.emod_eq_of_lt (by omega) h1

set_option maxRecDepth 100000 in
set_option maxHeartbeats 1000000 in
theorem within_any (a n : Int) (w : World) (h0 : 1 ≤ n) (h1 : n ≤ 2000000000000) :
    Calls Try.prog 15 #[.int .i64 a, .int .i64 n] w fun e w' => e = .returned (.int .i64 (a % n)) ∧ w' = w := by
  obtain ⟨t1, t2, t3⟩ := tmod_bd a n h0
  have HT := hide t3
  clear t3
  go_enter Try.func15, Try.ntmps15
  go_wp2
  all_goals
    go_ret
    refine ⟨ret_int ?_, rfl⟩
    rw [HT.out]
  · rw [if_pos (by omega)]
  · rw [if_neg (by omega)]

/-- The example. -/
def exR : Rq := { Rq.zero with k := 5, key := ⟨#[107]⟩ }

theorem exS : (reqS wrC ⟨[], 0⟩ exR).1 = ⟨[5, 1, 107], 0⟩ := by
  rw [enc_ok exR (by unfold isK exR; simp) (by unfold Fit txts exR; simp; decide)]
  rfl

/-- A request's texts together. -/
def Rq.sum (r : Rq) : Nat := r.key.size + r.nm.size + r.sec.size + r.pn.size

/-- Its texts are no longer than memory is. -/
def Rq.Fits (r : Rq) : Prop := r.key.size ≤ 140737488355328 ∧ r.nm.size ≤ 140737488355328 ∧ r.sec.size ≤ 140737488355328 ∧ r.pn.size ≤ 140737488355328

theorem Rq.Fits.ok {r : Rq} (h : r.Fits) : r.Ok := ⟨by have := h.1; omega, by have := h.2.1; omega, by have := h.2.2.1; omega, by have := h.2.2.2; omega⟩

end Go.Proofs.Ytmmbckchaklhaaa
