/-
  Next and Last by the months' numbers: a day that lies between two bounds.
-/
import Derived.Test.YtllbcbodfahidaaDoorTerm3
namespace Go.Proofs.YtllbcbodfahidaaDoor
open Go.RowKit Cal

namespace Cal
theorem sy_mon (t : Int) : sy (t / 12) (t % 12 + 1) = (t + 1) / 12 := by unfold sy; split <;> omega
theorem sm_mon (t : Int) : sm (t % 12 + 1) = (t + 1) % 12 + 1 := by unfold sm; split <;> omega
theorem py_mon (t : Int) : py (t / 12) (t % 12 + 1) = (t - 1) / 12 := by unfold py; split <;> omega
theorem pm_mon (t : Int) : pm (t % 12 + 1) = (t - 1) % 12 + 1 := by unfold pm; split <;> omega
theorem bound_in (a t : Int) (h1 : 1 ≤ a) (ht : 12 ≤ t) (ht' : t < 120000) :
    numV (t / 12) (t % 12 + 1) (min a (len (t / 12) (t % 12 + 1))) = B a t ∧ errV (t / 12) (t % 12 + 1) (min a (len (t / 12) (t % 12 + 1))) = 0 := by
  have hb := bd_bd a t h1
  have hv := vld_mon ht ht' hb.1 hb.2.1
  unfold bd LM at hv
  unfold numV errV
  rw [if_pos hv, if_pos hv, num_mon]
  exact ⟨rfl, rfl⟩
theorem bound_out (a t : Int) (ht : t < 12 ∨ 120000 ≤ t) :
    numV (t / 12) (t % 12 + 1) (min a (len (t / 12) (t % 12 + 1))) = 0 ∧ errV (t / 12) (t % 12 + 1) (min a (len (t / 12) (t % 12 + 1))) = 1 := by
  have hv : ¬ vldB (t / 12) (t % 12 + 1) (min a (len (t / 12) (t % 12 + 1))) = true := by rw [vld_iff]; omega
  unfold numV errV
  rw [if_neg hv, if_neg hv]
  exact ⟨rfl, rfl⟩
/-- Every day lies between two bounds. -/
theorem iv_of {n : Int} (a : Int) (h1 : 1 ≤ a) (hn1 : -719162 ≤ n) (hn2 : n ≤ 2932896) : ∃ t : Int, 11 ≤ t ∧ t < 120000 ∧ B a t ≤ n ∧ n < B a (t + 1) := by
  obtain ⟨t, d, e1, e2, e3, e4, rfl⟩ := mon_of hn1 hn2
  have f := FM_succ t
  have b1 := bd_bd a (t + 1) h1
  have b0 := bd_bd a (t - 1) h1
  have f0 := FM_succ (t - 1)
  rw [show t - 1 + 1 = t by omega] at f0
  by_cases h : bd a t ≤ d
  · exact ⟨t, by omega, e2, by unfold B; omega, by unfold B; omega⟩
  · exact ⟨t - 1, by omega, by omega, by unfold B; omega, by rw [show t - 1 + 1 = t by omega]; unfold B; omega⟩
/-- A day between two bounds lies in the month of the one, behind it, or in that of the other, ahead of it. -/
theorem iv_mon {a t n : Int} (h1 : 1 ≤ a) (h2 : B a t ≤ n) (h3 : n < B a (t + 1)) :
    (∃ d, n = FM t + d - 1 ∧ 1 ≤ d ∧ d ≤ LM t ∧ bd a t ≤ d) ∨ (∃ d, n = FM (t + 1) + d - 1 ∧ 1 ≤ d ∧ d ≤ LM (t + 1) ∧ d < bd a (t + 1)) := by
  have f := FM_succ t
  have b0 := bd_bd a t h1
  have b1 := bd_bd a (t + 1) h1
  unfold B at h2 h3
  by_cases h : n < FM (t + 1)
  · exact .inl ⟨n - FM t + 1, by omega, by omega, by omega, by omega⟩
  · exact .inr ⟨n - FM (t + 1) + 1, by omega, by omega, by omega, by omega⟩
theorem mon_ge {t d : Int} (h2 : d ≤ LM t) (h : -719162 ≤ FM t + d - 1) : 12 ≤ t := by
  rcases Int.lt_or_le t 12 with h' | h'
  · have b := FM_succ t
    have c := FM_mono (s := t + 1) (t := 12) (by omega)
    rw [FM_first] at c
    omega
  · exact h'
theorem mon_lt {t d : Int} (h1 : 1 ≤ d) (h : FM t + d - 1 ≤ 2932896) : t < 120000 := by
  rcases Int.lt_or_le t 120000 with h' | h'
  · exact h'
  · have a := FM_mono (s := 120000) (t := t) h'
    rw [FM_end] at a
    omega
end Cal

/-- Next of a day between two bounds is the other. -/
theorem next_iv (a k t n : Int) (w : World) (hT : Tab w) (h1 : 1 ≤ a) (h2 : a ≤ 31) (hn1 : -719162 ≤ n) (hn2 : n ≤ 2932896) (ht : t + 1 < 120000) (hb1 : B a t ≤ n) (hb2 : n < B a (t + 1)) :
    Calls Tryd.prog 10 #[.int .i64 0, .int .i64 a, .int .i64 k, .int .i64 n] w fun e w' => e = .returned (.tuple #[.int .i64 (B a (t + 1)), .int .i64 0]) ∧ Turn [] w w' := by
  rcases iv_mon h1 hb1 hb2 with ⟨d, rfl, e1, e2, e3⟩ | ⟨d, rfl, e1, e2, e3⟩
  · have t1 := mon_ge e2 hn1
    have t2 := mon_lt e1 hn2
    have c := nb_step _ _ d a _ w hT h1 h2 (vld_mon t1 t2 e1 e2) (num_mon t d) e3
    rw [sy_mon, sm_mon, (bound_in a (t + 1) h1 (by omega) ht).1, (bound_in a (t + 1) h1 (by omega) ht).2] at c
    exact next_m c
  · have t1 := mon_ge e2 hn1
    have t2 := mon_lt e1 hn2
    have c := nb_this _ _ d a _ w hT h1 h2 (vld_mon t1 t2 e1 e2) (num_mon (t + 1) d) (show ¬ bd a (t + 1) ≤ d by omega)
    rw [(bound_in a (t + 1) h1 (by omega) ht).1, (bound_in a (t + 1) h1 (by omega) ht).2] at c
    exact next_m c
/-- Last of it is the one. -/
theorem last_iv (a t n : Int) (w : World) (hT : Tab w) (h1 : 1 ≤ a) (h2 : a ≤ 31) (hn1 : -719162 ≤ n) (hn2 : n ≤ 2932896) (ht : 12 ≤ t) (hb1 : B a t ≤ n) (hb2 : n < B a (t + 1)) :
    Calls Tryd.prog 12 #[.int .i64 a, .int .i64 n] w fun e w' => e = .returned (.tuple #[.int .i64 (B a t), .int .i64 0]) ∧ Turn [] w w' := by
  rcases iv_mon h1 hb1 hb2 with ⟨d, rfl, e1, e2, e3⟩ | ⟨d, rfl, e1, e2, e3⟩
  · have t1 := mon_ge e2 hn1
    have t2 := mon_lt e1 hn2
    have c := lb_this _ _ d a _ w hT h1 h2 (vld_mon t1 t2 e1 e2) (num_mon t d) (show ¬ d < bd a t by omega)
    rw [(bound_in a t h1 ht t2).1, (bound_in a t h1 ht t2).2] at c
    exact c
  · have t1 := mon_ge e2 hn1
    have t2 := mon_lt e1 hn2
    have c := lb_step _ _ d a _ w hT h1 h2 (vld_mon t1 t2 e1 e2) (num_mon (t + 1) d) e3
    rw [py_mon, pm_mon, show t + 1 - 1 = t by omega, (bound_in a t h1 ht (by omega)).1, (bound_in a t h1 ht (by omega)).2] at c
    exact c
/-- No bound ahead of a day, or behind it, that has a date. -/
theorem next_end (a k t n : Int) (w : World) (hT : Tab w) (h1 : 1 ≤ a) (h2 : a ≤ 31) (hn1 : -719162 ≤ n) (hn2 : n ≤ 2932896) (ht : 120000 ≤ t + 1) (hb1 : B a t ≤ n) (hb2 : n < B a (t + 1)) :
    Calls Tryd.prog 10 #[.int .i64 0, .int .i64 a, .int .i64 k, .int .i64 n] w fun e w' => e = .returned (.tuple #[.int .i64 0, .int .i64 1]) ∧ Turn [] w w' := by
  rcases iv_mon h1 hb1 hb2 with ⟨d, rfl, e1, e2, e3⟩ | ⟨d, rfl, e1, e2, e3⟩
  · have t1 := mon_ge e2 hn1
    have t2 := mon_lt e1 hn2
    have c := nb_step _ _ d a _ w hT h1 h2 (vld_mon t1 t2 e1 e2) (num_mon t d) e3
    rw [sy_mon, sm_mon, (bound_out a (t + 1) (.inr ht)).1, (bound_out a (t + 1) (.inr ht)).2] at c
    exact next_m c
  · have t2 := mon_lt e1 hn2
    omega
theorem last_end (a t n : Int) (w : World) (hT : Tab w) (h1 : 1 ≤ a) (h2 : a ≤ 31) (hn1 : -719162 ≤ n) (hn2 : n ≤ 2932896) (ht : t < 12) (hb1 : B a t ≤ n) (hb2 : n < B a (t + 1)) :
    Calls Tryd.prog 12 #[.int .i64 a, .int .i64 n] w fun e w' => e = .returned (.tuple #[.int .i64 0, .int .i64 1]) ∧ Turn [] w w' := by
  rcases iv_mon h1 hb1 hb2 with ⟨d, rfl, e1, e2, e3⟩ | ⟨d, rfl, e1, e2, e3⟩
  · have t1 := mon_ge e2 hn1
    omega
  · have t1 := mon_ge e2 hn1
    have t2 := mon_lt e1 hn2
    have c := lb_step _ _ d a _ w hT h1 h2 (vld_mon t1 t2 e1 e2) (num_mon (t + 1) d) e3
    rw [py_mon, pm_mon, show t + 1 - 1 = t by omega, (bound_out a t (.inl ht)).1, (bound_out a t (.inl ht)).2] at c
    exact c

end Go.Proofs.YtllbcbodfahidaaDoor
