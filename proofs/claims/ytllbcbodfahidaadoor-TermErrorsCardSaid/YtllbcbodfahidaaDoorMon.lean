/-
  Months by their number: where they begin, how long they are, where their bounds lie; no program.
-/
import Derived.Test.YtllbcbodfahidaaDoorCal
namespace Go.Proofs.YtllbcbodfahidaaDoor.Cal

/-- The length of a month. -/
def LM (t : Int) : Int := len (t / 12) (t % 12 + 1)
/-- Its first day. -/
def FM (t : Int) : Int := num (t / 12) (t % 12 + 1) 1
/-- The anchor's day in it. -/
def bd (a t : Int) : Int := min a (LM t)
/-- The anchor's bound in it. -/
def B (a t : Int) : Int := FM t + bd a t - 1

theorem bd_1 {a : Int} (t : Int) (h : a ≤ LM t) : bd a t = a := Int.min_eq_left h
theorem bd_2 {a : Int} (t : Int) (h : LM t ≤ a) : bd a t = LM t := Int.min_eq_right h
theorem LM_bd (t : Int) : 28 ≤ LM t ∧ LM t ≤ 31 := by
  have a := len_28 (t / 12) (t % 12 + 1) (by omega) (by omega)
  have b := len_bd (t / 12) (t % 12 + 1)
  unfold LM; omega
theorem bd_bd (a t : Int) (h1 : 1 ≤ a) : 1 ≤ bd a t ∧ bd a t ≤ LM t ∧ bd a t ≤ a := by
  have := LM_bd t
  unfold bd
  rcases Int.le_total a (LM t) with h | h
  · rw [Int.min_eq_left h]; omega
  · rw [Int.min_eq_right h]; omega
theorem FM_succ (t : Int) : FM (t + 1) = FM t + LM t := by
  unfold FM LM
  by_cases h : t % 12 = 11
  · have e1 : (t + 1) / 12 = t / 12 + 1 := by omega
    have e2 : (t + 1) % 12 = 0 := by omega
    rw [e1, e2, h]
    have b := cum_succ (t / 12) 12 (by omega) (by omega)
    rw [show (12 : Int) + 1 = 13 from rfl, cum_13] at b
    have c := dby_succ (t / 12)
    have e := cum_one (t / 12 + 1)
    unfold num
    rw [show (11 : Int) + 1 = 12 from rfl, show (0 : Int) + 1 = 1 from rfl]
    omega
  · have e1 : (t + 1) / 12 = t / 12 := by omega
    have e2 : (t + 1) % 12 = t % 12 + 1 := by omega
    rw [e1, e2]
    have b := cum_succ (t / 12) (t % 12 + 1) (by omega) (by omega)
    unfold num
    omega
theorem FM_year (t : Int) : 365 ≤ FM (t + 12) - FM t ∧ FM (t + 12) - FM t ≤ 366 := by
  unfold FM num cum
  have e1 : (t + 12) / 12 = t / 12 + 1 := by omega
  have e2 : (t + 12) % 12 = t % 12 := by omega
  have c := dby_succ (t / 12)
  have l1 := lp_01 (t / 12)
  have l2 := lp_01 (t / 12 + 1)
  rw [e1, e2]
  split <;> omega
theorem LM_year (t : Int) : LM (t + 12) ≤ LM t + 1 ∧ LM t ≤ LM (t + 12) + 1 := by
  unfold LM len
  have e1 : (t + 12) / 12 = t / 12 + 1 := by omega
  have e2 : (t + 12) % 12 = t % 12 := by omega
  rw [e1, e2]
  split
  · split <;> split <;> omega
  · omega
theorem B_step (a t : Int) : 28 ≤ B a (t + 1) - B a t ∧ B a (t + 1) - B a t ≤ 31 := by
  have l1 := LM_bd t
  have l2 := LM_bd (t + 1)
  have e := FM_succ t
  unfold B bd
  rcases Int.le_total a (LM t) with h | h <;> rcases Int.le_total a (LM (t + 1)) with h' | h' <;>
    simp only [Int.min_eq_left, Int.min_eq_right, h, h'] <;> omega
theorem B_year (a t : Int) : 363 ≤ B a (t + 12) - B a t ∧ B a (t + 12) - B a t ≤ 368 := by
  have l1 := FM_year t
  have l2 := LM_year t
  unfold B bd
  rcases Int.le_total a (LM t) with h | h <;> rcases Int.le_total a (LM (t + 12)) with h' | h' <;>
    simp only [Int.min_eq_left, Int.min_eq_right, h, h'] <;> omega
theorem FM_mono_n (t : Int) : ∀ n : Nat, FM t + 28 * n ≤ FM (t + n)
  | 0 => by simp
  | n + 1 => by
    have a := FM_mono_n t n
    have b := FM_succ (t + n)
    have c := LM_bd (t + n)
    rw [show t + ((n + 1 : Nat) : Int) = t + n + 1 by omega]
    omega
theorem B_mono_n (a t : Int) : ∀ n : Nat, B a t + 28 * n ≤ B a (t + n)
  | 0 => by simp
  | n + 1 => by
    have x := B_mono_n a t n
    have b := B_step a (t + n)
    rw [show t + ((n + 1 : Nat) : Int) = t + n + 1 by omega]
    omega
theorem B_mono (a : Int) {s t : Int} (h : s ≤ t) : B a s + 28 * (t - s) ≤ B a t := by
  have := B_mono_n a s (t - s).toNat
  rw [show s + ((t - s).toNat : Int) = t by omega] at this
  omega
theorem FM_mono {s t : Int} (h : s ≤ t) : FM s + 28 * (t - s) ≤ FM t := by
  have := FM_mono_n s (t - s).toNat
  rw [show s + ((t - s).toNat : Int) = t by omega] at this
  omega
theorem FM_first : FM 12 = -719162 := by decide
theorem FM_end : FM 120000 = 2932897 := by decide
/-- A day of a month is a date. -/
theorem vld_mon {t d : Int} (h1 : 12 ≤ t) (h2 : t < 120000) (h3 : 1 ≤ d) (h4 : d ≤ LM t) : vldB (t / 12) (t % 12 + 1) d = true := by
  rw [vld_iff]; unfold LM at h4; omega
theorem num_mon (t d : Int) : num (t / 12) (t % 12 + 1) d = FM t + d - 1 := by unfold FM num; omega
/-- Of every day that has a date there is a month. -/
theorem mon_of {n : Int} (h1 : -719162 ≤ n) (h2 : n ≤ 2932896) : ∃ t d : Int, 12 ≤ t ∧ t < 120000 ∧ 1 ≤ d ∧ d ≤ LM t ∧ n = FM t + d - 1 := by
  obtain ⟨y, m, d, hv, hn⟩ := date_of n h1 h2
  have hm := vld_m hv
  rw [vld_iff] at hv
  have e1 : (12 * y + (m - 1)) / 12 = y := by omega
  have e2 : (12 * y + (m - 1)) % 12 + 1 = m := by omega
  refine ⟨12 * y + (m - 1), d, by omega, by omega, by omega, ?_, ?_⟩
  · unfold LM; rw [e1, e2]; omega
  · rw [← num_mon, e1, e2]; exact hn.symm
theorem mon_in {t d : Int} (h1 : 12 ≤ t) (h2 : t < 120000) (h3 : 1 ≤ d) (h4 : d ≤ LM t) : -719162 ≤ FM t + d - 1 ∧ FM t + d - 1 ≤ 2932896 := by
  rw [← num_mon]; exact num_bd (vld_mon h1 h2 h3 h4)
/-- Is a day behind the bound of its month? -/
theorem bd_iff (a t d : Int) : bd a t ≤ d ↔ B a t ≤ FM t + d - 1 := by unfold B; omega

end Go.Proofs.YtllbcbodfahidaaDoor.Cal
