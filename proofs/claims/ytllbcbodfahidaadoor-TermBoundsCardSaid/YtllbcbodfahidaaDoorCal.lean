/-
  The calendar by itself: leap years, months, days; no program.
-/
import Derived.ProofKit
namespace Go.Proofs.YtllbcbodfahidaaDoor.Cal

/-- Is it a leap year? -/
def leapB (y : Int) : Bool := decide (y % 4 = 0 ∧ (¬ y % 100 = 0 ∨ y % 400 = 0))
/-- The days of a month. -/
def len (y m : Int) : Int :=
  if m = 2 then (if leapB y then 29 else 28) else if m = 4 ∨ m = 6 ∨ m = 9 ∨ m = 11 then 30 else if 1 ≤ m ∧ m ≤ 12 then 31 else 0
/-- A day more, in leap years. -/
def lp (y : Int) : Int := if leapB y then 1 else 0
/-- Days of a common year ahead of a month. -/
def base (m : Int) : Int :=
  if m ≤ 1 then 0 else if m = 2 then 31 else if m = 3 then 59 else if m = 4 then 90 else if m = 5 then 120 else if m = 6 then 151 else if m = 7 then 181
  else if m = 8 then 212 else if m = 9 then 243 else if m = 10 then 273 else if m = 11 then 304 else if m = 12 then 334 else 365
/-- Days of the year ahead of a month. -/
def cum (y m : Int) : Int := base m + if 2 < m then lp y else 0
/-- Days ahead of a year. -/
def dby (y : Int) : Int := 365 * (y - 1) + (y - 1) / 4 - (y - 1) / 100 + (y - 1) / 400
/-- Is there such a date? -/
def vldB (y m d : Int) : Bool := decide ((1 ≤ y ∧ y ≤ 9999) ∧ (1 ≤ d ∧ d ≤ len y m))
/-- The day of a date. -/
def num (y m d : Int) : Int := dby y - 719162 + cum y m + d - 1

theorem lp_01 (y : Int) : 0 ≤ lp y ∧ lp y ≤ 1 := by unfold lp; split <;> omega
theorem leap_iff (y : Int) : leapB y = true ↔ (y % 4 = 0 ∧ (¬ y % 100 = 0 ∨ y % 400 = 0)) := by unfold leapB; simp
theorem dby_succ (y : Int) : dby (y + 1) = dby y + 365 + lp y := by
  unfold dby lp
  by_cases h : leapB y = true
  · rw [if_pos h]; rw [leap_iff] at h; omega
  · rw [if_neg h]; rw [leap_iff] at h; omega
theorem dby_mono (a b : Int) (h : a ≤ b) : dby a ≤ dby b := by unfold dby; omega
theorem dby_bd (a : Int) (h0 : 0 ≤ a) (h : a ≤ 10400) : -366 ≤ dby a ∧ dby a ≤ 4000000 := by unfold dby; omega
theorem dby_400 (y : Int) : dby (y + 400) = dby y + 146097 := by unfold dby; omega
theorem len_bd (y m : Int) : 0 ≤ len y m ∧ len y m ≤ 31 := by
  unfold len; split
  · split <;> omega
  · split
    · omega
    · split <;> omega
theorem len_pos {y m : Int} (h : 0 < len y m) : 1 ≤ m ∧ m ≤ 12 := by
  unfold len at h
  split at h
  · omega
  · split at h
    · omega
    · split at h <;> omega
theorem len_28 (y m : Int) (h1 : 1 ≤ m) (h2 : m ≤ 12) : 28 ≤ len y m := by
  unfold len; split
  · split <;> omega
  · split
    · omega
    · split <;> omega
theorem m12 {m : Int} (h1 : 1 ≤ m) (h2 : m ≤ 12) : m = 1 ∨ m = 2 ∨ m = 3 ∨ m = 4 ∨ m = 5 ∨ m = 6 ∨ m = 7 ∨ m = 8 ∨ m = 9 ∨ m = 10 ∨ m = 11 ∨ m = 12 := by omega
theorem cum_succ (y m : Int) (h1 : 1 ≤ m) (h2 : m ≤ 12) : cum y (m + 1) = cum y m + len y m := by
  unfold cum len base lp
  rcases m12 h1 h2 with rfl | rfl | rfl | rfl | rfl | rfl | rfl | rfl | rfl | rfl | rfl | rfl <;> (cases leapB y <;> simp)
theorem cum_one (y : Int) : cum y 1 = 0 := by unfold cum base; simp
theorem cum_13 (y : Int) : cum y 13 = 365 + lp y := by unfold cum base; simp
theorem cum_mono_n (y m : Int) (h1 : 1 ≤ m) : ∀ n : Nat, m + n ≤ 13 → cum y m ≤ cum y (m + n)
  | 0, _ => by simp
  | n + 1, h => by
    have a := cum_mono_n y m h1 n (by omega)
    have b := cum_succ y (m + n) (by omega) (by omega)
    have c := len_bd y (m + n)
    rw [show m + ((n + 1 : Nat) : Int) = m + n + 1 by omega]
    omega
theorem cum_mono (y m k : Int) (h1 : 1 ≤ m) (h2 : m ≤ k) (h3 : k ≤ 13) : cum y m ≤ cum y k := by
  have := cum_mono_n y m h1 (k - m).toNat (by omega)
  rwa [show m + ((k - m).toNat : Int) = k by omega] at this
theorem cum_bd (y m : Int) (h1 : 1 ≤ m) (h2 : m ≤ 13) : 0 ≤ cum y m ∧ cum y m ≤ 366 := by
  have a := cum_mono y 1 m (by omega) h1 h2
  have b := cum_mono y m 13 h1 h2 (by omega)
  have := lp_01 y
  rw [cum_one] at a; rw [cum_13] at b; omega
theorem vld_iff {y m d : Int} : vldB y m d = true ↔ ((1 ≤ y ∧ y ≤ 9999) ∧ (1 ≤ d ∧ d ≤ len y m)) := by unfold vldB; simp
theorem vld_m {y m d : Int} (h : vldB y m d = true) : 1 ≤ m ∧ m ≤ 12 := by
  rw [vld_iff] at h; exact len_pos (y := y) (by omega)
/-- A date lies in its year. -/
theorem num_in {y m d : Int} (h : vldB y m d = true) : dby y - 719162 ≤ num y m d ∧ num y m d < dby (y + 1) - 719162 := by
  have hm := vld_m h
  rw [vld_iff] at h
  have h1 := cum_succ y m hm.1 hm.2
  have h2 := cum_mono y (m + 1) 13 (by omega) (by omega) (by omega)
  have h3 := cum_bd y m hm.1 (by omega)
  rw [cum_13] at h2
  rw [dby_succ]
  unfold num; omega
/-- Dates rise as days do. -/
theorem num_lt {y m d y' m' d' : Int} (h : vldB y m d = true) (h' : vldB y' m' d' = true) (hl : y < y' ∨ y = y' ∧ (m < m' ∨ m = m' ∧ d < d')) : num y m d < num y' m' d' := by
  rcases hl with hl | ⟨rfl, hl | ⟨rfl, hl⟩⟩
  · have a := (num_in h).2
    have b := (num_in h').1
    have c := dby_mono (y + 1) y' (by omega)
    omega
  · have hm := vld_m h
    have hm' := vld_m h'
    rw [vld_iff] at h h'
    have h1 := cum_succ y m hm.1 hm.2
    have h2 := cum_mono y (m + 1) m' (by omega) (by omega) (by omega)
    unfold num; omega
  · unfold num; omega
theorem num_iff {y m d y' m' d' : Int} (h : vldB y m d = true) (h' : vldB y' m' d' = true) : (y < y' ∨ y = y' ∧ (m < m' ∨ m = m' ∧ d < d')) ↔ num y m d < num y' m' d' := by
  constructor
  · exact num_lt h h'
  · intro hn
    by_cases e : y' < y ∨ y' = y ∧ (m' < m ∨ m' = m ∧ d' < d)
    · have := num_lt h' h e; omega
    · by_cases e2 : y = y' ∧ m = m' ∧ d = d'
      · obtain ⟨rfl, rfl, rfl⟩ := e2; omega
      · omega
theorem num_inj {y m d y' m' d' : Int} (h : vldB y m d = true) (h' : vldB y' m' d' = true) (hn : num y m d = num y' m' d') : y = y' ∧ m = m' ∧ d = d' := by
  have a := num_iff h h'
  have b := num_iff h' h
  omega
theorem num_bd {y m d : Int} (h : vldB y m d = true) : -719162 ≤ num y m d ∧ num y m d ≤ 2932896 := by
  have a := num_in h
  rw [vld_iff] at h
  have b := dby_mono 1 y (by omega)
  have c := dby_mono (y + 1) 10000 (by omega)
  have e1 : dby 1 = 0 := by decide
  have e2 : dby 10000 = 3652059 := by decide
  omega
theorem tmod_zero (y : Int) (k : Int) : y.tmod k = 0 ↔ y % k = 0 := by
  rw [← Int.dvd_iff_tmod_eq_zero, Int.dvd_iff_emod_eq_zero]
theorem year_of (r : Int) (h0 : 0 ≤ r) : ∀ k : Nat, r < dby ((k : Int) + 1) → ∃ y : Int, 1 ≤ y ∧ y ≤ k ∧ dby y ≤ r ∧ r < dby (y + 1)
  | 0, h => by
    have e : dby ((0 : Nat) + 1 : Int) = 0 := by decide
    rw [e] at h; omega
  | k + 1, h => by
    rcases Int.lt_or_le r (dby ((k : Int) + 1)) with h1 | h1
    · obtain ⟨y, a, b, c, d⟩ := year_of r h0 k h1
      exact ⟨y, a, by omega, c, d⟩
    · exact ⟨(k : Int) + 1, by omega, by omega, h1, by rw [show (k : Int) + 1 + 1 = ((k + 1 : Nat) : Int) + 1 by omega]; exact h⟩
theorem month_of (y r : Int) (h0 : 0 ≤ r) : ∀ k : Nat, k ≤ 12 → r < cum y ((k : Int) + 1) → ∃ m : Int, 1 ≤ m ∧ m ≤ k ∧ cum y m ≤ r ∧ r < cum y (m + 1)
  | 0, _, h => by
    rw [show ((0 : Nat) : Int) + 1 = 1 from rfl, cum_one] at h; omega
  | k + 1, hk, h => by
    rcases Int.lt_or_le r (cum y ((k : Int) + 1)) with h1 | h1
    · obtain ⟨m, a, b, c, d⟩ := month_of y r h0 k (by omega) h1
      exact ⟨m, a, by omega, c, d⟩
    · exact ⟨(k : Int) + 1, by omega, by omega, h1, by rw [show (k : Int) + 1 + 1 = ((k + 1 : Nat) : Int) + 1 by omega]; exact h⟩
theorem date_of (n : Int) (h1 : -719162 ≤ n) (h2 : n ≤ 2932896) : ∃ y m d : Int, vldB y m d = true ∧ num y m d = n := by
  have e2 : dby 10000 = 3652059 := by decide
  obtain ⟨y, a, b, c, d⟩ := year_of (n + 719162) (by omega) 9999 (by show _ < dby 10000; omega)
  rw [dby_succ] at d
  have h13 := cum_13 y
  obtain ⟨m, a', b', c', d'⟩ := month_of y (n + 719162 - dby y) (by omega) 12 (by omega) (by show _ < cum y 13; omega)
  rw [cum_succ y m a' (by omega)] at d'
  exact ⟨y, m, n + 719162 - dby y - cum y m + 1, by rw [vld_iff]; omega, by unfold num; omega⟩
/-- The date behind a date. -/
theorem next_day {y m d : Int} (h : vldB y m d = true) (hl : d < len y m) : vldB y m (d + 1) = true ∧ num y m (d + 1) = num y m d + 1 := by
  rw [vld_iff] at h ⊢
  exact ⟨by omega, by unfold num; omega⟩
theorem next_month {y m d : Int} (h : vldB y m d = true) (hl : len y m ≤ d) (hm : m < 12) : vldB y (m + 1) 1 = true ∧ num y (m + 1) 1 = num y m d + 1 := by
  have hm' := vld_m h
  rw [vld_iff] at h ⊢
  have a := len_28 y (m + 1) (by omega) (by omega)
  have b := cum_succ y m hm'.1 hm'.2
  exact ⟨by omega, by unfold num; omega⟩
theorem next_year {y d : Int} (h : vldB y 12 d = true) (hl : len y 12 ≤ d) (hn : num y 12 d ≤ 2932800) : vldB (y + 1) 1 1 = true ∧ num (y + 1) 1 1 = num y 12 d + 1 := by
  rw [vld_iff] at h ⊢
  have a := len_28 (y + 1) 1 (by omega) (by omega)
  have b := cum_succ y 12 (by omega) (by omega)
  rw [show (12 : Int) + 1 = 13 from rfl, cum_13] at b
  have c := dby_succ y
  have e : num (y + 1) 1 1 = num y 12 d + 1 := by unfold num; rw [cum_one]; omega
  have f : num (y + 1) 1 1 = dby (y + 1) - 719162 := by unfold num; rw [cum_one]; omega
  have g : dby 10000 = 3652059 := by decide
  have i := dby_mono 10000 (y + 1)
  exact ⟨by omega, e⟩

end Go.Proofs.YtllbcbodfahidaaDoor.Cal
