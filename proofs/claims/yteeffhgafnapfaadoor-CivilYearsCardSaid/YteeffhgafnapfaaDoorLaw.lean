/-
  There is a date of every day; Of by its date; the laws' examples.
-/
import Derived.Test.YteeffhgafnapfaaDoorOf
namespace Go.Proofs.YteeffhgafnapfaaDoor
open Go.RowKit Cal

namespace Cal
theorem year_of (r : Int) (h0 : 0 ≤ r) : ∀ k : Nat, r < dby ((k : Int) + 1) → ∃ y : Int, 1 ≤ y ∧ y ≤ k ∧ dby y ≤ r ∧ r < dby (y + 1)
  | 0, h => by
    have e : dby ((0 : Nat) + 1 : Int) = 0 := by decide
    rw [e] at h; omega
  | k + 1, h => by
    rcases Int.lt_or_le r (dby ((k : Int) + 1)) with h1 | h1
    · obtain ⟨y, a, b, c, d⟩ := year_of r h0 k h1
      exact ⟨y, a, by omega, c, d⟩
    · exact ⟨(k : Int) + 1, by omega, by omega, h1, by rw [show (k : Int) + 1 + 1 = ((k + 1 : Nat) : Int) + 1 by omega]; exact h⟩
theorem month_of (y r : Int) (h0 : 0 ≤ r) : ∀ k : Nat, k ≤ 12 → r < cum y ((k : Int) + 1) → ∃ m : Int, 1 ≤ m ∧ m ≤ k ∧ cum y m ≤ r ∧ r < cum y (m + 1)
  | 0, _, h => by
    rw [show ((0 : Nat) : Int) + 1 = 1 from rfl, cum_one] at h; omega
  | k + 1, hk, h => by
    rcases Int.lt_or_le r (cum y ((k : Int) + 1)) with h1 | h1
    · obtain ⟨m, a, b, c, d⟩ := month_of y r h0 k (by omega) h1
      exact ⟨m, a, by omega, c, d⟩
    · exact ⟨(k : Int) + 1, by omega, by omega, h1, by rw [show (k : Int) + 1 + 1 = ((k + 1 : Nat) : Int) + 1 by omega]; exact h⟩
theorem date_of (n : Int) (h1 : -719162 ≤ n) (h2 : n ≤ 2932896) : ∃ y m d : Int, vldB y m d = true ∧ num y m d = n := by
  have e2 : dby 10000 = 3652059 := by decide
  obtain ⟨y, a, b, c, d⟩ := year_of (n + 719162) (by omega) 9999 (by show _ < dby 10000; omega)
  rw [dby_succ] at d
  have h13 := cum_13 y
  obtain ⟨m, a', b', c', d'⟩ := month_of y (n + 719162 - dby y) (by omega) 12 (by omega) (by show _ < cum y 13; omega)
  rw [cum_succ y m a' (by omega)] at d'
  exact ⟨y, m, n + 719162 - dby y - cum y m + 1, by rw [vld_iff]; omega, by unfold num; omega⟩
/-- The date behind a date. -/
theorem next_day {y m d : Int} (h : vldB y m d = true) (hl : d < len y m) : vldB y m (d + 1) = true ∧ num y m (d + 1) = num y m d + 1 := by
  rw [vld_iff] at h ⊢
  exact ⟨by omega, by unfold num; omega⟩
theorem next_month {y m d : Int} (h : vldB y m d = true) (hl : len y m ≤ d) (hm : m < 12) : vldB y (m + 1) 1 = true ∧ num y (m + 1) 1 = num y m d + 1 := by
  have hm' := vld_m h
  rw [vld_iff] at h ⊢
  have a := len_28 y (m + 1) (by omega) (by omega)
  have b := cum_succ y m hm'.1 hm'.2
  exact ⟨by omega, by unfold num; omega⟩
theorem next_year {y d : Int} (h : vldB y 12 d = true) (hl : len y 12 ≤ d) (hn : num y 12 d ≤ 2932800) : vldB (y + 1) 1 1 = true ∧ num (y + 1) 1 1 = num y 12 d + 1 := by
  rw [vld_iff] at h ⊢
  have a := len_28 (y + 1) 1 (by omega) (by omega)
  have b := cum_succ y 12 (by omega) (by omega)
  rw [show (12 : Int) + 1 = 13 from rfl, cum_13] at b
  have c := dby_succ y
  have e : num (y + 1) 1 1 = num y 12 d + 1 := by unfold num; rw [cum_one]; omega
  have f : num (y + 1) 1 1 = dby (y + 1) - 719162 := by unfold num; rw [cum_one]; omega
  have g : dby 10000 = 3652059 := by decide
  have i := dby_mono 10000 (y + 1)
  exact ⟨by omega, e⟩
end Cal

theorem of_at {y m d n : Int} (hv : vldB y m d = true) (hn : num y m d = n) (w : World) (hT : Tab w) :
    Calls Tryd.prog 10 #[.int .i64 n] w fun e w' => e = .returned (.tuple #[.agg #[.int .i64 y, .int .i64 m, .int .i64 d], .int .i64 0]) ∧ Turn [] w w' := by
  have hb := num_bd hv
  refine (of_yes n w hT (by omega) (by omega)).mono ?_
  rintro e w' ⟨y', m', d', rfl, hv', hn', hT'⟩
  obtain ⟨rfl, rfl, rfl⟩ := num_inj hv hv' (hn.trans hn'.symm)
  exact ⟨rfl, hT'⟩
theorem number_at {y m d n : Int} (hv : vldB y m d = true) (hn : num y m d = n) (w : World) (hT : Tab w) :
    Calls Tryd.prog 12 #[.agg #[.int .i64 y, .int .i64 m, .int .i64 d]] w fun e w' => e = .returned (.tuple #[.int .i64 n, .int .i64 0]) ∧ Turn [] w w' := by
  subst hn; exact number_yes y m d w hT hv

set_option maxRecDepth 100000 in
set_option maxHeartbeats 1000000 in
theorem known_any (w : World) (hT : Tab w) : Calls Tryd.prog 9 #[] w fun e w' => e = .returned (.bool true) ∧ Turn [] w w' := by
  have HT := hide hT
  clear hT
  go_enter Tryd.func9, Tryd.ntmps9
  go_wp2_with fail
  refine (of_at (y := 1969) (m := 12) (d := 31) (n := -1) (by decide) (by decide) w HT.out).mono ?_
  rintro e w1 ⟨rfl, hT1⟩
  have HT1 := hide hT1
  clear hT1
  go_wp2_with fail
  refine (number_at (y := 2000) (m := 2) (d := 29) (n := 11016) (by decide) (by decide) _ ((HT.out.turn HT1.out).turn ((Turn.refl [] _).alloc _))).mono ?_
  rintro e w2 ⟨rfl, hT2⟩
  have hD := (DateAt.new w1 1969 12 31 23).turn hT2
  have HT2 := hide hT2
  obtain ⟨c0, c1, c2, -⟩ := hD
  clear hT2
  go_wp2_with fail
  go_ret
  exact ⟨rfl, (HT1.out.alloc _).trans HT2.out⟩
end Go.Proofs.YteeffhgafnapfaaDoor
