/-
  LotsEnds, walked.
-/
import Derived.Test.YtegbinlpojpffabLKnown
import Derived.Test.YtegbinlpojpffabLUse
import Derived.Test.YtegbinlpojpffabLLeft
namespace Go.Proofs.Ytegbinlpojpffab
open Go.RowKit Go.Maps Lo

namespace Lo
/-- The one lot. -/
def oneL (n u : Int) : List Lt := [⟨4, 0, 0, u, n + 5, 0, 0, 0, 0⟩]
theorem oneL_turned {n u : Int} (hn : 1 ≤ n) (hu : 10 ≤ u) : Turned (oneL n u) 1 [0] := by
  refine ⟨by simp, fun i => ⟨fun h => ?_, fun h => ?_⟩⟩
  · obtain rfl : i = 0 := by simpa using h
    refine ⟨by simp [oneL], ?_⟩
    simp [oneL, can, vld, rest]
    omega
  · have := h.1
    simp [oneL] at this
    simp [this]
theorem oneL_tk {n u : Int} {is : List Nat} (hn : 1 ≤ n) (hu : 10 ≤ u) (h : Turned (oneL n u) 1 is) : tk (oneL n u) is n [] = ([⟨4, 0, 0, u, n + 5, 0, n, 0, 0⟩], [(4, n)], 0) := by
  rw [h.unique (oneL_turned hn hu), tk_cons _ _ _ _ _ (by omega)]
  have e : min (rest ((oneL n u).getD 0 Lt.nil)) n = n := by simp [oneL, rest]; omega
  rw [e, Int.sub_self, tk_stop _ _ _ _ (Int.le_refl 0)]
  simp [oneL, hold]
theorem oneL_us {n u t m : Int} (_h0 : 0 ≤ m) (h1 : m ≤ n) : us t [⟨4, 0, 0, u, n + 5, 0, n, 0, 0⟩] [(4, n)] m = ([⟨4, 0, 0, u, n + 5, m, 0, if u ≤ t then n - m else 0, 0⟩], 0) := by
  have e : min n m = m := by omega
  simp [us, ix, endp, e]
theorem oneL_rises (n u : Int) : Rises (oneL n u) := by
  intro i j hij hj
  simp [oneL] at hj
  omega
theorem oneL_bd {n u c h e : Int} (hn : 0 ≤ n ∧ n ≤ 1001) (hu : 0 ≤ u ∧ u ≤ 100) (hc : 0 ≤ c ∧ c ≤ 1001) (hh : 0 ≤ h ∧ h ≤ 1001) (he : 0 ≤ e ∧ e ≤ 1001) : Bds 1000000 [(⟨4, 0, 0, u, n + 5, c, h, e, 0⟩ : Lt)] := by
  intro x hx
  simp at hx
  subst hx
  exact ⟨by simp only; omega, by simp only; omega, by simp only; omega, by simp only; omega, by simp only; omega, by simp only; omega, by simp only; omega, by simp only; omega⟩
end Lo

set_option maxRecDepth 100000 in
set_option maxHeartbeats 4000000 in
theorem ends_any (n0 m0 u0 t0 : Int) (w : World) :
    Calls Try.prog 5 #[.int .i64 n0, .int .i64 m0, .int .i64 u0, .int .i64 t0] w fun e w' => e = .returned (.bool true) ∧ Turn [] w w' := by
  go_enter Try.func5, Try.ntmps5
  go_wp2_with fail
  refine (known_any w).mono ?_
  rintro e w1 ⟨rfl, hT1⟩
  have HT1 := hide hT1
  clear hT1
  go_wp2_with fail
  refine (within_any _ _ _ (by omega) (by omega)).mono ?_
  rintro e w1 ⟨rfl, rfl⟩
  obtain ⟨n1, hn1⟩ : ∃ n1, n1 = n0 % 1000 := ⟨_, rfl⟩
  rw [← hn1]
  have hn2 : 0 ≤ n1 ∧ n1 < 1000 := by omega
  clear hn1
  go_wp2_with fail
  refine (within_any _ _ _ (by omega) (by omega)).mono ?_
  rintro e w1 ⟨rfl, rfl⟩
  have hm2 : 0 ≤ m0 % (1 + n1 + 1) ∧ m0 % (1 + n1 + 1) < 1 + n1 + 1 := ⟨Int.emod_nonneg _ (by omega), Int.emod_lt_of_pos _ (by omega)⟩
  generalize m0 % (1 + n1 + 1) = m at *
  go_wp2_with fail
  refine (within_any _ _ _ (by omega) (by omega)).mono ?_
  rintro e w1 ⟨rfl, rfl⟩
  obtain ⟨u1, hu1⟩ : ∃ u1, u1 = u0 % 20 := ⟨_, rfl⟩
  rw [← hu1]
  have hu2 : 0 ≤ u1 ∧ u1 < 20 := by omega
  clear hu1
  go_wp2_with fail
  refine (within_any _ _ _ (by omega) (by omega)).mono ?_
  rintro e w1 ⟨rfl, rfl⟩
  obtain ⟨t1, ht1⟩ : ∃ t1, t1 = t0 % 30 := ⟨_, rfl⟩
  rw [← ht1]
  have ht2 : 0 ≤ t1 ∧ t1 < 30 := by omega
  clear ht1
  have HL0 : Hid (LotsIn (w1.alloc (.cells (flatL (oneL (1 + n1) (10 + u1))).toArray 35)) w1.heap.size 0 (oneL (1 + n1) (10 + u1))) := lotsIn_src fun j u hj => by
    rw [Nat.zero_add, World.cell?_alloc_at _ _ _ _ rfl]
    simpa using hj
  have HT2 := hide (HT1.out.alloc (.cells (flatL (oneL (1 + n1) (10 + u1))).toArray 35))
  go_wp2_with fail
  simp only [flatL, oneL, lotC, List.cons_append, List.nil_append] at HT2 HL0
  generalize w1.alloc _ = w2 at *
  generalize w1.heap.size = b1 at *
  refine (take_any (some ⟨b1, 0, none⟩) 1 (oneL (1 + n1) (10 + u1)) (1 + n1) 1 w2 (oneL_rises _ _) (by simp [oneL]) ((oneL_bd (by omega) (by omega) (by omega) (by omega) (by omega)).h (by omega)) HL0.out.at (fun h => by cases h) (by omega) (by omega)).mono ?_
  rintro e w3 ⟨is, g, L, P, N, pa, pc, hTd, htk, rfl, hLl, _, _, hO3, hP, _, _, hpc1, hpc2, _, hT3⟩
  rw [oneL_tk (by omega) (by omega) hTd] at htk
  obtain ⟨rfl, rfl, rfl⟩ : L = [⟨4, 0, 0, 10 + u1, 1 + n1 + 5, 0, 1 + n1, 0, 0⟩] ∧ P = [(4, 1 + n1)] ∧ N = 0 := by
    simp only [Prod.mk.injEq] at htk
    exact ⟨htk.1.symm, htk.2.1.symm, htk.2.2.symm⟩
  have HT3 := hide (HT2.out.trans hT3)
  have HO3 := hide hO3
  have HP := hide hP
  clear hTd htk hT3 hP hO3 hLl HL0 HT2 HT1
  go_wp2_with fail
  refine (use_any (some ⟨g, 0, none⟩) 1 [⟨4, 0, 0, 10 + u1, 1 + n1 + 5, 0, 1 + n1, 0, 0⟩] pa pc [(4, 1 + n1)] m (10 + t1) w3 (by simp) ((oneL_bd (by omega) (by omega) (by omega) (by omega) (by omega)).mono (by omega)) HO3.out.at (fun h => by cases h) HP.out (by simp) (fun x hx => by simp at hx; subst hx; simp only; omega) (by omega) (by omega)).mono ?_
  rintro e w4 ⟨g4, L4, N4, hus, rfl, hL4, _, hO4, hT4⟩
  rw [oneL_us (by omega) (by omega)] at hus
  obtain ⟨rfl, rfl⟩ : L4 = [⟨4, 0, 0, 10 + u1, 1 + n1 + 5, m, 0, if 10 + u1 ≤ 10 + t1 then 1 + n1 - m else 0, 0⟩] ∧ N4 = 0 := by
    simp only [Prod.mk.injEq] at hus
    exact ⟨hus.1.symm, hus.2.symm⟩
  have HT4 := hide (HT3.out.trans hT4)
  clear hus hT4 hL4 HT3 HO3 HP
  by_cases ho : 10 + u1 ≤ 10 + t1
  · rw [if_pos ho] at hO4
    have HO4 := hide hO4
    have hx := hO4.lots 0 (by simp)
    simp only [Nat.zero_add, Nat.zero_mul, List.getD_cons_zero] at hx
    have hg4 := hO4.lt
    obtain ⟨c0, c1, c2, c3, c4, c5, c6, c7, c8⟩ := hx
    simp only [Nat.zero_add] at c0 c1 c2 c3 c4 c5 c6 c7 c8
    have HLf := fun w h => hide (left_any (some ⟨g4, 0, none⟩) 1 [⟨4, 0, 0, 10 + u1, 1 + n1 + 5, m, 0, 1 + n1 - m, 0⟩] (10 + t1) w (by simp) ((oneL_bd (by omega) (by omega) (by omega) (by omega) (by omega)).mono (by omega)) h)
    have HRs := fun w => hide (rest_any ⟨4, 0, 0, 10 + u1, 1 + n1 + 5, m, 0, 1 + n1 - m, 0⟩ w ⟨by simp only; omega, by simp only; omega, by simp only; omega, by simp only; omega, by simp only; omega⟩)
    have e1 : rest ⟨4, 0, 0, 10 + u1, 1 + n1 + 5, m, 0, 1 + n1 - m, 0⟩ = 5 := by unfold rest; simp only; omega
    have e2 : lf (10 + t1) [⟨4, 0, 0, 10 + u1, 1 + n1 + 5, m, 0, 1 + n1 - m, 0⟩] = 0 := by
      have : vld ⟨4, 0, 0, 10 + u1, 1 + n1 + 5, m, 0, 1 + n1 - m, 0⟩ (10 + t1) = false := by unfold vld; simp; omega
      simp [lf, this]
    rw [e1] at HRs
    rw [e2] at HLf
    clear e1 e2 hO4
    go_wp2_with fail
    refine (HRs _).out.mono ?_
    rintro e w5 ⟨rfl, hT5⟩
    have HT5 := hide (HT4.out.trans hT5)
    have HO5 := hide (HO4.out.turn hT5 (by simp))
    clear hT5
    go_wp2_with fail
    refine (HLf _ HO5.out.at).out.mono ?_
    rintro e w6 ⟨rfl, hT6⟩
    have HT6 := hide (HT5.out.trans hT6)
    clear hT6
    go_wp2_with fail
    go_ret
    exact ⟨rfl, HT6.out⟩
  · rw [if_neg ho] at hO4
    have HO4 := hide hO4
    have hx := hO4.lots 0 (by simp)
    simp only [Nat.zero_add, Nat.zero_mul, List.getD_cons_zero] at hx
    have hg4 := hO4.lt
    obtain ⟨c0, c1, c2, c3, c4, c5, c6, c7, c8⟩ := hx
    simp only [Nat.zero_add] at c0 c1 c2 c3 c4 c5 c6 c7 c8
    have HLf := fun w h => hide (left_any (some ⟨g4, 0, none⟩) 1 [⟨4, 0, 0, 10 + u1, 1 + n1 + 5, m, 0, 0, 0⟩] (10 + t1) w (by simp) ((oneL_bd (by omega) (by omega) (by omega) (by omega) (by omega)).mono (by omega)) h)
    have HRs := fun w => hide (rest_any ⟨4, 0, 0, 10 + u1, 1 + n1 + 5, m, 0, 0, 0⟩ w ⟨by simp only; omega, by simp only; omega, by simp only; omega, by simp only; omega, by simp only; omega⟩)
    have e1 : rest ⟨4, 0, 0, 10 + u1, 1 + n1 + 5, m, 0, 0, 0⟩ = 1 + n1 - m + 5 := by unfold rest; simp only; omega
    have e2 : lf (10 + t1) [⟨4, 0, 0, 10 + u1, 1 + n1 + 5, m, 0, 0, 0⟩] = 1 + n1 - m + 5 := by
      have : vld ⟨4, 0, 0, 10 + u1, 1 + n1 + 5, m, 0, 0, 0⟩ (10 + t1) = true := by unfold vld; simp; omega
      simp only [lf, this, if_true, e1]
      omega
    rw [e1] at HRs
    rw [e2] at HLf
    clear e1 e2 hO4
    go_wp2_with fail
    refine (HRs _).out.mono ?_
    rintro e w5 ⟨rfl, hT5⟩
    have HT5 := hide (HT4.out.trans hT5)
    have HO5 := hide (HO4.out.turn hT5 (by simp))
    clear hT5
    go_wp2_with fail
    refine (HLf _ HO5.out.at).out.mono ?_
    rintro e w6 ⟨rfl, hT6⟩
    have HT6 := hide (HT5.out.trans hT6)
    clear hT6
    go_wp2_with fail
    go_ret
    exact ⟨rfl, HT6.out⟩

end Go.Proofs.Ytegbinlpojpffab
