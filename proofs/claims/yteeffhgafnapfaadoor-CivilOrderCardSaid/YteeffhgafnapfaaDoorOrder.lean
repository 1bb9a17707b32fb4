/-
  CivilOrder, walked.
-/
import Derived.Test.YteeffhgafnapfaaDoorLaw
namespace Go.Proofs.YteeffhgafnapfaaDoor
open Go.RowKit Cal

set_option maxRecDepth 100000 in
set_option maxHeartbeats 2000000 in
theorem order_any (a b : Int) (w : World) (hT : Tab w) : Calls Tryd.prog 6 #[.int .i64 a, .int .i64 b] w fun e w' => e = .returned (.bool true) ∧ Turn [] w w' := by
  have HT := hide hT
  clear hT
  obtain ⟨n, hn⟩ : ∃ n, n = a % 3651900 - 719100 := ⟨_, rfl⟩
  obtain ⟨n2, hn2⟩ : ∃ n, n = b % 3651900 - 719100 := ⟨_, rfl⟩
  have hb1 : -719100 ≤ n ∧ n ≤ 2932799 := by omega
  have hb2 : -719100 ≤ n2 ∧ n2 ≤ 2932799 := by omega
  obtain ⟨y, m, d, hv, hnum⟩ := date_of n (by omega) (by omega)
  obtain ⟨y2, m2, d2, hv2, hnum2⟩ := date_of n2 (by omega) (by omega)
  have HI := hide (num_iff hv hv2)
  have HJ := hide (num_inj hv hv2)
  have HV := hide (And.intro hv hnum)
  have HV2 := hide (And.intro hv2 hnum2)
  have HN := hide hn
  have HN2 := hide hn2
  clear hv hnum hn hv2 hnum2 hn2
  go_enter Tryd.func6, Tryd.ntmps6
  go_wp2_with fail
  refine (known_any _ HT.out).mono ?_
  rintro e w1 ⟨rfl, hT1⟩
  have HT1 := hide hT1
  clear hT1
  go_wp2_with fail
  refine (within_any _ _ _ (by omega) (by omega)).mono ?_
  rintro e w1' ⟨rfl, rfl⟩
  have hm0 : 0 ≤ a % 3651900 := by omega
  have hm9 : a % 3651900 < 3651900 := by omega
  go_wp2_with fail
  refine (within_any _ _ _ (by omega) (by omega)).mono ?_
  rintro e w1'' ⟨rfl, rfl⟩
  have hm0' : 0 ≤ b % 3651900 := by omega
  have hm9' : b % 3651900 < 3651900 := by omega
  go_wp2_with fail
  rw [← HN.out, ← HN2.out]
  clear hm0 hm9 hm0' hm9'
  refine (of_at HV.out.1 HV.out.2 _ (HT.out.turn HT1.out)).mono ?_
  rintro e w2 ⟨rfl, hT2⟩
  have HD2 := hide (DateAt.new w2 y m d 23)
  have HT2 := hide ((HT1.out.trans hT2).alloc (.cells #[.int .i64 y, .int .i64 m, .int .i64 d] 23))
  clear hT2 HT1
  go_wp2_with fail
  generalize w2.alloc (.cells #[.int .i64 y, .int .i64 m, .int .i64 d] 23) = w3 at *
  generalize w2.heap.size = k at *
  refine (of_at HV2.out.1 HV2.out.2 _ (HT.out.turn HT2.out)).mono ?_
  rintro e w4 ⟨rfl, hT4⟩
  have HD4 := hide (HD2.out.turn hT4)
  have hkj : k < w4.heap.size := HD4.out.lt
  have HT4 := hide ((HT2.out.trans hT4).alloc (.cells #[.int .i64 y2, .int .i64 m2, .int .i64 d2] 23))
  clear hT4 HT2 HD2
  obtain ⟨c0, c1, c2, -⟩ := HD4.out
  have hw : (y < y2 ∨ y = y2 ∧ (m < m2 ∨ m = m2 ∧ d < d2)) ↔ n < n2 := by have a := HI.out; rw [HV.out.2, HV2.out.2] at a; exact a
  have hj : (y = y2 ∧ m = m2 ∧ d = d2) ↔ n = n2 := by
    constructor
    · rintro ⟨rfl, rfl, rfl⟩; exact HV.out.2.symm.trans HV2.out.2
    · intro e; exact HJ.out (by rw [HV.out.2, HV2.out.2, e])
  clear HI HJ HV HV2 HD4
  by_cases g1 : y < y2
  · have e1 : decide (n < n2) = true := by simp; omega
    have e2 : (n == n2) = false := by simp; omega
    have f1 : decide (y < y2) = true := by simpa using g1
    have f2 : (y == y2) = false := by simp; omega
    clear hw hj g1
    go_wp2_with fail
    go_ret
    exact ⟨by simp, HT4.out⟩
  by_cases g2 : y = y2
  · subst g2
    by_cases g3 : m < m2
    · have e1 : decide (n < n2) = true := by simp; omega
      have e2 : (n == n2) = false := by simp; omega
      have f1 : decide (m < m2) = true := by simpa using g3
      have f2 : (m == m2) = false := by simp; omega
      clear hw hj g1 g3
      go_wp2_with fail
      go_ret
      exact ⟨by simp, HT4.out⟩
    by_cases g4 : m = m2
    · subst g4
      by_cases g5 : d < d2
      · have e1 : decide (n < n2) = true := by simp; omega
        have e2 : (n == n2) = false := by simp; omega
        have f1 : decide (d < d2) = true := by simpa using g5
        have f2 : (d == d2) = false := by simp; omega
        clear hw hj g1 g3 g5
        go_wp2_with fail
        go_ret
        exact ⟨by simp, HT4.out⟩
      by_cases g6 : d = d2
      · subst g6
        obtain rfl : n = n2 := by omega
        clear hw hj g1 g3 g5
        go_wp2_with fail
        go_ret
        exact ⟨by simp, HT4.out⟩
      · have e1 : decide (n < n2) = false := by simp; omega
        have e2 : (n == n2) = false := by simp; omega
        have f1 : decide (d < d2) = false := by simp; omega
        have f2 : (d == d2) = false := by simpa using g6
        clear hw hj g1 g3 g5 g6
        go_wp2_with fail
        go_ret
        exact ⟨by simp, HT4.out⟩
    · have e1 : decide (n < n2) = false := by simp; omega
      have e2 : (n == n2) = false := by simp; omega
      have f1 : decide (m < m2) = false := by simp; omega
      have f2 : (m == m2) = false := by simpa using g4
      clear hw hj g1 g3 g4
      go_wp2_with fail
      go_ret
      exact ⟨by simp, HT4.out⟩
  · have e1 : decide (n < n2) = false := by simp; omega
    have e2 : (n == n2) = false := by simp; omega
    have f1 : decide (y < y2) = false := by simp; omega
    have f2 : (y == y2) = false := by simpa using g2
    clear hw hj g1 g2
    go_wp2_with fail
    go_ret
    exact ⟨by simp, HT4.out⟩
end Go.Proofs.YteeffhgafnapfaaDoor
