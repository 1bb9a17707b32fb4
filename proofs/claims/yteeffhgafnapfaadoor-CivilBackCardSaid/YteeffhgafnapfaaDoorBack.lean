/-
  CivilBack, walked.
-/
import Derived.Test.YteeffhgafnapfaaDoorLaw
import Derived.Deep.Cut
namespace Go.Proofs.YteeffhgafnapfaaDoor
open Go.RowKit Cal

set_option maxRecDepth 100000 in
set_option maxHeartbeats 2000000 in
theorem back_any (a : Int) (w : World) (hT : Tab w) : Calls Tryd.prog 4 #[.int .i64 a] w fun e w' => e = .returned (.bool true) ∧ Turn [] w w' := by
  have HT := hide hT
  clear hT
  obtain ⟨n, hn⟩ : ∃ n, n = a % 3651900 - 719100 := ⟨_, rfl⟩
  have hb1 : -719100 ≤ n ∧ n ≤ 2932799 := by omega
  obtain ⟨y, m, d, hv, hnum⟩ := date_of n (by omega) (by omega)
  obtain ⟨hm1, hm2⟩ := vld_m hv
  obtain ⟨⟨hy1, hy2⟩, hd1, hd2⟩ := vld_iff.1 hv
  have hl31 := (len_bd y m).2
  have hnext : ∃ y2 m2 d2 : Int, (vldB y2 m2 d2 = true ∧ num y2 m2 d2 = n + 1) ∧ (d < len y m ∧ y2 = y ∧ m2 = m ∧ d2 = d + 1 ∨ len y m ≤ d ∧ m < 12 ∧ y2 = y ∧ m2 = m + 1 ∧ d2 = 1 ∨ len y m ≤ d ∧ m = 12 ∧ y2 = y + 1 ∧ m2 = 1 ∧ d2 = 1) := by
    subst hnum
    rcases Int.lt_or_le d (len y m) with hl | hl
    · exact ⟨_, _, _, next_day hv hl, .inl ⟨hl, rfl, rfl, rfl⟩⟩
    · rcases Int.lt_or_le m 12 with hm | hm
      · exact ⟨_, _, _, next_month hv hl hm, .inr (.inl ⟨hl, hm, rfl, rfl, rfl⟩)⟩
      · obtain rfl : m = 12 := by omega
        exact ⟨_, _, _, next_year hv hl (by omega), .inr (.inr ⟨hl, rfl, rfl, rfl, rfl⟩)⟩
  obtain ⟨y2, m2, d2, hv2, hcase⟩ := hnext
  have HV2 := hide hv2
  have HCase := hide hcase
  clear hv2 hcase
  have HV := hide (And.intro hv hnum)
  have HN := hide hn
  clear hv hnum hn
  go_enter Tryd.func4, Tryd.ntmps4
  go_wp2_with fail
  refine (known_any _ HT.out).mono ?_
  rintro e w1 ⟨rfl, hT1⟩
  have HT1 := hide hT1
  clear hT1
  go_wp2_with fail
  refine (within_any _ _ _ (by omega) (by omega)).mono ?_
  rintro e w1' ⟨rfl, rfl⟩
  have hm0 : 0 ≤ a % 3651900 := by omega
  have hm9 : a % 3651900 < 3651900 := by omega
  go_wp2_with fail
  rw [← HN.out]
  clear hm0 hm9
  refine (of_at HV.out.1 HV.out.2 _ (HT.out.turn HT1.out)).mono ?_
  rintro e w2 ⟨rfl, hT2⟩
  have HT2 := hide (HT1.out.trans hT2)
  clear hT2 HT1
  go_wp2_with fail
  refine (number_at HV.out.1 HV.out.2 _ ((HT.out.turn HT2.out).turn ((Turn.refl [] _).alloc _))).mono ?_
  rintro e w3 ⟨rfl, hT3⟩
  have HD3 := hide ((DateAt.new w2 y m d 23).turn hT3)
  have HT3 := hide ((HT2.out.alloc _).trans hT3)
  have hk : w.heap.size ≤ w2.heap.size := HT2.out.size
  clear hT3 HT2
  generalize w2.heap.size = k at *
  go_wp2_with fail
  refine (of_at HV2.out.1 HV2.out.2 _ (HT.out.turn HT3.out)).mono ?_
  rintro e w4 ⟨rfl, hT4⟩
  have HD4 := hide (HD3.out.turn hT4)
  have HT4 := hide (HT3.out.trans hT4)
  have hkj : k < w4.heap.size := HD4.out.lt
  clear hT4 HT3 HD3
  obtain ⟨c0, c1, c2, fz⟩ := HD4.out
  have fz2 := fz 2
  clear fz
  go_wp2_with fail
  have HD5 := hide ((HD4.out.set2 (d + 1)).turn ((Turn.refl [] _).alloc (.cells #[.int .i64 y2, .int .i64 m2, .int .i64 d2] 23)))
  have HE5 := hide (DateAt.new (w4.setCell ⟨k, 2, none⟩ (.int .i64 (d + 1))) y2 m2 d2 23)
  rw [World.size_setCell] at HE5
  have HT5 := hide ((HT4.out.setNew hk 2 (.int .i64 (d + 1))).alloc (.cells #[.int .i64 y2, .int .i64 m2, .int .i64 d2] 23))
  have HB5 := hide (HT.out.turn HT5.out)
  generalize (w4.setCell ⟨k, 2, none⟩ (.int .i64 (d + 1))).alloc (.cells #[.int .i64 y2, .int .i64 m2, .int .i64 d2] 23) = w5 at *
  generalize w4.heap.size = j at *
  clear c0 c1 c2 fz2 HD4 HT4
  obtain ⟨c0, c1, c2, -⟩ := HD5.out
  have h31 := hl31
  rcases HCase.out with ⟨h1, rfl, rfl, rfl⟩ | ⟨h1, hm, rfl, rfl, rfl⟩ | ⟨h1, rfl, rfl, rfl, rfl⟩
  · have dl : decide (len y2 m2 < d + 1) = false := by simp; omega
    go_quiet ((go_at_call 16; exact Calls.quiet_of_same (length_any y2 m2 _ (HB5.out.turn ((Turn.refl [] _).drewN _)))))
    have HD6 := hide (HD5.out.turn ((Turn.refl [] w5).drewN nq))
    have HE6 := hide (HE5.out.turn ((Turn.refl [] w5).drewN nq))
    have HT6 := hide (HT5.out.drewN nq)
    generalize w5.drewN nq = w6 at *
    clear c0 c1 c2
    obtain ⟨c0, c1, c2, -⟩ := HD6.out
    obtain ⟨b0, b1, b2, -⟩ := HE6.out
    have hm13 : (m2 == 13) = false := by simp; omega
    go_wp2_with fail
    go_ret
    exact ⟨by simp, HT6.out⟩
  · have dl : decide (len y2 m < d + 1) = true := by simp; omega
    go_quiet ((go_at_call 16; exact Calls.quiet_of_same (length_any y2 m _ (HB5.out.turn ((Turn.refl [] _).drewN _)))))
    have HD6 := hide (HD5.out.turn ((Turn.refl [] w5).drewN nq))
    have HE6 := hide (HE5.out.turn ((Turn.refl [] w5).drewN nq))
    have HT6 := hide (HT5.out.drewN nq)
    generalize w5.drewN nq = w6 at *
    clear c0 c1 c2
    obtain ⟨c0, c1, c2, fz⟩ := HD6.out
    obtain ⟨b0, b1, b2, -⟩ := HE6.out
    have fz0 := fz 0
    have fz1 := fz 1
    have fz2 := fz 2
    clear fz
    have hm13 : (m + 1 == 13) = false := by simp; omega
    have hne : j ≠ k := by omega
    go_wp2_with fail
    go_ret
    exact ⟨by simp, (HT6.out.setNew hk 2 _).setNew hk 1 _⟩
  · have dl : decide (len y 12 < d + 1) = true := by simp; omega
    go_quiet ((go_at_call 16; exact Calls.quiet_of_same (length_any y 12 _ (HB5.out.turn ((Turn.refl [] _).drewN _)))))
    have HD6 := hide (HD5.out.turn ((Turn.refl [] w5).drewN nq))
    have HE6 := hide (HE5.out.turn ((Turn.refl [] w5).drewN nq))
    have HT6 := hide (HT5.out.drewN nq)
    generalize w5.drewN nq = w6 at *
    clear c0 c1 c2
    obtain ⟨c0, c1, c2, fz⟩ := HD6.out
    obtain ⟨b0, b1, b2, -⟩ := HE6.out
    have fz0 := fz 0
    have fz1 := fz 1
    have fz2 := fz 2
    clear fz
    have hne : j ≠ k := by omega
    go_upto_if 64 with fail
    have HD7 := hide ((HD6.out.set2 1).set1 13)
    have HE7 := hide ((HE6.out.keep (Below.heap_setCell w6 ⟨k, 2, none⟩ (.int .i64 1) j (fun e => hne e))).keep (Below.heap_setCell _ ⟨k, 1, none⟩ (.int .i64 13) j (fun e => hne e)))
    have HT7 := hide ((HT6.out.setNew hk 2 (.int .i64 1)).setNew hk 1 (.int .i64 13))
    generalize (w6.setCell ⟨k, 2, none⟩ (.int .i64 1)).setCell ⟨k, 1, none⟩ (.int .i64 13) = w7 at *
    clear c0 c1 c2 b0 b1 b2 fz0 fz1 fz2
    obtain ⟨c0, c1, c2, fz⟩ := HD7.out
    obtain ⟨b0, b1, b2, -⟩ := HE7.out
    have fz0 := fz 0
    have fz1 := fz 1
    clear fz
    go_wp2_with fail
    go_ret
    exact ⟨by simp, (HT7.out.setNew hk 1 _).setNew hk 0 _⟩

end Go.Proofs.YteeffhgafnapfaaDoor
