/-
  CivilDates, walked.
-/
import Derived.Test.YteeffhgafnapfaaDoorLaw
import Derived.Test.YteeffhgafnapfaaDoorRNum
namespace Go.Proofs.YteeffhgafnapfaaDoor
open Go.RowKit Cal

/-- What Of answers, program and reference alike. -/
theorem of_both (n : Int) : ∃ y m d e : Int, (∀ w, Tab w → Calls Tryd.prog 10 #[.int .i64 n] w fun x w' => x = .returned (.tuple #[.agg #[.int .i64 y, .int .i64 m, .int .i64 d], .int .i64 e]) ∧ Turn [] w w')
    ∧ ∀ w, Calls Tryd.prog 11 #[.int .i64 n] w fun x w' => x = .returned (.tuple #[.agg #[.int .i64 y, .int .i64 m, .int .i64 d], .int .i64 e]) ∧ Turn [] w w' := by
  by_cases h : n < -719162 ∨ 2932896 < n
  · exact ⟨0, 0, 0, 1, fun w _ => of_no n w h, fun w => rof_no n w h⟩
  · obtain ⟨y, m, d, hv, hn⟩ := date_of n (by omega) (by omega)
    refine ⟨y, m, d, 0, fun w hT => of_at hv hn w hT, fun w => (rof_yes n w (by omega) (by omega)).mono ?_⟩
    rintro e w' ⟨y', m', d', rfl, hv', hn', hT'⟩
    obtain ⟨rfl, rfl, rfl⟩ := num_inj hv hv' (hn.trans hn'.symm)
    exact ⟨rfl, hT'⟩
theorem num_both (y m d : Int) : ∃ n e : Int, (∀ w, Tab w → Calls Tryd.prog 12 #[.agg #[.int .i64 y, .int .i64 m, .int .i64 d]] w fun x w' => x = .returned (.tuple #[.int .i64 n, .int .i64 e]) ∧ Turn [] w w')
    ∧ ∀ w, Calls Tryd.prog 13 #[.agg #[.int .i64 y, .int .i64 m, .int .i64 d]] w fun x w' => x = .returned (.tuple #[.int .i64 n, .int .i64 e]) ∧ Turn [] w w' := by
  cases h : vldB y m d with
  | true => exact ⟨_, 0, fun w hT => number_yes y m d w hT h, fun w => rnumber_yes y m d w h⟩
  | false => exact ⟨0, 1, fun w hT => number_no y m d w hT h, fun w => rnumber_no y m d w h⟩

set_option maxRecDepth 100000 in
set_option maxHeartbeats 2000000 in
theorem dates_any (n y m d : Int) (w : World) (hT : Tab w) : Calls Tryd.prog 3 #[.int .i64 n, .agg #[.int .i64 y, .int .i64 m, .int .i64 d]] w fun e w' => e = .returned (.bool true) ∧ Turn [] w w' := by
  have HT := hide hT
  clear hT
  obtain ⟨y2, m2, d2, e2, o1, o2⟩ := of_both n
  obtain ⟨n3, e3, p1, p2⟩ := num_both y m d
  have HO1 := hide o1
  have HO2 := hide o2
  have HP1 := hide p1
  have HP2 := hide p2
  clear o1 o2 p1 p2
  go_enter Tryd.func3, Tryd.ntmps3
  go_wp2_with fail
  have HD1 := hide (DateAt.new w y m d 23)
  have HT1 := hide ((Turn.refl [] w).alloc (.cells #[.int .i64 y, .int .i64 m, .int .i64 d] 23))
  generalize w.alloc (.cells #[.int .i64 y, .int .i64 m, .int .i64 d] 23) = w1 at *
  generalize w.heap.size = g at *
  refine (known_any _ (HT.out.turn HT1.out)).mono ?_
  rintro e w2 ⟨rfl, hT2⟩
  have HD2 := hide (HD1.out.turn hT2)
  have HT2 := hide (HT1.out.trans hT2)
  clear hT2 HD1 HT1
  go_wp2_with fail
  refine (HO1.out _ (HT.out.turn HT2.out)).mono ?_
  rintro e w3 ⟨rfl, hT3⟩
  have HA3 := hide (DateAt.new w3 y2 m2 d2 23)
  have HD3 := hide ((HD2.out.turn hT3).turn ((Turn.refl [] w3).alloc (.cells #[.int .i64 y2, .int .i64 m2, .int .i64 d2] 23)))
  have HT3 := hide ((HT2.out.trans hT3).alloc (.cells #[.int .i64 y2, .int .i64 m2, .int .i64 d2] 23))
  clear hT3 HD2 HT2
  go_wp2_with fail
  generalize w3.alloc (.cells #[.int .i64 y2, .int .i64 m2, .int .i64 d2] 23) = w4 at *
  generalize w3.heap.size = ga at *
  refine (HO2.out _).mono ?_
  rintro e w5 ⟨rfl, hT5⟩
  have HE5 := hide (DateAt.new w5 y2 m2 d2 23)
  have HA5 := hide ((HA3.out.turn hT5).turn ((Turn.refl [] w5).alloc (.cells #[.int .i64 y2, .int .i64 m2, .int .i64 d2] 23)))
  have HD5 := hide ((HD3.out.turn hT5).turn ((Turn.refl [] w5).alloc (.cells #[.int .i64 y2, .int .i64 m2, .int .i64 d2] 23)))
  have HT5 := hide ((HT3.out.trans hT5).alloc (.cells #[.int .i64 y2, .int .i64 m2, .int .i64 d2] 23))
  have hg5 := (HD3.out.turn hT5).lt
  obtain ⟨c0, c1, c2, -⟩ := HD3.out.turn hT5
  clear hT5 HD3 HA3 HT3
  go_wp2_with fail
  clear c0 c1 c2
  generalize w5.alloc (.cells #[.int .i64 y2, .int .i64 m2, .int .i64 d2] 23) = w6 at *
  generalize w5.heap.size = gb at *
  refine (HP1.out _ (HT.out.turn HT5.out)).mono ?_
  rintro e w7 ⟨rfl, hT7⟩
  have HE7 := hide (HE5.out.turn hT7)
  have HA7 := hide (HA5.out.turn hT7)
  have HD7 := hide (HD5.out.turn hT7)
  have HT7 := hide (HT5.out.trans hT7)
  obtain ⟨c0, c1, c2, -⟩ := HD5.out.turn hT7
  clear hT7 HD5 HA5 HT5 HE5
  go_wp2_with fail
  refine (HP2.out _).mono ?_
  rintro e w8 ⟨rfl, hT8⟩
  clear c0 c1 c2
  obtain ⟨c0, c1, c2, -⟩ := HD7.out.turn hT8
  obtain ⟨a0, a1, a2, -⟩ := HA7.out.turn hT8
  obtain ⟨b0, b1, b2, -⟩ := HE7.out.turn hT8
  have HT8 := hide (HT7.out.trans hT8)
  have HB8 := hide (HT.out.turn HT8.out)
  clear hT8 HD7 HA7 HT7 HE7
  go_wp2_with fail
  go_quiet (first | (go_at_call 14; exact Calls.quiet_of_same (leap_any y _)) | (go_at_call 15; exact Calls.quiet_of_same (rleap_any y _)) | (go_at_call 16; exact Calls.quiet_of_same (length_any y m _ (HB8.out.turn ((Turn.refl [] _).drewN _)))) | (go_at_call 17; exact Calls.quiet_of_same (rlength_any y m _)))
  go_wp2_with fail
  go_ret
  exact ⟨by simp, HT8.out.drewN _⟩
end Go.Proofs.YteeffhgafnapfaaDoor
