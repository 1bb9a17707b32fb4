/-
  Check of program and reference, walked.
-/
import Derived.Test.YtegbinlpojpffaaLChk
namespace Go.Proofs.Ytegbinlpojpffaa
open Go.RowKit Lo

set_option maxRecDepth 100000 in
set_option maxHeartbeats 2000000 in
theorem check_any (a : Option Addr) (cap : Nat) (l : List Lt) (w : World) (hlen : l.length ≤ 9223372036854775807) (hL : LotsAt w a l) :
    Calls Try.prog 10 #[.slice a l.length cap] w fun e w' => e = .returned (.int .i64 (chk l)) ∧ Turn [] w w' := by
  have HL := hide hL
  clear hL
  by_cases hm : 14 < l.length
  · have HC : Hid (chk l = 4) := by unfold chk; rw [Hid, if_pos hm]
    go_enter Try.func10, Try.ntmps10
    go_wp2
    go_ret
    exact ⟨ret_int HC.out.symm, Turn.refl [] w⟩
  · have HC : Hid (chk l = chkFrom 0 l) := by unfold chk; rw [Hid, if_neg hm]
    go_enter Try.func10, Try.ntmps10
    go_wp2
    go_loopw [3, 12] (fun i j wr => ∃ (k : Nat) (id : Int), k ≤ l.length ∧ i = .int .i64 id ∧ j = .int .i64 k ∧ Hid (chkFrom 0 l = chkFrom id (l.drop k)) ∧ Turn [] w wr) (fun _ j _ => l.length - (intOf j).toNat)
    case atStart => exact ⟨0, 0, Nat.zero_le _, rfl, rfl, hide rfl, Turn.refl _ _⟩
    case round =>
      obtain ⟨k, id, hk, rfl, rfl, HF, hT⟩ := hrel
      have HT := hide hT
      clear hT
      by_cases hlt : k < l.length
      · obtain ⟨b, off, rfl, hx⟩ := (HL.out.turn0 HT.out).at hlt
        have HS := hide (chkFrom_drop (id := id) hlt)
        generalize l.getD k Lt.nil = x at *
        have hb := hx.lt
        obtain ⟨c0, c1, c2, c3, c4, c5, c6, c7, c8⟩ := hx
        have HT2 := hide (HT.out.alloc (.cells (lotC x).toArray 29))
        by_cases ho : one id x = 0
        · go_wp2_with fail
          refine (behind_any id x _).mono ?_
          rw [ho]
          rintro e w1 ⟨rfl, hT1⟩
          have hc0 : w1.cell? ⟨wr.heap.size, 0, none⟩ = some (.int .i64 x.id) := (hT1.cell (p := ⟨wr.heap.size, 0, none⟩) (by simp) (by simp)).trans (World.cell?_alloc_at _ _ _ _ rfl)
          have HT3 := hide (HT2.out.trans hT1)
          have HN : Hid (chkFrom 0 l = chkFrom x.id (l.drop (k + 1))) := by rw [Hid, HF.out, HS.out, if_pos ho]
          clear hT1 HS c0 c1 c2 c3 c4 c5 c6 c7 c8 ho HF
          go_wp2
          go_roundw
          case rel => exact ⟨k + 1, x.id, by omega, rfl, by go_num, HN, HT3.out⟩
          case measure => simp [intOf]; omega
        · have HN : Hid (chkFrom 0 l = one id x) := by rw [Hid, HF.out, HS.out, if_neg ho]
          clear HS HF
          go_wp2_with fail
          refine (behind_any id x _).mono ?_
          rintro e w1 ⟨rfl, hT1⟩
          have HT3 := hide (HT2.out.trans hT1)
          generalize one id x = r at *
          have hr : (r != 0) = true := by simpa using ho
          clear hT1 c0 c1 c2 c3 c4 c5 c6 c7 c8 ho
          go_wp2
          go_ret
          exact ⟨ret_int (by rw [HC.out, HN.out]), HT3.out⟩
      · obtain rfl : k = l.length := by omega
        go_wp2
        go_ret
        refine ⟨ret_int ?_, HT.out⟩
        rw [HC.out, HF.out, List.drop_length]
        rfl

set_option maxRecDepth 100000 in
set_option maxHeartbeats 4000000 in
theorem rcheck_any (a : Option Addr) (cap : Nat) (l : List Lt) (w : World) (hlen : l.length ≤ 9223372036854775807) (hL : LotsAt w a l) :
    Calls Try.prog 11 #[.slice a l.length cap] w fun e w' => e = .returned (.int .i64 (chk l)) ∧ Turn [] w w' := by
  have HL := hide hL
  clear hL
  by_cases hm : 14 < l.length
  · have HC : Hid (chk l = 4) := by unfold chk; rw [Hid, if_pos hm]
    go_enter Try.func11, Try.ntmps11
    go_wp2
    go_ret
    exact ⟨ret_int HC.out.symm, Turn.refl [] w⟩
  · have HC : Hid (chk l = chkFrom 0 l) := by unfold chk; rw [Hid, if_neg hm]
    go_enter Try.func11, Try.ntmps11
    go_wp2
    go_loopw [3, 4] (fun i j wr => ∃ (k : Nat) (id : Int), k ≤ l.length ∧ i = .int .i64 id ∧ j = .int .i64 k ∧ Hid (chkFrom 0 l = chkFrom id (l.drop k)) ∧ Turn [] w wr) (fun _ j _ => l.length - (intOf j).toNat)
    case atStart => exact ⟨0, 0, Nat.zero_le _, rfl, rfl, hide rfl, Turn.refl _ _⟩
    case round =>
      obtain ⟨k, id, hk, rfl, rfl, HF, hT⟩ := hrel
      have HT := hide hT
      clear hT
      by_cases hlt : k < l.length
      · obtain ⟨b, off, rfl, hx⟩ := (HL.out.turn0 HT.out).at hlt
        have HS := hide (chkFrom_drop (id := id) hlt)
        generalize l.getD k Lt.nil = x at *
        have hb := hx.lt
        obtain ⟨c0, c1, c2, c3, c4, c5, c6, c7, c8⟩ := hx
        have HT2 := hide (HT.out.alloc (.cells (lotC x).toArray 29))
        have HB : Hid (∀ r, one id x = r → r ≠ 0 → chkFrom 0 l = r) := fun r h1 h2 => by rw [HF.out, HS.out, if_neg (by rw [h1]; exact h2), h1]
        have HG : Hid (one id x = 0 → chkFrom 0 l = chkFrom x.id (l.drop (k + 1))) := fun h => by rw [HF.out, HS.out, if_pos h]
        clear HF HS
        by_cases h1 : x.id ≤ id ∨ 1099511627776 < x.id
        · have HN : Hid (chkFrom 0 l = 1) := HB.out 1 (by unfold one; rw [if_pos h1]) (by omega)
          clear HB HG
          by_cases h2 : x.id ≤ id
          · go_wp2
            go_ret
            exact ⟨ret_int (by rw [HC.out, HN.out]), HT2.out⟩
          · have h3 : 1099511627776 < x.id := by omega
            go_wp2
            go_ret
            exact ⟨ret_int (by rw [HC.out, HN.out]), HT2.out⟩
        · have a1 : id < x.id := by omega
          have a2 : x.id ≤ 1099511627776 := by omega
          by_cases h2 : x.kd < 0 ∨ 2 < x.kd
          · have HN : Hid (chkFrom 0 l = 3) := HB.out 3 (by unfold one; rw [if_neg h1, if_pos h2]) (by omega)
            clear HB HG h1
            by_cases h3 : x.kd < 0
            · go_wp2
              go_ret
              exact ⟨ret_int (by rw [HC.out, HN.out]), HT2.out⟩
            · have h4 : 2 < x.kd := by omega
              go_wp2
              go_ret
              exact ⟨ret_int (by rw [HC.out, HN.out]), HT2.out⟩
          · have a3 : 0 ≤ x.kd := by omega
            have a4 : x.kd ≤ 2 := by omega
            by_cases h3 : x.fr < 0 ∨ x.un ≤ x.fr ∨ 1099511627776 < x.un
            · have HN : Hid (chkFrom 0 l = 1) := HB.out 1 (by unfold one; rw [if_neg h1, if_neg h2, if_pos h3]) (by omega)
              clear HB HG h1 h2
              by_cases h4 : x.fr < 0
              · go_wp2
                go_ret
                exact ⟨ret_int (by rw [HC.out, HN.out]), HT2.out⟩
              · by_cases h5 : x.un ≤ x.fr
                · go_wp2
                  go_ret
                  exact ⟨ret_int (by rw [HC.out, HN.out]), HT2.out⟩
                · have h6 : 1099511627776 < x.un := by omega
                  go_wp2
                  go_ret
                  exact ⟨ret_int (by rw [HC.out, HN.out]), HT2.out⟩
            · have a5 : 0 ≤ x.fr := by omega
              have a6 : x.fr < x.un := by omega
              have a7 : x.un ≤ 1099511627776 := by omega
              have HO : Hid (adds x = false → chkFrom 0 l = 11) := fun h => HB.out 11 (by unfold one; rw [if_neg h1, if_neg h2, if_neg h3, if_neg (by rw [h]; simp)]) (by omega)
              have HY : Hid (adds x = true → chkFrom 0 l = chkFrom x.id (l.drop (k + 1))) := fun h => HG.out (by unfold one; rw [if_neg h1, if_neg h2, if_neg h3, if_pos h])
              clear HB HG h1 h2 h3
              have HV : Hid (∀ m, m < 5 → fit (five x m) = false → adds x = false) := fun m hm h => by
                rw [Bool.eq_false_iff]; intro e; have := ((adds_five x).1 e).1 m hm; rw [h] at this; cases this
              by_cases g0 : fit x.gr = true
              rotate_left
              · have g0' : fit x.gr = false := by simpa using g0
                have HN := hide (HO.out (HV.out 0 (by omega) g0'))
                clear HO HY HV g0
                go_wp2_with (go_at_call 27; refine (fit_any _ _).mono ?_; rintro e w1 ⟨rfl, rfl⟩)
                go_ret
                exact ⟨ret_int (by rw [HC.out, HN.out]), HT2.out⟩
              by_cases g1 : fit x.co = true
              rotate_left
              · have g1' : fit x.co = false := by simpa using g1
                have HN := hide (HO.out (HV.out 1 (by omega) g1'))
                clear HO HY HV g1
                go_wp2_with (go_at_call 27; refine (fit_any _ _).mono ?_; rintro e w1 ⟨rfl, rfl⟩)
                go_ret
                exact ⟨ret_int (by rw [HC.out, HN.out]), HT2.out⟩
              by_cases g2 : fit x.he = true
              rotate_left
              · have g2' : fit x.he = false := by simpa using g2
                have HN := hide (HO.out (HV.out 2 (by omega) g2'))
                clear HO HY HV g2
                go_wp2_with (go_at_call 27; refine (fit_any _ _).mono ?_; rintro e w1 ⟨rfl, rfl⟩)
                go_ret
                exact ⟨ret_int (by rw [HC.out, HN.out]), HT2.out⟩
              by_cases g3 : fit x.ex = true
              rotate_left
              · have g3' : fit x.ex = false := by simpa using g3
                have HN := hide (HO.out (HV.out 3 (by omega) g3'))
                clear HO HY HV g3
                go_wp2_with (go_at_call 27; refine (fit_any _ _).mono ?_; rintro e w1 ⟨rfl, rfl⟩)
                go_ret
                exact ⟨ret_int (by rw [HC.out, HN.out]), HT2.out⟩
              by_cases g4 : fit x.ro = true
              rotate_left
              · have g4' : fit x.ro = false := by simpa using g4
                have HN := hide (HO.out (HV.out 4 (by omega) g4'))
                clear HO HY HV g4
                go_wp2_with (go_at_call 27; refine (fit_any _ _).mono ?_; rintro e w1 ⟨rfl, rfl⟩)
                go_ret
                exact ⟨ret_int (by rw [HC.out, HN.out]), HT2.out⟩
              have hq : Bq x := five_q (fun m hm => by
                obtain rfl | rfl | rfl | rfl | rfl : m = 0 ∨ m = 1 ∨ m = 2 ∨ m = 3 ∨ m = 4 := by omega
                · exact g0
                · exact g1
                · exact g2
                · exact g3
                · exact g4)
              have HQ := hide hq
              clear hq HV
              go_wp2_with (first | (go_at_call 27; refine (fit_any _ _).mono ?_; rintro e w1 ⟨rfl, rfl⟩) | fail)
              refine (rrest_any x _ HQ.out).mono ?_
              rintro e w1 ⟨rfl, hT1⟩
              have hc0 : w1.cell? ⟨wr.heap.size, 0, none⟩ = some (.int .i64 x.id) := (hT1.cell (p := ⟨wr.heap.size, 0, none⟩) (by simp) (by simp)).trans (World.cell?_alloc_at _ _ _ _ rfl)
              have HT3 := hide (HT2.out.trans hT1)
              have HA : Hid (adds x = decide (0 ≤ rest x)) := by
                unfold adds
                rw [Hid, g0, g1, g2, g3, g4]
                simp
              clear hT1 c0 c1 c2 c3 c4 c5 c6 c7 c8 g0 g1 g2 g3 g4
              by_cases hr : 0 ≤ rest x
              · have HN := hide (HY.out (by rw [HA.out]; simpa using hr))
                clear HO HY HA
                generalize rest x = r at *
                go_wp2
                go_roundw
                case rel => exact ⟨k + 1, x.id, by omega, rfl, by go_num, HN, HT3.out⟩
                case measure => simp [intOf]; omega
              · have HN := hide (HO.out (by rw [HA.out]; simpa using hr))
                clear HO HY HA
                generalize rest x = r at *
                go_wp2
                go_ret
                exact ⟨ret_int (by rw [HC.out, HN.out]), HT3.out⟩
      · obtain rfl : k = l.length := by omega
        go_wp2
        go_ret
        refine ⟨ret_int ?_, HT.out⟩
        rw [HC.out, HF.out, List.drop_length]
        rfl

end Go.Proofs.Ytegbinlpojpffaa
