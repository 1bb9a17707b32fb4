/-
  The law TreeFull, walked.
  The law TreeGrows, walked.
-/
import Derived.Test.YthehkckdecckhaaGreatDoorR49
import Derived.Deep.CutRange
import Derived.Deep.RegionHeld3

namespace Go.Proofs.YthehkckdecckhaaGreatDoor
open Go.RowKit Go.Maps

theorem Turn.undrew' {X : List Nat} {w w' : World} (h : Turn X w.drew w') : Turn X w w' := ⟨h.os, h.tape, h.output, h.size, h.block⟩

/-- A string of n noughts. -/
def zs (n : Nat) : ByteArray := textOf (List.replicate n 0)
theorem zs_size (n : Nat) : (zs n).size = n := by unfold zs; rw [textOf_size, List.length_replicate]

/-- All that turned is new. -/
theorem KeepO.from {w0 w w' : World} {O : Nat → Prop} (h0 : Turn [] w0 w) (hK : KeepO O w w') (hO : ∀ x, x < w0.heap.size → x ≠ 1 → O x) : Turn [] w0 w' := by
  obtain ⟨X, hT, hX⟩ := hK
  exact h0.then hT fun x hx => .inr (Nat.le_of_not_lt fun hl => (hX x hx).1 (hO x hl (hX x hx).2))

end Go.Proofs.YthehkckdecckhaaGreatDoor

namespace Go.Proofs.YthehkckdecckhaaGreatDoor
open Go.RowKit Go.Maps

set_option maxRecDepth 100000 in
set_option maxHeartbeats 12800000 in
theorem grows_any (xn xs xb xg : Int) (w : World) (hTab : Tab w) : Calls Tryz.prog 4 #[.int .i64 xn, .int .i64 xs, .int .i64 xb, .int .i64 xg] w fun e w' => e = .returned (.bool true) ∧ Turn [] w w' := by
  have HTab := hide hTab
  have hs0 : 1 < w.heap.size := lt_of_cell (hTab 0 (by omega))
  clear hTab
  go_enter Tryz.func4, Tryz.ntmps4
  go_wp2_with fail
  refine (known_any w HTab.out).mono ?_
  rintro e w0 ⟨rfl, hT0⟩
  have HTab0 := hide (HTab.out.turn hT0 (by simp))
  have HT0 := hide hT0
  have h0s := hT0.size
  clear hT0
  go_wp2_with fail
  have HMd := hide (made_new 4096 (by omega) (by omega) w0 HTab0.out)
  refine HMd.out.mono ?_
  rintro e w1 ⟨t, p, b, m, sm, rb, r, rfl, g1, g2, g3, g4, g5, g6, g7, hO, hTr1, hA1, hT1⟩
  have HTG := hide (tg_of_new (by omega) g1 g2 g3 g4 g5 g6 g7 hO hTr1 hA1 hT1)
  have HT1 := hide (HT0.out.then hT1 (by simp))
  have h1s := hT1.size
  have HWr := hide (writes_any b m _ w1 hA1.disk)
  have HHt := hide (tg_height HTG.out)
  clear hTr1 hA1 hT1 hO HMd
  go_wp2_with fail
  refine (within_any xn 250 (by omega) (by omega) w1).mono ?_
  rintro e w1' ⟨⟨N, hN, rfl⟩, ew⟩
  obtain rfl : w1' = w1 := ew
  go_wp2_with fail
  refine (within_any xb 20 (by omega) (by omega) w1').mono ?_
  rintro e w1 ⟨⟨B, hB, rfl⟩, ew⟩
  obtain rfl : w1 = w1' := ew
  go_wp2_with fail
  refine (within_any xs 600 (by omega) (by omega) w1).mono ?_
  rintro e w1' ⟨⟨ks, hks, rfl⟩, ew⟩
  obtain rfl : w1' = w1 := ew
  go_wp2_with fail
  go_loopw [1] (fun v wr => ∃ st : Nat, st % 2 = 1 ∧ (st ≤ 1199 ∨ (st % 13 ≠ 0 ∧ st ≤ 1201)) ∧ v = .int .i64 (st : Nat) ∧ wr = w1') (fun v _ => if intOf v % 13 = 0 then 1 else 0)
  case atStart => exact ⟨1 + 2 * ks, by omega, by omega, by go_num, rfl⟩
  case round =>
    obtain ⟨st, hst, hst2, rfl, rfl⟩ := hrel
    by_cases h13 : st % 13 = 0
    · have hm13 : ((st : Int) % 13 == 0) = true := by rw [beq_iff_eq]; omega
      go_wp2_with fail
      go_roundw
      case rel => exact ⟨st + 2, by omega, by omega, by go_num, trivial⟩
      case measure =>
        have a1 : ¬ ((st : Int) + 2) % 13 = 0 := by omega
        have a2 : (st : Int) % 13 = 0 := by omega
        simp [intOf, a1, a2]
    · have hm13 : ((st : Int) % 13 == 0) = false := by rw [beq_eq_false_iff_ne]; omega
      have hst3 : st ≤ 1201 := by omega
      clear hst2
      go_wp2_with fail
      refine HHt.out.mono ?_
      rintro e w1 ⟨rfl, ew⟩
      obtain rfl : w1 = wr := ew
      go_wp2_with fail
      refine HWr.out.mono ?_
      rintro e wr ⟨rfl, ew⟩
      obtain rfl : wr = w1 := ew
      go_wp2_with fail
      have HWg := hide (within_any xg (N + 1) (by omega) (by omega) wr)
      rw [show ((N + 1 : Nat) : Int) = (N : Int) + 1 by omega] at HWg
      refine HWg.out.mono ?_
      rintro e w1 ⟨⟨g, hg, rfl⟩, ew⟩
      obtain rfl : w1 = wr := ew
      clear HWg
      go_wp2_with fail
      go_loopw [11, 12, 13, 14, 15] (fun ky tp wt i _ wr => ∃ j kk th k0 : Nat, j ≤ N + g ∧ kk ≤ j ∧ th ≤ 20 ∧ k0 ≤ 600 * j ∧ ky = .int .i64 (kk : Nat) ∧ tp = .int .i64 (th : Nat) ∧ wt = .int .i64 (k0 : Nat) ∧ i = .int .i64 (j : Nat) ∧ Hid (GrowI w wr t p b m N st j kk th k0)) (fun _ _ _ i _ _ => N + g - (intOf i).toNat)
      case atStart =>
        refine ⟨0, 0, 0, 0, by omega, by omega, by omega, by omega, rfl, rfl, rfl, rfl, ⟨_, sm, rb, _, _, _, _, _, _, _, [], none, none, HTG.out, Keys.nil _ _, Nat.zero_le _, Nat.zero_le _, Nat.le_refl _, rfl, rfl, fun x hx h1 => ⟨by omega, h1⟩, HT1.out⟩⟩
      case round =>
        obtain ⟨j, kk, th, k0, hj, hkk, hth, hk0, rfl, rfl, rfl, rfl, HI⟩ := hrel
        rename World => wr
        obtain ⟨O, sm2, rb2, s, q, Dn, S, D, G, Rw, ds, rd, rt, hTG, hKs, hrd, hfr, hht, hk, hn, hOo, hT⟩ := HI.out.ex
        have HTG2 := hide hTG
        have HKs := hide hKs
        have HOo := hide hOo
        have HT := hide hT
        have HF := hide hfr
        have HX := hide (show (flatR rd).length ≤ 250 ∧ heightR rt ≤ th ∧ s.k = k0 ∧ s.n = 4096 from ⟨hrd, hht, hk, hn⟩)
        have hsr := hT.size
        have htr := hTG.td.tm.lts t (by simp)
        clear hTG hKs hrd hfr hht hk hn hOo hT HI
        by_cases hlt : j < N + g
        · go_upto_if 57 with fail
          go_cut [15] from 48 to 116 (fun u wx => u = .int .i64 0 ∧ Hid (StepR wr wx O t p b m s Dn S D rd rt st N (j + 1)))
          case first =>
            by_cases hjN : j < N
            · have hjs : j * st ≤ 1000000 := Nat.le_trans (Nat.mul_le_mul (show j ≤ 250 by omega) (show st ≤ 1201 by omega)) (by omega)
              have hjc : (j : Int) * (st : Int) = ((j * st : Nat) : Int) := (Int.natCast_mul j st).symm
              have HPut : Hid (∀ (v : ByteArray) (W : World), v.size ≤ 120 → Turn [] wr W → Calls Tryz.prog 12 #[.pointer (some ⟨t, 0, none⟩), .string (gk st j), .string v] W fun e w' => e = .returned (.int .i64 0) ∧ StepR wr w' O t p b m s Dn S D rd rt st N (j + 1)) := fun v W hv hW => by
                refine (step_put (HTG2.out.quiet hW) HKs.out hst (by omega) hN hjN v hv HX.out.2.2.2 HX.out.1).mono ?_
                rintro e w' ⟨rfl, h⟩
                exact ⟨rfl, h.of0 hW⟩
              have HWi : Hid (∀ W : World, Calls Tryz.prog 11 #[.int .i64 ((j : Int) * (st : Int)), .int .i64 17576] W fun e w' => e = .returned (.int .i64 ((j * st % 17576 : Nat) : Int)) ∧ w' = W) := fun W => within_eq _ (j * st) 17576 hjc (by omega) (by omega) (by omega) W
              have HNam : Hid (∀ W : World, Calls Tryz.prog 30 #[.int .i64 ((j * st % 17576 : Nat) : Int)] W fun e w' => e = .returned (.string (gk st j)) ∧ Turn [] W w') := fun W => name_any (j * st % 17576) (by have := Nat.mod_lt (j * st) (show 0 < 17576 by omega); omega) W
              have hj0 : (0 : Int) ≤ (j : Int) * (st : Int) := by rw [hjc]; exact Int.natCast_nonneg _
              have hj1 : (j : Int) * (st : Int) ≤ 1000000 := by rw [hjc]; omega
              have hwr : IntKind.i64.wrap ((j : Int) * (st : Int)) = (j : Int) * (st : Int) := by rw [hjc, IntKind.wrap_i64]; omega
              clear hjc hjs
              generalize gk st j = kj at *
              generalize j * st % 17576 = ky at *
              obtain ⟨vn, hvn, hvl⟩ : ∃ vn : Nat, ((vn : Nat) : Int) = (j : Int).tmod 121 ∧ vn ≤ 120 := ⟨j % 121, by rw [Int.tmod_eq_emod_of_nonneg (Int.natCast_nonneg _)]; omega, by omega⟩
              have HMk := make_bytes vn (by omega)
              have HZ := hide (fun W : World => bytes_new W (List.replicate vn 0) 5)
              have HCv2 : Hid (∀ W w' : World, Turn [] (W.alloc (.cells ((List.replicate vn 0).map byteCell).toArray 5)) w' → (convert 52 9 (.slice (some ⟨W.heap.size, 0, none⟩) vn vn)).run Tryz.prog w' = .ok (.string (zs vn)) w') := fun W w' h => text_at ((HZ.out W).turn h (by simp)) vn vn (by simp)
              have hcv : ∀ W : World, (convert 52 9 (.slice (some ⟨W.heap.size, 0, none⟩) vn vn)).run Tryz.prog (W.alloc (.cells ((List.replicate vn 0).map byteCell).toArray 5)) = .ok (.string (zs vn)) (W.alloc (.cells ((List.replicate vn 0).map byteCell).toArray 5)) := fun W => text_at (HZ.out W) vn vn (by simp)
              have HVs := hide (zs_size vn)
              rw [hvn] at HMk
              generalize hZ : ((List.replicate vn 0).map byteCell).toArray = Z at *
              generalize hvs : zs vn = vs at *
              have HPut2 : Hid (∀ W : World, Turn [] wr W → Calls Tryz.prog 12 #[.pointer (some ⟨t, 0, none⟩), .string kj, .string vs] W fun e w' => e = .returned (.int .i64 0) ∧ StepR wr w' O t p b m s Dn S D rd rt st N (j + 1)) := fun W hW => HPut.out vs W (by rw [HVs.out]; exact hvl) hW
              clear hvs hvn HPut
              have hcv5 := HCv2.out wr (wr.alloc (.cells Z 5)).drew ((Turn.refl [] _).drew)
              go_upto_region 17 with fail
              go_region_with (first
                | (go_at_call 11; refine (HWi.out _).mono ?_; rintro e w4 ⟨rfl, ew⟩; subst ew)
                | (go_at_call 30; refine (HNam.out _).mono ?_; rintro e w4 ⟨rfl, hT4⟩; have HT4 : Hid (Turn [] wr w4) := (by first | exact (Turn.refl [] wr).drew.then hT4 (by simp) | exact ((Turn.refl [] wr).drew.alloc _).then hT4 (by simp)); (try have hcv4 : (convert 52 9 (.slice (some ⟨wr.heap.size, 0, none⟩) vn vn)).run Tryz.prog w4 = .ok (.string vs) w4 := HCv2.out wr w4 (Turn.undrew' hT4)); clear hT4)
                | (go_at_call 12; refine (HPut2.out _ ?_).mono ?_; (first | exact HT4.out.alloc _ | exact HT4.out); rintro e w5 ⟨rfl, hP5⟩; have HP5 := hide hP5; clear hP5))
              all_goals
                go_wp2_with fail
                go_meet
                exact ⟨rfl, HP5.out⟩
            · have hij : N + (j - N) = j := by omega
              have hjs : (j - N) * st ≤ 1000000 := Nat.le_trans (Nat.mul_le_mul (show j - N ≤ 250 by omega) (show st ≤ 1201 by omega)) (by omega)
              have hjc : ((j : Int) - (N : Int)) * (st : Int) = (((j - N) * st : Nat) : Int) := by
                rw [Int.natCast_mul]
                congr 1
                omega
              have HDel : Hid (∀ W : World, Turn [] wr W → Calls Tryz.prog 15 #[.pointer (some ⟨t, 0, none⟩), .string (gk st (j - N))] W fun e w' => e = .returned (.int .i64 0) ∧ StepR wr w' O t p b m s Dn S D rd rt st N (j + 1)) := fun W hW => by
                refine (step_del (HTG2.out.quiet hW) HKs.out hst (by omega) hN (by omega) (by omega) HX.out.1).mono ?_
                rintro e w' ⟨rfl, h⟩
                exact ⟨rfl, h.of0 hW⟩
              have HWi : Hid (∀ W : World, Calls Tryz.prog 11 #[.int .i64 (((j : Int) - (N : Int)) * (st : Int)), .int .i64 17576] W fun e w' => e = .returned (.int .i64 (((j - N) * st % 17576 : Nat) : Int)) ∧ w' = W) := fun W => within_eq _ ((j - N) * st) 17576 hjc (by omega) (by omega) (by omega) W
              have HNam : Hid (∀ W : World, Calls Tryz.prog 30 #[.int .i64 (((j - N) * st % 17576 : Nat) : Int)] W fun e w' => e = .returned (.string (gk st (j - N))) ∧ Turn [] W w') := fun W => name_any ((j - N) * st % 17576) (by have := Nat.mod_lt ((j - N) * st) (show 0 < 17576 by omega); omega) W
              have hj0 : (0 : Int) ≤ ((j : Int) - (N : Int)) * (st : Int) := by rw [hjc]; exact Int.natCast_nonneg _
              have hj1 : ((j : Int) - (N : Int)) * (st : Int) ≤ 1000000 := by rw [hjc]; omega
              clear hjc hjs
              generalize gk st (j - N) = kj at *
              generalize (j - N) * st % 17576 = ky at *
              go_wp2_with fail
              refine (HWi.out _).mono ?_
              rintro e w4 ⟨rfl, ew⟩
              subst ew
              go_wp2_with fail
              refine (HNam.out _).mono ?_
              rintro e w4 ⟨rfl, hT4⟩
              have HT4 := hide hT4
              clear hT4
              go_wp2_with fail
              refine (HDel.out _ HT4.out).mono ?_
              rintro e w5 ⟨rfl, hP5⟩
              have HP5 := hide hP5
              clear hP5
              go_wp2_with fail
              go_meet
              exact ⟨rfl, HP5.out⟩
          case rest =>
            rename World => wP
            obtain ⟨rfl, HP⟩ := hcut
            obtain ⟨hK5, sm5, rb5, q5, S5, G5, Rw5, ds5, rt5, hTG5, hKs5, hch5, hf5, h15⟩ := HP.out
            have HT5 := hide (KeepO.from HT.out hK5 HOo.out)
            have h5s := HT5.out.size
            have HKs5 := hide hKs5
            have HTG5 := hide hTG5
            have HHt5 := hide (tg_height hTG5)
            have hh20 := hTG5.ok.height (by have := hKs5.len; omega)
            have HF5 := hide (grow_fresh HF.out hf5 HX.out.2.1 h15)
            have HC5 := hide hch5
            have HHd : Hid (∃ hr, hr = heightR rt5) := ⟨_, rfl⟩
            obtain ⟨hr, hhr⟩ := HHd.out
            have HHr := hide hhr
            rw [← hhr] at HHt5 HF5 hh20
            clear hK5 hTG5 hKs5 hch5 hf5 h15 HP hhr HHd
            obtain ⟨T, hT20, hmx, hTe⟩ : ∃ T : Nat, T ≤ 20 ∧ max (th : Int) (hr : Int) = (T : Nat) ∧ T = max th hr := ⟨max th hr, by omega, by omega, rfl⟩
            rw [← hTe] at HF5
            have hTh : hr ≤ T := by omega
            clear hTe
            by_cases hb : j % (1 + B) = B
            · have hbb : ((j : Int) % (1 + (B : Int)) != 1 + (B : Int) - 1) = false := by
                have : (j : Int) % (1 + (B : Int)) = (B : Int) := by
                  rw [show (1 : Int) + (B : Int) = ((1 + B : Nat) : Int) by omega, ← Int.natCast_emod, hb]
                rw [this, bne_eq_false_iff_eq]
                omega
              have HCm := hide (tg_commit HTG5.out HC5.out (by have := HTG5.out.room; have := HTG5.out.fresh; have := HTG5.out.ok.pages; have := count_le (pagesR rt5); have := HKs5.out.len; have := HX.out; omega) (by have := HKs5.out.len; omega) (by have := HX.out; omega) (by have := HX.out; omega))
              have HFr5 := hide (show S5.fresh ≤ 500 by have := HTG5.out.fresh; have := HTG5.out.ok.pages; have := count_le (pagesR rt5); have := HKs5.out.len; omega)
              go_wp2_with fail
              refine HHt5.out.mono ?_
              rintro e w2 ⟨rfl, ew⟩
              obtain rfl : w2 = wP := ew
              go_wp2_with fail
              refine HCm.out.mono ?_
              rintro e w10 ⟨rfl, smA, rbA, sA, qA, DA, GA, rtA, hTGA, hflA, hhtA, hkA, hnA, _, hKA⟩
              have HTA := hide (KeepO.from HT5.out hKA HOo.out)
              have HTGA := hide hTGA
              have hlA : (flatR rtA).length ≤ 250 := by rw [hflA]; have := HKs5.out.len; omega
              have HWA := hide (writes_any b m _ w10 hTGA.td.tm.pa.disk)
              have HLow := hide (low_any hTGA (by omega))
              have HHA := hide (tg_height hTGA)
              have HKsA : Hid (Keys st N (j + 1) (flatR rtA)) := by
                rw [hflA]
                exact HKs5.out
              have hhA : heightR rtA = hr := hhtA.trans HHr.out.symm
              rw [hhA] at HHA
              have hk1 : sA.k ≤ 600 * (j + 1) := by
                have := HX.out
                have := HFr5.out
                omega
              have hnA' : sA.n = 4096 := hnA.trans HX.out.2.2.2
              have hpc : 2 * (1 + (T : Int)) * ((kk : Int) + 1) = ((2 * (1 + T) * (kk + 1) : Nat) : Int) := by push_cast; rfl
              have hp1 : 2 * (1 + T) * (kk + 1) ≤ 42 * 500 := Nat.mul_le_mul (by omega) (by omega)
              have hq0 : (0 : Int) ≤ 2 * (1 + (T : Int)) * ((kk : Int) + 1) := by rw [hpc]; exact Int.natCast_nonneg _
              have hq1 : 2 * (1 + (T : Int)) * ((kk : Int) + 1) ≤ 21000 := by rw [hpc]; omega
              have hq2 : (sA.k : Int) - (k0 : Int) ≤ 2 * (1 + (T : Int)) * ((kk : Int) + 1) + 13 := by
                rw [hpc]
                have := HF5.out
                have := HX.out
                omega
              have hq3 : (0 : Int) ≤ (sA.k : Int) - (k0 : Int) := by have := HX.out; omega
              have HNext : Hid (GrowI w w10 t p b m N st (j + 1) 0 hr sA.k) := by
                refine ⟨_, smA, rbA, sA, qA, _, _, DA, GA, Rw5, [], rtA, rtA, HTGA.out, HKsA.out, hlA, Nat.zero_le _, by rw [hhA]; exact Nat.le_refl _, rfl, hnA', HOo.out, HTA.out⟩
              generalize sA.k = k1 at *
              clear hTGA hflA hhtA hkA hKA hlA hhA hpc hp1 HCm hnA hnA' HTGA HKsA
              go_wp2_with fail
              refine HWA.out.mono ?_
              rintro e w11 ⟨rfl, ew⟩
              obtain rfl : w11 = w10 := ew
              go_wp2_with fail
              refine HLow.out.mono ?_
              rintro e w10 ⟨rfl, ew⟩
              obtain rfl : w10 = w11 := ew
              go_wp2_with fail
              refine HHA.out.mono ?_
              rintro e w11 ⟨rfl, ew⟩
              obtain rfl : w11 = w10 := ew
              go_wp2_with fail
              refine HWA.out.mono ?_
              rintro e w10 ⟨rfl, ew⟩
              obtain rfl : w10 = w11 := ew
              go_wp2_with fail
              go_roundw
              case rel => exact ⟨j + 1, 0, hr, k1, by omega, by omega, by omega, by omega, rfl, rfl, rfl, by go_num, HNext.out⟩
              case measure => simp [intOf]; omega
            · have hbb : ((j : Int) % (1 + (B : Int)) != 1 + (B : Int) - 1) = true := by
                have : ¬ (j : Int) % (1 + (B : Int)) = 1 + (B : Int) - 1 := by
                  rw [show (1 : Int) + (B : Int) = ((1 + B : Nat) : Int) by omega, ← Int.natCast_emod]
                  omega
                simpa using this
              have HNext : Hid (GrowI w wP t p b m N st (j + 1) (kk + 1) T k0) := by
                refine ⟨_, sm5, rb5, s, q5, Dn, S5, D, G5, Rw5, ds5, rd, rt5, HTG5.out, HKs5.out, HX.out.1, HF5.out, by rw [← HHr.out]; exact hTh, HX.out.2.2.1, HX.out.2.2.2, HOo.out, HT5.out⟩
              go_wp2_with fail
              refine HHt5.out.mono ?_
              rintro e w2 ⟨rfl, ew⟩
              obtain rfl : w2 = wP := ew
              go_wp2_with fail
              go_roundw
              case rel => exact ⟨j + 1, kk + 1, T, k0, by omega, by omega, by omega, by omega, by go_num, by go_num, rfl, by go_num, HNext.out⟩
              case measure => simp [intOf]; omega
        · obtain rfl : j = N + g := by omega
          have HS := hide (tg_scan HTG2.out ⟨#[]⟩ ⟨#[]⟩ 0 (by have := HKs.out.len; omega))
          rw [scanL_all] at HS
          have hlen : (flatR rt).length = N - g := by have := HKs.out.len; omega
          obtain ⟨l, hl⟩ : ∃ l, l = flatR rt := ⟨_, rfl⟩
          have HRise : Hid (∀ k (h : k + 1 < l.length), klt l[k].1 l[k + 1].1) := fun k h => by
            subst hl
            have := List.pairwise_iff_getElem.1 HTG2.out.ok.rises k (k + 1) (by rw [List.length_map]; omega) (by rw [List.length_map]; omega) (by omega)
            simpa using this
          rw [hlen] at HS
          go_wp2_with fail
          refine HS.out.mono ?_
          rintro e w2 ⟨a1, c1, rfl, hK1, _, _, GC, RwC, rC, hTC, hSC, _⟩
          have hKC := (hSC.go _).keepO HTG2.out.td
          have HTC := hide (KeepO.from HT.out hKC HOo.out)
          have HK1 := hide hK1
          have HLn : Hid (∀ W : World, Turn [] w2 W → Calls Tryz.prog 26 #[.pointer (some ⟨t, 0, none⟩)] W fun e w' => e = .returned (.int .i64 ((N - g : Nat) : Int)) ∧ w' = W) := fun W hW => by
            have h := len_any t p Dn S W (hTC.td.tm.tr.turn hW (by simp))
            rw [hTC.keys, hlen] at h
            exact h
          have hc2 : ((N - g : Nat) : Int) = (N : Int) - (g : Int) := by omega
          clear hTC hSC hKC hK1 HS HKs HTG2
          rw [← hl] at HK1 hlen
          have HLl := hide hlen
          clear hlen hl
          generalize N - g = L at *
          go_wp2_with fail
          go_loopw [17] (fun i wr => ∃ k : Nat, k ≤ L ∧ i = .int .i64 ((k : Int) + 1) ∧ Hid (Turn [] w2 wr)) (fun i _ => L + 1 - (intOf i).toNat)
          case atStart => exact ⟨0, by omega, by go_num, Turn.refl [] _⟩
          case round =>
            obtain ⟨k, hk, rfl, HTk⟩ := hrel
            rename World => wr
            by_cases hkl : k + 1 < L
            · have hl1 : k + 1 < l.length := by rw [HLl.out]; exact hkl
              have hl0 : k < l.length := by omega
              obtain ⟨b2, off, e, hk0, _⟩ := (HK1.out.turn0 HTk.out).at hl0
              subst e
              obtain ⟨b3, off3, e3, hk1, _⟩ := (HK1.out.turn0 HTk.out).at hl1
              injection e3 with e3
              injection e3 with e3 e4
              subst e3 e4
              have hle := less_klt l[k + 1].1 l[k].1
              rw [decide_eq_false (klt_asymm (HRise.out k hl1))] at hle
              have hle2 : (l[k + 1].1.toList == l[k].1.toList) = false := by
                rw [beq_eq_false_iff_ne]
                intro e
                have h1 := less_klt l[k].1 l[k + 1].1
                rw [decide_eq_true (HRise.out k hl1), e, less_klt, decide_eq_false (klt_irrefl _)] at h1
                cases h1
              generalize l[k].1 = x0 at *
              generalize l[k + 1].1 = x1 at *
              have hb2 := lt_of_cell hk0
              have HTd := hide HTk.out.drew
              go_upto_region 31 with fail
              go_region
              go_wp2_with fail
              refine ⟨⟨k + 1, by omega, by go_num, HTd.out⟩, ?_⟩
              simp [intOf]
              omega
            · have HTe := hide (HTC.out.trans HTk.out)
              have HLe := hide (HLn.out wr HTk.out)
              have hb : ((L : Int) == (N : Int) - (g : Int)) = true := beq_iff_eq.2 hc2
              go_wp2_with fail
              refine HLe.out.mono ?_
              rintro e w3 ⟨rfl, ew⟩
              obtain rfl : w3 = wr := ew
              go_wp2_with fail
              go_ret
              exact ⟨rfl, HTe.out⟩

end Go.Proofs.YthehkckdecckhaaGreatDoor
