/-
  The law TreeScans, walked.
-/
import Derived.Test.YthehkckdecckhaaGreatDoorU50
import Derived.Test.YthehkckdecckhaaGreatDoorU49
import Derived.Test.YthehkckdecckhaaGreatDoorU51
import Derived.Deep.CutRange
import Derived.Deep.RegionHeld3
namespace Go.Proofs.YthehkckdecckhaaGreatDoor
open Go.RowKit Go.Maps

/-- A round of TreeScans' puts begins. -/
structure ScI (w0 wr : World) (t p b m i : Nat) (v7 : Value) : Prop where
  ex : ∃ (O : Nat → Prop) (sm rb : Nat) (s : St) (q : Pg) (Dn S : Stt) (D : Dk) (G : Gh) (Rw : Nat → Prop) (ds : List Nat) (rt : Root?) (a7 : Option Addr) (c7 : Nat), TG wr O t p b m sm rb s q Dn S D G Rw ds none rt ∧ v7 = .slice a7 (flatR rt).length c7 ∧ RowO wr O a7 (flatR rt) ∧ (flatR rt).length ≤ i ∧ s.n = 8192 ∧ (∀ x ∈ flatR rt, x.1.size ≤ 48) ∧ (∀ x, x < w0.heap.size → x ≠ 1 → O x) ∧ Turn [] w0 wr

/-- A round of TreeScans' scans begins: n pairs were told. -/
structure ScR (w0 wr : World) (t p b m : Nat) (a7 : Option Addr) (L : List Kv) : Prop where
  ex : ∃ (O : Nat → Prop) (sm rb : Nat) (s : St) (q : Pg) (Dn S : Stt) (D : Dk) (G : Gh) (Rw : Nat → Prop) (ds : List Nat) (rt : Root?), TG wr O t p b m sm rb s q Dn S D G Rw ds none rt ∧ flatR rt = L ∧ RowO wr O a7 L ∧ (∀ x ∈ L, x.1.size ≤ 48) ∧ (∀ x, x < w0.heap.size → x ≠ 1 → O x) ∧ Turn [] w0 wr

/-- What a Put of the law leaves. -/
def PutS (O : Nat → Prop) (t p b m : Nat) (s : St) (Dn : Stt) (D : Dk) (L : List Kv) (k v : ByteArray) (w w' : World) (ec : Int) : Prop :=
  KeepO O w w' ∧ ((ec = 0 ∧ k.size ≤ 48 ∧ ∃ (sm rb : Nat) (q : Pg) (S : Stt) (G : Gh) (Rw : Nat → Prop) (ds : List Nat) (rt : Root?), TG w' O t p b m sm rb s q Dn S D G Rw ds none rt ∧ flatR rt = putK L k v) ∨
    (ec = 1 ∧ ∃ (sm rb : Nat) (q : Pg) (S : Stt) (G : Gh) (Rw : Nat → Prop) (ds : List Nat) (rt : Root?), TG w' O t p b m sm rb s q Dn S D G Rw ds none rt ∧ flatR rt = L))
theorem putS_of {w : World} {O : Nat → Prop} {t p b m sm rb : Nat} {s : St} {q : Pg} {Dn S : Stt} {D : Dk} {G : Gh} {Rw : Nat → Prop} {ds : List Nat} {rt : Root?} (h : TG w O t p b m sm rb s q Dn S D G Rw ds none rt) (k v : ByteArray) (hk : k.size ≤ 1000000) (hv : v.size ≤ 120) (hn : (flatR rt).length ≤ 200) (hs : s.n = 8192) :
    Calls Tryz.prog 12 #[.pointer (some ⟨t, 0, none⟩), .string k, .string v] w fun e w' => ∃ ec : Int, e = .returned (.int .i64 ec) ∧ PutS O t p b m s Dn D (flatR rt) k v w w' ec := by
  by_cases hk1 : k.size = 0 ∨ 48 < k.size
  · refine (put_badK t p b m sm rb s q Dn S h.td.tm.sd h.td.tm.qd k v hk1 hk w h.td.tm.pa h.td.tm.tr).mono ?_
    rintro e w' ⟨rfl, ⟨r, hA⟩, hT⟩
    obtain ⟨h1, h2⟩ := h.ask r hA hT
    exact ⟨1, rfl, h2, .inr ⟨rfl, sm, rb, _, S, G, Rw, ds, rt, h1, rfl⟩⟩
  · have hr := h.room
    have hp := h.ok.pages
    have hc := count_le (pagesR rt)
    have hf := h.fresh
    have h0 : (flatR (none : Root?)).length = 0 := rfl
    refine (tg_put h k v (by omega) (by omega) hv (by omega) (by omega) (by omega)).mono ?_
    rintro e w' ⟨rfl, rt', G', Rw', r, S', ds', h1, h2, h3, _, h5⟩
    exact ⟨0, rfl, h5, .inl ⟨rfl, by omega, sm, rb, _, S', G', Rw', ds', rt', h1, h2⟩⟩

set_option maxRecDepth 100000 in
set_option maxHeartbeats 12800000 in
theorem scans_any (aa : Option Addr) (ca : Nat) (l : List ByteArray) (xs : Int) (hll : l.length ≤ 9223372036854775807) (w : World) (hTab : Tab w) (hA : StrsAt w aa l) (hSz : Sized l) : Calls Tryz.prog 6 #[.slice aa l.length ca, .int .i64 xs] w fun e w' => e = .returned (.bool true) ∧ Turn [] w w' := by
  have HTab := hide hTab
  have HA := hide hA
  have HSz := hide hSz
  have hs0 : 1 < w.heap.size := lt_of_cell (hTab 0 (by omega))
  clear hTab hA hSz
  obtain ⟨nl, HNl, hnl9⟩ : ∃ nl, Hid (l.length = nl) ∧ nl ≤ 9223372036854775807 := ⟨_, rfl, hll⟩
  rw [HNl.out]
  by_cases h80 : 80 < nl
  · go_enter Tryz.func6, Tryz.ntmps6
    go_wp2_with fail
    refine (known_any w HTab.out).mono ?_
    rintro e w0 ⟨rfl, hT0⟩
    have HT0 := hide hT0
    clear hT0
    go_wp2_with fail
    go_ret
    exact ⟨rfl, HT0.out⟩
  go_enter Tryz.func6, Tryz.ntmps6
  go_wp2_with fail
  refine (known_any w HTab.out).mono ?_
  rintro e w0 ⟨rfl, hT0⟩
  have HTab0 := hide (HTab.out.turn hT0 (by simp))
  have HT0 := hide hT0
  have h0s := hT0.size
  clear hT0
  go_wp2_with fail
  have HMd := hide (made_new 8192 (by omega) (by omega) w0 HTab0.out)
  refine HMd.out.mono ?_
  rintro e w1 ⟨t, p, b, m, sm, rb, r, rfl, g1, g2, g3, g4, g5, g6, g7, hO, hTr1, hA1, hT1⟩
  have HTG := hide (tg_of_new (by omega) g1 g2 g3 g4 g5 g6 g7 hO hTr1 hA1 hT1)
  have HT1 := hide (HT0.out.then hT1 (by simp))
  have h1s := hT1.size
  clear hTr1 hA1 hT1 hO HMd
  go_wp2_with fail
  go_loopw [7, 8, 9] (fun a i _ wr => ∃ j : Nat, j ≤ nl ∧ i = .int .i64 (j : Nat) ∧ Hid (ScI w wr t p b m j a)) (fun _ i _ _ => nl - (intOf i).toNat)
  case atStart =>
    refine ⟨0, by omega, rfl, ⟨_, sm, rb, _, _, _, _, _, _, _, [], none, none, 0, HTG.out, rfl, RowO.nil _ _ _, Nat.zero_le _, rfl, (fun x hx => by cases hx), fun x hx h1 => ⟨by omega, h1⟩, HT1.out⟩⟩
  case round =>
    obtain ⟨j, hj, rfl, HI⟩ := hrel
    rename World => wr
    obtain ⟨O, sm2, rb2, s, q, Dn, S, D, G, Rw, ds, rt, a7, c7, hTG, rfl, h7, hlen, hn, hks48, hOo, hT⟩ := HI.out.ex
    have HTG2 := hide hTG
    have H7 := hide h7
    have HOo := hide hOo
    have HT := hide hT
    have H48 := hide hks48
    have HX := hide (show (flatR rt).length ≤ j ∧ s.n = 8192 from ⟨hlen, hn⟩)
    have hsr := hT.size
    have htr := hTG.td.tm.lts t (by simp)
    clear hTG h7 hlen hn hks48 hOo hT HI
    by_cases hlt : j < nl
    · have hjl : j < l.length := by rw [HNl.out]; exact hlt
      obtain ⟨ba, oa, rfl, hcw⟩ := HA.out.at hjl
      have hks := HSz.out j hjl
      have HCk : Hid (∀ W : World, Turn [] w W → W.cell? ⟨ba, oa + j, none⟩ = some (.string (l.getD j ByteArray.empty))) := fun W hW => (hW.cell (p := ⟨ba, oa + j, none⟩) (lt_of_cell hcw) (by simp)).trans hcw
      clear hcw
      have hck := HCk.out wr HT.out
      generalize l.getD j ByteArray.empty = ky at *
      have hbl := lt_of_cell hck
      have HB := hide (bytes_new wr [j] 5)
      have hcv := text_at HB.out 1 1 rfl
      have HVs : Hid ((textOf [j]).size ≤ 120) := by show _ ≤ _; rw [textOf_size]; simp
      have e0 : (([j] : List Nat).map byteCell).toArray = #[.int .u8 ((j : Nat) : Int)] := rfl
      rw [e0] at hcv HB
      generalize textOf [j] = vs at *
      clear e0
      have hck2 : (wr.alloc (.cells #[.int .u8 ((j : Nat) : Int)] 5)).cell? ⟨ba, oa + j, none⟩ = some (.string ky) := HCk.out _ (HT.out.alloc _)
      by_cases h300 : ky.size < 300
      · have HPut : Hid (∀ W : World, Turn [] wr W → Calls Tryz.prog 12 #[.pointer (some ⟨t, 0, none⟩), .string ky, .string vs] W fun e w' => ∃ ec : Int, e = .returned (.int .i64 ec) ∧ PutS O t p b m s Dn D (flatR rt) ky vs wr w' ec) := fun W hW => by
          refine (putS_of (HTG2.out.quiet hW) ky vs (by omega) HVs.out (by have := HX.out; omega) HX.out.2).mono ?_
          rintro e w' ⟨ec, rfl, h1, h2⟩
          exact ⟨ec, rfl, (KeepO.of0 hW).trans h1, h2⟩
        go_wp2_with fail
        refine (HPut.out _ ((Turn.refl [] wr).alloc _)).mono ?_
        rintro e wP ⟨ec, rfl, hP⟩
        have HK5 := hide hP.1
        have HTn0 := hide (KeepO.from HT.out hP.1 HOo.out)
        have hsn := HTn0.out.size
        rcases hP.2 with ⟨rfl, hk48, sm5, rb5, q5, S5, G5, Rw5, ds5, rt5, hTG5, hfl5⟩ | ⟨rfl, sm5, rb5, q5, S5, G5, Rw5, ds5, rt5, hTG5, hfl5⟩
        · have HTG5 := hide hTG5
          have HFl5 := hide hfl5
          have HK48 := hide hk48
          have HRow := hide (H7.out.keep HK5.out)
          have hckP : wP.cell? ⟨ba, oa + j, none⟩ = some (.string ky) := HCk.out wP HTn0.out
          have hs5 := HK5.out.size
          have HPutL : Hid (Calls Tryz.prog 14 #[.slice a7 (flatR rt).length c7, .string ky, .string vs] wP fun e w' => ∃ a c, e = .returned (.slice a (putK (flatR rt) ky vs).length c) ∧ RowO w' (More O wP w') a (putK (flatR rt) ky vs) ∧ Turn [] wP w') := by
            refine (lputl_any a7 c7 (flatR rt) ky vs (by have := HX.out; omega) HTG2.out.ok.rises wP HRow.out.kv).mono ?_
            rintro e w' ⟨r, i, rfl, hp, hO, hT'⟩
            rw [put_law hp] at hO
            obtain ⟨a, c, hv, hR⟩ := RowO.new (O := O) (by omega) hO
            exact ⟨a, c, by rw [hv], hR, hT'⟩
          clear hTG5 hfl5 HPut hP hk48
          go_wp2_with fail
          refine HPutL.out.mono ?_
          rintro e wc ⟨a9, c9, rfl, hR9, hT9⟩
          have HNext : Hid (ScI w wc t p b m (j + 1) (.slice a9 (putK (flatR rt) ky vs).length c9)) := by
            refine ⟨_, sm5, rb5, s, q5, Dn, S5, D, G5, Rw5, ds5, rt5, a9, c9, HTG5.out.more hT9, by rw [HFl5.out], by rw [HFl5.out]; exact hR9, ?_, HX.out.2, (fun x hx => by
              rw [HFl5.out] at hx
              rcases putK_mem hx with rfl | hx
              · exact HK48.out
              · exact H48.out x hx), fun x h1 h2 => .inl (HOo.out x h1 h2), HTn0.out.trans hT9⟩
            rw [HFl5.out, putK_len HTG2.out.ok.rises]
            have := HX.out
            split <;> omega
          clear hR9 hT9 HPutL
          go_wp2_with fail
          go_roundw
          case rel => exact ⟨j + 1, by omega, by go_num, HNext.out⟩
          case measure => simp [intOf]; omega
        · have HNext : Hid (ScI w wP t p b m (j + 1) (.slice a7 (flatR rt).length c7)) := by
            refine ⟨_, sm5, rb5, s, q5, Dn, S5, D, G5, Rw5, ds5, rt5, a7, c7, hTG5, by rw [hfl5], by rw [hfl5]; exact H7.out.keep HK5.out, by rw [hfl5]; have := HX.out; omega, HX.out.2, by rw [hfl5]; exact H48.out, HOo.out, HTn0.out⟩
          clear hTG5 hfl5 HPut hP
          go_wp2_with fail
          go_roundw
          case rel => exact ⟨j + 1, by omega, by go_num, HNext.out⟩
          case measure => simp [intOf]; omega
      · have HNext : Hid (ScI w (wr.alloc (.cells #[.int .u8 ((j : Nat) : Int)] 5)) t p b m (j + 1) (.slice a7 (flatR rt).length c7)) := by
          have hA := (Turn.refl [] wr).alloc (.cells #[.int .u8 ((j : Nat) : Int)] 5)
          refine ⟨_, sm2, rb2, s, q, Dn, S, D, G, Rw, ds, rt, a7, c7, HTG2.out.quiet hA, rfl, H7.out.more hA (fun _ h => h), by have := HX.out; omega, HX.out.2, H48.out, HOo.out, HT.out.trans hA⟩
        go_wp2_with fail
        go_roundw
        case rel => exact ⟨j + 1, by omega, by go_num, HNext.out⟩
        case measure => simp [intOf]; omega
    · obtain rfl : j = nl := by omega
      obtain ⟨L, hL⟩ : ∃ L, L = flatR rt := ⟨_, rfl⟩
      have HSc : Hid (ScR w wr t p b m a7 L) := ⟨O, sm2, rb2, s, q, Dn, S, D, G, Rw, ds, rt, HTG2.out, hL.symm, by rw [hL]; exact H7.out, by rw [hL]; exact H48.out, HOo.out, HT.out⟩
      have HRise : Hid (Rises (keysOf L)) := by rw [hL]; exact HTG2.out.ok.rises
      have hlL : L.length ≤ 80 := by rw [hL]; have := HX.out; omega
      have HLl : Hid (∃ n, n = L.length) := ⟨_, rfl⟩
      obtain ⟨nL, hnL⟩ := HLl.out
      have HNL := hide hnL
      rw [← hL, ← hnL]
      rw [← hnL] at hlL
      clear hL hnL HLl HTG2 H7 HOo HT HX
      go_wp2_with fail
      refine (within_any xs 9 (by omega) (by omega) wr).mono ?_
      rintro e w2 ⟨⟨ks, hks, rfl⟩, ew⟩
      obtain rfl : w2 = wr := ew
      go_wp2_with fail
      go_loopw [10, 11, 12, 13, 14] (fun lo nv i _ _ wr => ∃ (k n : Nat) (lok : ByteArray), k ≤ n ∧ n ≤ nL ∧ lo = .string lok ∧ nv = .int .i64 (n : Nat) ∧ i = .int .i64 (k : Nat) ∧ Hid (IsPos (keysOf L) lok n) ∧ Hid (ScR w wr t p b m a7 L)) (fun _ _ i _ _ _ => 200 - (intOf i).toNat)
      case atStart => exact ⟨0, 0, ⟨#[]⟩, by omega, by omega, rfl, rfl, rfl, empty_pos _, HSc.out⟩
      case round =>
        clear HSc
        obtain ⟨k, n, lok, hkn, hn, rfl, rfl, rfl, HPo, HR⟩ := hrel
        rename World => wr
        obtain ⟨O, sm2, rb2, s, q, Dn, S, D, G, Rw, ds, rt, hTG, hfl, h7, hks48, hOo, hT⟩ := HR.out.ex
        have H48 := hide hks48
        clear hks48
        have hfl' : (flatR rt).length ≤ 100000 := by rw [hfl, ← HNL.out]; omega
        have HSn := hide (tg_scan hTG lok ⟨#[]⟩ ((1 : Int) + (ks : Nat)) hfl')
        rw [hfl, scan_part (by omega) HPo.out] at HSn
        obtain ⟨len, hlen⟩ : ∃ len, len = ((L.drop n).take ((1 : Int) + (ks : Nat)).toNat).length := ⟨_, rfl⟩
        have hlm : len = min (1 + ks) (nL - n) := by
          rw [hlen, List.length_take, List.length_drop, ← HNL.out]
          omega
        have hl1 : n + len ≤ nL := by omega
        have Hl2 : Hid (len = 0 → n = nL) := fun h => by omega
        have HLen := hide hlen
        rw [← hlen] at HSn
        clear hlm
        have HTG := hide hTG
        have HFl := hide hfl
        have H7 := hide h7
        have HOo := hide hOo
        have HT := hide hT
        clear hTG hfl h7 hOo hT hlen
        go_wp2_with fail
        refine HSn.out.mono ?_
        rintro e w2 ⟨ar, cr, rfl, hKr, _, _, GC, RwC, rC, hTC, hSC, _⟩
        have hKC := (hSC.go _).keepO HTG.out.td
        have HTC := hide hTC
        have HKr := hide hKr
        have H7C := hide (H7.out.keep hKC)
        have HT2 := hide (KeepO.from HT.out hKC HOo.out)
        clear hTC hKr hSC hKC HSn
        by_cases h0 : len = 0
        · subst h0
          have hnn : n = nL := Hl2.out rfl
          clear Hl2
          subst hnn
          clear hl1 hkn
          have HS1 := hide (tg_scan HTC.out ⟨#[]⟩ ⟨#[]⟩ 0 hfl')
          rw [scanL_all, HFl.out, ← HNL.out] at HS1
          go_wp2_with fail
          refine HS1.out.mono ?_
          rintro e w3 ⟨r1, c1, rfl, hK1, _, _, GD, RwD, rD, hTD, hSD, _⟩
          have hKD := (hSD.go _).keepO HTC.out.td
          have HT3 := hide (KeepO.from HT2.out hKD HOo.out)
          have HSm := hide (lsame_any w3 r1 a7 c1 c7 L hK1 (H7C.out.keep hKD).kv (by rw [← HNL.out]; omega))
          rw [← HNL.out] at HSm
          clear hK1 hTD hSD hKD HS1
          go_wp2_with fail
          refine HSm.out.mono ?_
          rintro e w4 ⟨rfl, hT4⟩
          have HT4 := hide (HT3.out.trans hT4)
          clear hT4
          go_wp2_with fail
          go_ret
          exact ⟨rfl, HT4.out⟩
        · go_wp2_with fail
          go_loopw [11, 14] (fun nv i wr => ∃ j z : Nat, j ≤ len ∧ z = n + j ∧ nv = .int .i64 (z : Nat) ∧ i = .int .i64 (j : Nat) ∧ Hid (Turn [] w2 wr)) (fun _ i _ => len - (intOf i).toNat)
          case atStart => exact ⟨0, n, by omega, by omega, rfl, rfl, Turn.refl [] _⟩
          case round =>
            obtain ⟨j, z, hj, hz, rfl, rfl, HTj⟩ := hrel
            rename World => wr
            by_cases hjl : j < len
            · have hzl : z < L.length := by rw [← HNL.out]; omega
              have hjr : j < ((L.drop n).take ((1 : Int) + (ks : Nat)).toNat).length := by rw [← HLen.out]; exact hjl
              have hge : ((L.drop n).take ((1 : Int) + (ks : Nat)).toNat)[j]'hjr = L[z]'hzl := by
                rw [List.getElem_take, List.getElem_drop]
                subst hz
                rfl
              obtain ⟨qa, oa, e1, x1, x2⟩ := (HKr.out.turn0 HTj.out).at hjr
              rw [hge] at x1 x2
              obtain ⟨qb, ob, e2, y1, y2⟩ := (H7C.out.kv.turn0 HTj.out).at hzl
              subst e1 e2
              have HTd := hide HTj.out.drew
              generalize L[z].1 = x at *
              generalize L[z].2 = y at *
              have hq1z := lt_of_cell x1
              have hq2z := lt_of_cell y1
              clear hge hjr
              have HS : Hid (wr.cell? ⟨qa, oa + j * 2, none⟩ = some (.string x) ∧ wr.cell? ⟨qa, oa + j * 2 + 1, none⟩ = some (.string y) ∧ wr.cell? ⟨qb, ob + z * 2, none⟩ = some (.string x) ∧ wr.cell? ⟨qb, ob + z * 2 + 1, none⟩ = some (.string y)) := ⟨x1, x2, y1, y2⟩
              have hz1 : z < nL := by omega
              have HZ2 : Hid (z + 1 = n + (j + 1)) := by show _ = _; omega
              clear hz
              have hzn : decide ((nL : Int) ≤ (z : Int)) = false := decide_eq_false (by omega)
              clear x1 x2 y1 y2
              go_upto_region 26 with fail
              refine wp_region_noPanic ?_
              refine wp_region_held_drew (S := fun W => W.cell? ⟨qa, oa + j * 2, none⟩ = some (.string x) ∧ W.cell? ⟨qa, oa + j * 2 + 1, none⟩ = some (.string y) ∧ W.cell? ⟨qb, ob + z * 2, none⟩ = some (.string x) ∧ W.cell? ⟨qb, ob + z * 2 + 1, none⟩ = some (.string y)) (by kernel_rfl) HS.out (fun hHeld => ?_)
              refine' wpAnyH_take (i := 0) (oi := { dst := some 79, op := Go.Op.move (Go.Operand.tmp 11), type := 3, pos := "more.go:37", after := #[], guard := none }) (v := _) rfl (by kernel_rfl) (by kernel_rfl) (by kernel_rfl) (fun _ _ _ h => h) (Or.inl ⟨by rfl, ?_⟩) (by assumption) ?_
              rotate_left
              · intro w hSw; (try dsimp only at hSw); go_simp <;> with_reducible rfl
              simp only [Act.put, List.setIfInBounds_toArray, List.set_cons_zero, List.set_cons_succ]
              refine' wpAnyH_take (i := 1) (oi := { dst := some 80, op := Go.Op.move (Go.Operand.tmp 7), type := 28, pos := "more.go:37", after := #[], guard := none }) (v := _) rfl (by kernel_rfl) (by kernel_rfl) (by kernel_rfl) (fun _ _ _ h => h) (Or.inl ⟨by rfl, ?_⟩) (by assumption) ?_
              rotate_left
              · intro w hSw; (try dsimp only at hSw); go_simp <;> with_reducible rfl
              simp only [Act.put, List.setIfInBounds_toArray, List.set_cons_zero, List.set_cons_succ]
              refine' wpAnyH_take (i := 2) (oi := { dst := some 81, op := Go.Op.call { callee := Go.Callee.builtin Go.Builtin.len, args := #[Go.Operand.tmp 80], argTypes := #[28] }, type := 3, pos := "more.go:37", after := #[{ on := 1, ground := Go.Ground.data }], guard := none }) (v := _) rfl (by kernel_rfl) (by kernel_rfl) (by kernel_rfl) (fun _ _ _ h => h) (Or.inl ⟨by rfl, ?_⟩) (by assumption) ?_
              rotate_left
              · intro w hSw; (try dsimp only at hSw); go_simp <;> with_reducible rfl
              simp only [Act.put, List.setIfInBounds_toArray, List.set_cons_zero, List.set_cons_succ]
              refine' wpAnyH_take (i := 3) (oi := { dst := some 82, op := Go.Op.binOp Go.BinOp.geq 3 (Go.Operand.tmp 79) (Go.Operand.tmp 81) 3, type := 4, pos := "more.go:37", after := #[{ on := 0, ground := Go.Ground.data }, { on := 2, ground := Go.Ground.data }], guard := none }) (v := .bool false) rfl (by kernel_rfl) (by kernel_rfl) (by kernel_rfl) (fun _ _ _ h => h) (Or.inl ⟨by rfl, ?_⟩) (by assumption) ?_
              · intro w hSw; go_simp
              simp only [Act.put, List.setIfInBounds_toArray, List.set_cons_zero, List.set_cons_succ]
              refine' wpAnyH_take (i := 4) (oi := { dst := some 83, op := Go.Op.move (Go.Operand.tmp 82), type := 4, pos := "more.go:37", after := #[{ on := 3, ground := Go.Ground.data }], guard := none }) (v := _) rfl (by kernel_rfl) (by kernel_rfl) (by kernel_rfl) (fun _ _ _ h => h) (Or.inl ⟨by rfl, ?_⟩) (by assumption) ?_
              rotate_left
              · intro w hSw; (try dsimp only at hSw); go_simp <;> with_reducible rfl
              simp only [Act.put, List.setIfInBounds_toArray, List.set_cons_zero, List.set_cons_succ]
              refine' wpAnyH_take (i := 5) (oi := { dst := some 84, op := Go.Op.move (Go.Operand.tmp 13), type := 28, pos := "more.go:37", after := #[{ on := 4, ground := Go.Ground.guard }], guard := some (4, false) }) (v := _) rfl (by kernel_rfl) (by kernel_rfl) (by kernel_rfl) (fun _ _ _ h => h) (Or.inl ⟨by rfl, ?_⟩) (by assumption) ?_
              rotate_left
              · intro w hSw; (try dsimp only at hSw); go_simp <;> with_reducible rfl
              simp only [Act.put, List.setIfInBounds_toArray, List.set_cons_zero, List.set_cons_succ]
              refine' wpAnyH_take (i := 6) (oi := { dst := some 85, op := Go.Op.move (Go.Operand.tmp 14), type := 3, pos := "more.go:37", after := #[{ on := 4, ground := Go.Ground.guard }], guard := some (4, false) }) (v := _) rfl (by kernel_rfl) (by kernel_rfl) (by kernel_rfl) (fun _ _ _ h => h) (Or.inl ⟨by rfl, ?_⟩) (by assumption) ?_
              rotate_left
              · intro w hSw; (try dsimp only at hSw); go_simp <;> with_reducible rfl
              simp only [Act.put, List.setIfInBounds_toArray, List.set_cons_zero, List.set_cons_succ]
              refine' wpAnyH_take (i := 7) (oi := { dst := some 86, op := Go.Op.indexAddr 28 (Go.Operand.tmp 84) (Go.Operand.tmp 85), type := 0, pos := "more.go:37", after := #[{ on := 5, ground := Go.Ground.data }, { on := 6, ground := Go.Ground.data }, { on := 4, ground := Go.Ground.guard }], guard := some (4, false) }) (v := .pointer (some ⟨qa, oa + j * 2, none⟩)) rfl (by kernel_rfl) (by kernel_rfl) (by kernel_rfl) (fun _ _ _ h => h) (Or.inl ⟨by rfl, ?_⟩) (by assumption) ?_
              · intro w hSw; go_simp
              simp only [Act.put, List.setIfInBounds_toArray, List.set_cons_zero, List.set_cons_succ]
              refine' wpAnyH_take (i := 8) (oi := { dst := some 87, op := Go.Op.load 42 (Go.Operand.tmp 86), type := 42, pos := "more.go:37", after := #[{ on := 7, ground := Go.Ground.data }, { on := 4, ground := Go.Ground.guard }], guard := some (4, false) }) (v := .agg #[.string x, .string y]) rfl (by kernel_rfl) (by kernel_rfl) (by kernel_rfl) (fun _ _ _ h => h) (Or.inl ⟨by rfl, ?_⟩) (by assumption) ?_
              · intro w hSw; obtain ⟨z1, z2, z3, z4⟩ := hSw; go_simp
              simp only [Act.put, List.setIfInBounds_toArray, List.set_cons_zero, List.set_cons_succ]
              refine' wpAnyH_take (i := 9) (oi := { dst := some 88, op := Go.Op.move (Go.Operand.tmp 7), type := 28, pos := "more.go:37", after := #[{ on := 4, ground := Go.Ground.guard }], guard := some (4, false) }) (v := _) rfl (by kernel_rfl) (by kernel_rfl) (by kernel_rfl) (fun _ _ _ h => h) (Or.inl ⟨by rfl, ?_⟩) (by assumption) ?_
              rotate_left
              · intro w hSw; (try dsimp only at hSw); go_simp <;> with_reducible rfl
              simp only [Act.put, List.setIfInBounds_toArray, List.set_cons_zero, List.set_cons_succ]
              refine' wpAnyH_take (i := 10) (oi := { dst := some 89, op := Go.Op.move (Go.Operand.tmp 11), type := 3, pos := "more.go:37", after := #[{ on := 4, ground := Go.Ground.guard }], guard := some (4, false) }) (v := _) rfl (by kernel_rfl) (by kernel_rfl) (by kernel_rfl) (fun _ _ _ h => h) (Or.inl ⟨by rfl, ?_⟩) (by assumption) ?_
              rotate_left
              · intro w hSw; (try dsimp only at hSw); go_simp <;> with_reducible rfl
              simp only [Act.put, List.setIfInBounds_toArray, List.set_cons_zero, List.set_cons_succ]
              refine' wpAnyH_take (i := 11) (oi := { dst := some 90, op := Go.Op.indexAddr 28 (Go.Operand.tmp 88) (Go.Operand.tmp 89), type := 0, pos := "more.go:37", after := #[{ on := 9, ground := Go.Ground.data }, { on := 10, ground := Go.Ground.data }, { on := 4, ground := Go.Ground.guard }], guard := some (4, false) }) (v := .pointer (some ⟨qb, ob + z * 2, none⟩)) rfl (by kernel_rfl) (by kernel_rfl) (by kernel_rfl) (fun _ _ _ h => h) (Or.inl ⟨by rfl, ?_⟩) (by assumption) ?_
              · intro w hSw; go_simp
              simp only [Act.put, List.setIfInBounds_toArray, List.set_cons_zero, List.set_cons_succ]
              refine' wpAnyH_take (i := 12) (oi := { dst := some 91, op := Go.Op.load 42 (Go.Operand.tmp 90), type := 42, pos := "more.go:37", after := #[{ on := 11, ground := Go.Ground.data }, { on := 4, ground := Go.Ground.guard }], guard := some (4, false) }) (v := .agg #[.string x, .string y]) rfl (by kernel_rfl) (by kernel_rfl) (by kernel_rfl) (fun _ _ _ h => h) (Or.inl ⟨by rfl, ?_⟩) (by assumption) ?_
              · intro w hSw; obtain ⟨z1, z2, z3, z4⟩ := hSw; go_simp
              simp only [Act.put, List.setIfInBounds_toArray, List.set_cons_zero, List.set_cons_succ]
              refine' wpAnyH_take (i := 13) (oi := { dst := some 92, op := Go.Op.binOp Go.BinOp.neq 42 (Go.Operand.tmp 87) (Go.Operand.tmp 91) 42, type := 4, pos := "more.go:37", after := #[{ on := 8, ground := Go.Ground.data }, { on := 12, ground := Go.Ground.data }, { on := 4, ground := Go.Ground.guard }], guard := some (4, false) }) (v := .bool false) rfl (by kernel_rfl) (by kernel_rfl) (by kernel_rfl) (fun _ _ _ h => h) (Or.inl ⟨by rfl, ?_⟩) (by assumption) ?_
              · intro w hSw; go_simp
              simp only [Act.put, List.setIfInBounds_toArray, List.set_cons_zero, List.set_cons_succ]
              refine' wpAnyH_take (i := 14) (oi := { dst := some 93, op := Go.Op.pick (Go.Operand.tmp 83) (Go.Operand.const (Go.Value.bool true)) (Go.Operand.tmp 92), type := 4, pos := "more.go:37", after := #[{ on := 4, ground := Go.Ground.data }, { on := 13, ground := Go.Ground.data }], guard := none }) (v := .bool false) rfl (by kernel_rfl) (by kernel_rfl) (by kernel_rfl) (fun _ _ _ h => h) (Or.inl ⟨by rfl, ?_⟩) (by assumption) ?_
              · intro w hSw; go_simp
              simp only [Act.put, List.setIfInBounds_toArray, List.set_cons_zero, List.set_cons_succ]
              refine wpAnyH_done (by kernel_rfl) ?_ _
              refine NoPanic.normal ?_
              go_wp2_with fail
              refine ⟨⟨j + 1, z + 1, by omega, HZ2.out, by go_num, by go_num, HTd.out⟩, ?_⟩
              simp [intOf]
              omega
            · obtain ⟨d, hd⟩ : ∃ d, len = d + 1 := ⟨len - 1, by omega⟩
              have hjd : j = d + 1 := by omega
              have hnl : n + d < L.length := by rw [← HNL.out]; omega
              have hjr : d < ((L.drop n).take ((1 : Int) + (ks : Nat)).toNat).length := by rw [← HLen.out]; omega
              have hge : ((L.drop n).take ((1 : Int) + (ks : Nat)).toNat)[d]'hjr = L[n + d]'hnl := by
                rw [List.getElem_take, List.getElem_drop]
              obtain ⟨qa, oa, e1, x1, x2⟩ := (HKr.out.turn0 HTj.out).at hjr
              rw [hge] at x1
              clear x2
              subst e1
              have HPn : Hid (IsPos (keysOf L) (behind L[n + d].1) z) := by
                have := behind_pos HRise.out hnl
                rw [hz, hjd]
                exact this
              have HNext : Hid (ScR w wr t p b m a7 L) := ⟨O, sm2, rb2, s, _, Dn, S, D, GC, RwC, ds, rt, HTC.out.quiet HTj.out, HFl.out, H7C.out.more HTj.out (fun _ h => h), H48.out, HOo.out, HT2.out.trans HTj.out⟩
              have hzn : k + 1 ≤ z ∧ z ≤ nL := by omega
              have hxs : L[n + d].1.size ≤ 48 := H48.out _ (List.getElem_mem hnl)
              have HB : Hid (L[n + d].1 ++ ⟨#[0]⟩ = behind L[n + d].1) := rfl
              generalize L[n + d].1 = x at *
              have hq1z := lt_of_cell x1
              have hd8 : d ≤ 100 := by omega
              clear hge hjr hz Hl2 HLen hnl hj hl1
              clear hjl h0
              subst hjd
              subst hd
              go_wp2_with fail
              refine ⟨⟨k + 1, z, _, hzn.1, hzn.2, rfl, rfl, by go_num, HPn.out, HNext.out⟩, ?_⟩
              simp [intOf]
              omega

end Go.Proofs.YthehkckdecckhaaGreatDoor
