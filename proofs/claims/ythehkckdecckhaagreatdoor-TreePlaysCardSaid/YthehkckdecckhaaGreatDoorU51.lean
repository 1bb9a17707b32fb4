/-
  The law TreeFull, walked.
-/
import Derived.Test.YthehkckdecckhaaGreatDoorU49
import Derived.Deep.CutRange
import Derived.Deep.RegionHeld3

namespace Go.Proofs.YthehkckdecckhaaGreatDoor
open Go.RowKit Go.Maps

theorem Turn.undrew' {X : List Nat} {w w' : World} (h : Turn X w.drew w') : Turn X w w' := ⟨h.os, h.tape, h.output, h.size, h.block⟩

/-- A string of n noughts. -/
def zs (n : Nat) : ByteArray := textOf (List.replicate n 0)
theorem zs_size (n : Nat) : (zs n).size = n := by unfold zs; rw [textOf_size, List.length_replicate]

/-- All that turned is new. -/
theorem KeepO.from {w0 w w' : World} {O : Nat → Prop} (h0 : Turn [] w0 w) (hK : KeepO O w w') (hO : ∀ x, x < w0.heap.size → x ≠ 1 → O x) : Turn [] w0 w' := by
  obtain ⟨X, hT, hX⟩ := hK
  exact h0.then hT fun x hx => .inr (Nat.le_of_not_lt fun hl => (hX x hx).1 (hO x hl (hX x hx).2))

/-- A round of TreeFull begins. -/
structure FullI (w0 wr : World) (t p b m i : Nat) (v7 v8 : Value) : Prop where
  ex : ∃ (O : Nat → Prop) (sm rb : Nat) (s : St) (q : Pg) (Dn S : Stt) (D : Dk) (G : Gh) (Rw : Nat → Prop) (ds : List Nat) (rd rt : Root?) (a7 a8 : Option Addr) (c7 c8 : Nat), TG wr O t p b m sm rb s q Dn S D G Rw ds rd rt ∧ v7 = .slice a7 (flatR rd).length c7 ∧ RowO wr O a7 (flatR rd) ∧ v8 = .slice a8 (flatR rt).length c8 ∧ RowO wr O a8 (flatR rt) ∧ (flatR rt).length = i ∧ (flatR rd).length ≤ 400 ∧ (∀ x ∈ flatR rt, ∃ j, j < i ∧ x.1 = nm (j * 11)) ∧ s.k ≤ 1000 * i ∧ (∀ x, x < w0.heap.size → x ≠ 1 → O x) ∧ Turn [] w0 wr

/-- What a Put of the law leaves. -/
def PutR (O : Nat → Prop) (t p b m : Nat) (s : St) (Dn : Stt) (D : Dk) (rd : Root?) (L : List Kv) (k v : ByteArray) (lf : Int) (w w' : World) (ec : Int) : Prop :=
  KeepO O w w' ∧ ((ec = 0 ∧ ∃ (sm rb : Nat) (q : Pg) (S : Stt) (G : Gh) (Rw : Nat → Prop) (ds : List Nat) (rt : Root?), TG w' O t p b m sm rb s q Dn S D G Rw ds rd rt ∧ flatR rt = putK L k v ∧ S.changed = true) ∨
    (ec = 13 ∧ lf < 0 ∧ ∃ (sm rb : Nat) (q : Pg) (S : Stt) (G : Gh) (Rw : Nat → Prop) (ds : List Nat) (rt : Root?), TG w' O t p b m sm rb s q Dn S D G Rw ds rd rt))
theorem putR_of {w : World} {O : Nat → Prop} {t p b m sm rb : Nat} {s : St} {q : Pg} {Dn S : Stt} {D : Dk} {G : Gh} {Rw : Nat → Prop} {ds : List Nat} {rd rt : Root?} (h : TG w O t p b m sm rb s q Dn S D G Rw ds rd rt) (k v : ByteArray) (hk1 : 0 < k.size) (hk : k.size ≤ 48) (hv : v.size ≤ 120) (hn : (flatR rt).length ≤ 15000) (hnd : (flatR rd).length ≤ 15000) :
    Calls Tryz.prog 12 #[.pointer (some ⟨t, 0, none⟩), .string k, .string v] w fun e w' => ∃ ec : Int, e = .returned (.int .i64 ec) ∧ PutR O t p b m s Dn D rd (flatR rt) k v ((q.left s.n : Nat) - (S.fresh : Nat) : Int) w w' ec := by
  by_cases hl : S.fresh ≤ q.left s.n
  · refine (tg_put h k v hk1 hk hv hl hn hnd).mono ?_
    rintro e w' ⟨rfl, rt', G', Rw', r, S', ds', h1, h2, h3, _, h5⟩
    exact ⟨0, rfl, h5, .inl ⟨rfl, sm, rb, _, S', G', Rw', ds', rt', h1, h2, h3⟩⟩
  · have hp := h.ok.pages
    have hc := count_le (pagesR rt)
    refine (put_full t p b m sm rb s q Dn S h.td.tm.sd h.td.tm.qd h.td.tm.off k v hk1 hk hv (by rw [h.fresh]; omega) (by omega) w h.td.tm.pa h.td.tm.tr).mono ?_
    rintro e w' ⟨rfl, hA, hT⟩
    obtain ⟨h1, h2⟩ := h.ask true hA hT
    exact ⟨13, rfl, h2, .inr ⟨rfl, by omega, sm, rb, _, S, G, Rw, ds, rt, h1⟩⟩

/-- What a Commit of the law leaves. -/
def ComR (O : Nat → Prop) (t p b m : Nat) (s : St) (D : Dk) (rd : Root?) (L : List Kv) (w w' : World) (ec : Int) : Prop :=
  KeepO O w w' ∧ ((ec = 0 ∧ ∃ (sm rb : Nat) (s' : St) (q : Pg) (Dn : Stt) (D' : Dk) (G : Gh) (Rw : Nat → Prop) (rt : Root?), TG w' O t p b m sm rb s' q Dn Dn D' G Rw [] rt rt ∧ flatR rt = L ∧ s'.k ≤ s.k + 2 * L.length + 5) ∨
    (ec = 13 ∧ ∃ (sm rb : Nat) (q : Pg) (Dn S : Stt) (G : Gh) (Rw : Nat → Prop) (ds : List Nat) (rt : Root?), TG w' O t p b m sm rb s q Dn S D G Rw ds rd rt))
theorem comR_of {w : World} {O : Nat → Prop} {t p b m sm rb : Nat} {s : St} {q : Pg} {Dn S : Stt} {D : Dk} {G : Gh} {Rw : Nat → Prop} {ds : List Nat} {rd rt : Root?} (h : TG w O t p b m sm rb s q Dn S D G Rw ds rd rt) (hch : S.changed = true) (hn : (flatR rt).length ≤ 15000) (hnd : (flatR rd).length ≤ 15000) (hk : s.k ≤ 600000) :
    Calls Tryz.prog 23 #[.pointer (some ⟨t, 0, none⟩)] w fun e w' => ∃ ec : Int, e = .returned (.int .i64 ec) ∧ ComR O t p b m s D rd (flatR rt) w w' ec := by
  have hp := h.ok.pages
  have hc := count_le (pagesR rt)
  have hf := h.fresh
  have hmb := mbs_le s.n h.td.tm.pa.laid.n16
  by_cases hl : S.fresh ≤ q.left s.n
  · refine (tg_commit h hch hl (by omega) (by omega) hk).mono ?_
    rintro e w' ⟨rfl, sm', rb', s', q', D', G', rt', h1, h2, _, h4, _, _, h7⟩
    exact ⟨0, rfl, h7, .inl ⟨rfl, sm', rb', s', q', _, D', G', Rw, rt', h1, h2, by omega⟩⟩
  · refine (commit_full t p b m sm rb s q Dn S h.td.tm.sd h.td.tm.qd h.td.tm.off hch (by omega) (by omega) w h.td.tm.pa h.td.tm.tr).mono ?_
    rintro e w' ⟨rfl, hA, hT⟩
    obtain ⟨h1, h2⟩ := h.ask true hA hT
    exact ⟨13, rfl, h2, .inr ⟨rfl, sm, rb, _, Dn, S, G, Rw, ds, rt, h1⟩⟩

set_option maxRecDepth 100000 in
set_option maxHeartbeats 12800000 in
theorem full_any (x : Int) (aa : Option Addr) (ca : Nat) (l : List Int) (hll : l.length ≤ 9223372036854775807) (w : World) (hTab : Tab w) (hA : NumsAt w aa l) : Calls Tryz.prog 5 #[.int .i64 x, .slice aa l.length ca] w fun e w' => e = .returned (.bool true) ∧ Turn [] w w' := by
  have HTab := hide hTab
  have HA := hide hA
  have hs0 : 1 < w.heap.size := lt_of_cell (hTab 0 (by omega))
  clear hTab hA
  obtain ⟨nl, HNl, hnl9⟩ : ∃ nl, Hid (l.length = nl) ∧ nl ≤ 9223372036854775807 := ⟨_, rfl, hll⟩
  rw [HNl.out]
  go_enter Tryz.func5, Tryz.ntmps5
  go_wp2_with fail
  refine (known_any w HTab.out).mono ?_
  rintro e w0 ⟨rfl, hT0⟩
  have HTab0 := hide (HTab.out.turn hT0 (by simp))
  have HT0 := hide hT0
  have h0s := hT0.size
  clear hT0
  go_wp2_with fail
  refine (within_any x 60 (by omega) (by omega) w0).mono ?_
  rintro e w0' ⟨⟨kn, hkn, rfl⟩, ew⟩
  obtain rfl : w0' = w0 := ew
  go_wp2_with fail
  have hcast : ((110 : Int) + (kn : Nat)) = ((110 + kn : Nat) : Int) := by omega
  have HMd := hide (made_new (110 + kn) (by omega) (by omega) w0' HTab0.out)
  rw [← hcast] at HMd
  clear hcast
  refine HMd.out.mono ?_
  rintro e w1 ⟨t, p, b, m, sm, rb, r, rfl, g1, g2, g3, g4, g5, g6, g7, hO, hTr1, hA1, hT1⟩
  have HTG := hide (tg_of_new (by omega) g1 g2 g3 g4 g5 g6 g7 hO hTr1 hA1 hT1)
  have HT1 := hide (HT0.out.then hT1 (by simp))
  have h1s := hT1.size
  clear hTr1 hA1 hT1 hO HMd
  go_wp2_with fail
  go_loopw [7, 8, 9, 10, 11, 12, 13, 14] (fun a b' i _ _ _ _ _ wr => ∃ j : Nat, j ≤ 400 ∧ i = .int .i64 (j : Nat) ∧ Hid (FullI w wr t p b m j a b')) (fun _ _ i _ _ _ _ _ _ => 400 - (intOf i).toNat)
  case atStart =>
    refine ⟨0, by omega, rfl, ⟨_, sm, rb, _, _, _, _, _, _, _, [], none, none, none, none, 0, 0, HTG.out, rfl, RowO.nil _ _ _, rfl, RowO.nil _ _ _, rfl, Nat.zero_le _, (fun x hx => by cases hx), Nat.zero_le _, fun x hx h1 => ⟨by omega, h1⟩, HT1.out⟩⟩
  case round =>
    obtain ⟨j, hj, rfl, HI⟩ := hrel
    obtain ⟨O, sm2, rb2, s, q, Dn, S, D, G, Rw, ds, rd, rt, a7, a8, c7, c8, hTG, rfl, h7, rfl, h8, hlen, hrd, hnm, hk, hOo, hT⟩ := HI.out.ex
    have HTG2 := hide hTG
    have H7 := hide h7
    have H8 := hide h8
    have HNm := hide hnm
    have HOo := hide hOo
    have HT := hide hT
    have HLen := hide (show (flatR rt).length = j ∧ (flatR rd).length ≤ 400 ∧ s.k ≤ 1000 * j from ⟨hlen, hrd, hk⟩)
    have hsr := hT.size
    have htr := hTG.td.tm.lts t (by simp)
    clear hTG h7 h8 hlen hrd hnm hk hOo hT HI
    by_cases hlt : j < 400
    · go_upto_if 33 with fail
      go_cut [10] from 26 to 104 (fun u wx => ∃ vn : Nat, 80 ≤ vn ∧ vn ≤ 120 ∧ u = .int .i64 (vn : Nat) ∧ wx = wr)
      case first =>
        by_cases hjl : j < nl
        · obtain ⟨ba, oa, rfl, hc⟩ := (HA.out.turn0 HT.out).at (i := j) (by rw [HNl.out]; exact hjl)
          generalize l.getD j 0 = lj at *
          have hjb := lt_of_cell hc
          go_wp2_with fail
          refine (within_any lj 41 (by omega) (by omega) wr).mono ?_
          rintro e wq ⟨⟨kv, hkv, rfl⟩, ew⟩
          obtain rfl : wq = wr := ew
          go_wp2_with fail
          go_meet
          exact ⟨80 + kv, by omega, by omega, by go_num, rfl⟩
        · go_wp2_with fail
          go_meet
          exact ⟨100, by omega, by omega, rfl, rfl⟩
      case rest =>
        obtain ⟨vn, hv1, hv2, rfl, rfl⟩ := hcut
        obtain ⟨lf, hlf⟩ : ∃ lf : Int, lf = ((q.left s.n : Nat) - (S.fresh : Nat) : Int) := ⟨_, rfl⟩
        have HLe := hide hlf
        have HL0 := hide (tg_left HTG2.out (by have := HLen.out; omega))
        rw [← hlf] at HL0
        have hht := HTG2.out.ok.height (by have := HLen.out; omega)
        clear hlf
        go_wp2_with fail
        refine HL0.out.mono ?_
        rintro e w2 ⟨rfl, hTG3, hK3⟩
        have HTG3 := hide hTG3
        have HK3 := hide hK3
        have HHt := hide (tg_height hTG3)
        generalize heightR rt = hr at *
        clear hTG3 hK3 HL0
        go_wp2_with fail
        refine HHt.out.mono ?_
        rintro e w2' ⟨rfl, ew⟩
        obtain rfl : w2' = w2 := ew
        have HRow8 := hide (H8.out.keep HK3.out)
        have HRow7 := hide (H7.out.keep HK3.out)
        have HMk := make_bytes vn (by omega)
        have HZ := hide (fun W : World => bytes_new W (List.replicate vn 0) 5)
        have HCv2 : Hid (∀ W w' : World, Turn [] (W.alloc (.cells ((List.replicate vn 0).map byteCell).toArray 5)) w' → (convert 52 9 (.slice (some ⟨W.heap.size, 0, none⟩) vn vn)).run Tryz.prog w' = .ok (.string (zs vn)) w') := fun W w' h => text_at ((HZ.out W).turn h (by simp)) vn vn (by simp)
        have hcv : ∀ W : World, (convert 52 9 (.slice (some ⟨W.heap.size, 0, none⟩) vn vn)).run Tryz.prog (W.alloc (.cells ((List.replicate vn 0).map byteCell).toArray 5)) = .ok (.string (zs vn)) (W.alloc (.cells ((List.replicate vn 0).map byteCell).toArray 5)) := fun W => text_at (HZ.out W) vn vn (by simp)
        have HNam : Hid (∀ W : World, Calls Tryz.prog 30 #[.int .i64 ((j : Int) * 11)] W fun e w' => e = .returned (.string (nm (j * 11))) ∧ Turn [] W w') := fun W => by
          have := name_any (j * 11) (by omega) W
          rw [show ((j * 11 : Nat) : Int) = (j : Int) * 11 by omega] at this
          exact this
        have hwr : IntKind.i64.wrap ((j : Int) * 11) = (j : Int) * 11 := by rw [IntKind.wrap_i64]; omega
        have HKs := hide (nm_size (j * 11))
        have HVs := hide (zs_size vn)
        have HFr : Hid (∀ x ∈ flatR rt, x.1 ≠ nm (j * 11)) := fun x hx e => by
          obtain ⟨i, hi, e2⟩ := HNm.out x hx
          rw [e2] at e
          have := nm_inj (by omega) (by omega) e
          omega
        generalize hZ : ((List.replicate vn 0).map byteCell).toArray = Z at *
        generalize hks : nm (j * 11) = ks at *
        generalize hvs : zs vn = vs at *
        have HKn := hide hks
        clear hks hvs
        have HPut : Hid (∀ W : World, Turn [] w2' W → Calls Tryz.prog 12 #[.pointer (some ⟨t, 0, none⟩), .string ks, .string vs] W fun e w' => ∃ ec : Int, e = .returned (.int .i64 ec) ∧ PutR O t p b m s Dn D rd (flatR rt) ks vs lf w2' w' ec) := fun W hW => by
          refine (putR_of (HTG3.out.quiet hW) ks vs (by rw [HKs.out]; omega) (by rw [HKs.out]; omega) (by rw [HVs.out]; omega) (by have := HLen.out; omega) (by have := HLen.out; omega)).mono ?_
          rintro e w' ⟨ec, rfl, h1, h2⟩
          refine ⟨ec, rfl, (KeepO.of0 hW).trans h1, ?_⟩
          rw [HLe.out]
          exact h2
        have hcv5 := HCv2.out w2' (w2'.alloc (.cells Z 5)).drew ((Turn.refl [] _).drew)
        go_upto_region 14 with fail
        go_cut [13] from 26 to 104 (fun u wx => ∃ ec : Int, u = .int .i64 ec ∧ Hid (PutR O t p b m s Dn D rd (flatR rt) ks vs lf w2' wx ec))
        case first =>
          go_region_with (first
            | (go_at_call 30; refine (HNam.out _).mono ?_; rintro e w4 ⟨rfl, hT4⟩; have HT4 : Hid (Turn [] w2' w4) := (by first | exact (Turn.refl [] w2').drew.then hT4 (by simp) | exact ((Turn.refl [] w2').drew.alloc _).then hT4 (by simp)); (try have hcv4 : (convert 52 9 (.slice (some ⟨w2'.heap.size, 0, none⟩) vn vn)).run Tryz.prog w4 = .ok (.string vs) w4 := HCv2.out w2' w4 (Turn.undrew' hT4)); clear hT4)
            | (go_at_call 12; refine (HPut.out _ ?_).mono ?_; (first | exact HT4.out.alloc _ | exact HT4.out); rintro e w5 ⟨ec, rfl, hP5⟩; have HP5 := hide hP5; clear hP5))
          all_goals
            go_wp2_with fail
            go_meet
            exact ⟨ec, rfl, HP5.out⟩
        case rest =>
          rename World => wP
          obtain ⟨ec, rfl, HP⟩ := hcut
          have HK5 := hide HP.out.1
          have h5s := HK5.out.size
          have HTn0 := hide (KeepO.from (KeepO.from HT.out HK3.out HOo.out) HK5.out HOo.out)
          have hsn := HTn0.out.size
          rcases HP.out.2 with ⟨rfl, sm5, rb5, q5, S5, G5, Rw5, ds5, rt5, hTG5, hfl5, hch5⟩ | ⟨rfl, hneg, sm5, rb5, q5, S5, G5, Rw5, ds5, rt5, hTG5⟩
          · have HTG5 := hide hTG5
            have HFl5 := hide hfl5
            have HCh5 := hide hch5
            have HRow8' := hide (HRow8.out.keep HK5.out)
            have HRow7' := hide (HRow7.out.keep HK5.out)
            have HPutL : Hid (∀ W : World, Turn [] wP W → Calls Tryz.prog 14 #[.slice a8 (flatR rt).length c8, .string ks, .string vs] W fun e w' => ∃ a c, e = .returned (.slice a (putK (flatR rt) ks vs).length c) ∧ RowO w' (More O wP w') a (putK (flatR rt) ks vs) ∧ Turn [] wP w') := fun W hW => by
              refine (lputl_any a8 c8 (flatR rt) ks vs (by have := HLen.out; omega) HTG2.out.ok.rises W (HRow8'.out.kv.turn0 hW)).mono ?_
              rintro e w' ⟨r, i, rfl, hp, hO, hT'⟩
              rw [put_law hp] at hO
              have hT2 := hW.trans hT'
              obtain ⟨a, c, hv, hR⟩ := RowO.new (O := O) (by omega) (own_base hO hW.size)
              exact ⟨a, c, by rw [hv], hR, hT2⟩
            have hcv6 := HCv2.out wP (wP.alloc (.cells Z 5)).drew ((Turn.refl [] _).drew)
            clear hTG5 hfl5 hch5 HPut HP hcv5
            go_upto_region 16 with fail
            go_cut [8] from 26 to 104 (fun u wx => ∃ a c, u = .slice a (putK (flatR rt) ks vs).length c ∧ Hid (RowO wx (More O wP wx) a (putK (flatR rt) ks vs) ∧ Turn [] wP wx))
            case first =>
              go_region_with (first
                | (go_at_call 30; refine (HNam.out _).mono ?_; rintro e w6 ⟨rfl, hT6⟩; have HT6 : Hid (Turn [] wP w6) := (by first | exact (Turn.refl [] wP).drew.then hT6 (by simp) | exact ((Turn.refl [] wP).drew.alloc _).then hT6 (by simp)); (try have hcv7 : (convert 52 9 (.slice (some ⟨wP.heap.size, 0, none⟩) vn vn)).run Tryz.prog w6 = .ok (.string vs) w6 := HCv2.out wP w6 (Turn.undrew' hT6)); clear hT6)
                | (go_at_call 14; refine (HPutL.out _ ?_).mono ?_; (first | exact HT6.out.alloc _ | exact HT6.out); rintro e w7 ⟨a, c, rfl, hR7, hT7⟩; have HR7 := hide hR7; have HT7 := hide hT7; clear hR7 hT7))
              all_goals
                go_wp2_with fail
                go_meet
                exact ⟨a, c, rfl, HR7.out, HT7.out⟩
            case rest =>
              obtain ⟨a9, c9, rfl, HR9⟩ := hcut
              have HTG9 := hide (HTG5.out.more HR9.out.2)
              have HR7 := hide (HRow7'.out.more HR9.out.2 (fun x hx => (.inl hx : More O wP wc x)))
              have HTn := hide (HTn0.out.trans HR9.out.2)
              have HOq : Hid (∀ x, x < w.heap.size → x ≠ 1 → More O wP wc x) := fun x h1 h2 => .inl (HOo.out x h1 h2)
              have h9s := HR9.out.2.size
              have HPl : Hid ((putK (flatR rt) ks vs).length = j + 1) := by
                show _ = _
                rw [putK_len HTG2.out.ok.rises, getK_absent HFr.out]
                have := HLen.out.1
                simp
                omega
              have HNm9 : Hid (∀ x ∈ putK (flatR rt) ks vs, ∃ i, i < j + 1 ∧ x.1 = nm (i * 11)) := fun x hx => by
                rcases putK_mem hx with rfl | hx
                · exact ⟨j, by omega, HKn.out.symm⟩
                · obtain ⟨i, hi, e⟩ := HNm.out x hx
                  exact ⟨i, by omega, e⟩
              clear hcv6 hcv hwr HMk HPutL
              by_cases h5 : j % 5 = 4
              · have hm5 : ((j : Int) % 5 == 4) = true := by rw [beq_iff_eq]; omega
                have hm5' : (j : Int) % 5 = 4 := by omega
                have HCm := hide (comR_of HTG9.out HCh5.out (by have := HPl.out; rw [HFl5.out]; omega) (by have := HLen.out; omega) (by have := HLen.out; omega))
                rw [HFl5.out] at HCm
                go_wp2_with fail
                refine HCm.out.mono ?_
                rintro e w10 ⟨ec, rfl, hC⟩
                have HK10 := hide hC.1
                have HT10 := hide (KeepO.from HTn.out hC.1 HOq.out)
                rcases hC.2 with ⟨rfl, smA, rbA, sA, qA, DnA, DA, GA, RwA, rtA, hTGA, hflA, hkA⟩ | ⟨rfl, smA, rbA, qA, DnA, SA, GA, RwA, dsA, rtA, hTGA⟩
                · have HNext : Hid (FullI w w10 t p b m (j + 1) (.slice a9 (putK (flatR rt) ks vs).length c9) (.slice a9 (putK (flatR rt) ks vs).length c9)) := by
                    have hR := HR9.out.1.keep hC.1
                    refine ⟨_, smA, rbA, sA, qA, DnA, DnA, DA, GA, RwA, [], rtA, rtA, a9, a9, c9, c9, hTGA, by rw [hflA], by rw [hflA]; exact hR, by rw [hflA], by rw [hflA]; exact hR, by rw [hflA]; exact HPl.out, by rw [hflA, HPl.out]; omega, by rw [hflA]; exact HNm9.out, ?_, HOq.out, HT10.out⟩
                    have := HLen.out
                    have := HPl.out
                    omega
                  clear hTGA hflA hkA hC HCm
                  go_wp2_with fail
                  go_roundw
                  case rel => exact ⟨j + 1, by omega, by go_num, HNext.out⟩
                  case measure => simp [intOf]; omega
                · have HTF := hide hTGA
                  have HR7 := hide (HR7.out.keep HK10.out)
                  have HTn := HT10
                  have hnl : ¬ (2 * (1 + (hr : Int)) + 1 ≤ 0) := by omega
                  clear hTGA hC HCm
                  go_wp2_with fail
                  refine (tg_abort HTF.out).mono ?_
                  rintro e wA ⟨rfl, hA1, hKA⟩
                  have HA1 := hide hA1
                  have HR7A := hide (HR7.out.keep hKA)
                  have HTA := hide (KeepO.from HTn.out hKA HOq.out)
                  have HOp := hide (opened_any (O := fun x => x < wA.heap.size ∧ x ≠ 1 ∧ x ≠ b ∧ x ≠ m) hA1.dsk (fun x hx => hx.1) ⟨fun h => h.2.1 rfl, fun h => h.2.2.1 rfl, fun h => h.2.2.2 rfl⟩ (by have := HLen.out; omega))
                  have hsA := HTA.out.size
                  clear hA1 hKA
                  go_wp2_with fail
                  refine HOp.out.mono ?_
                  rintro e wB ⟨t2, p2, smB, rbB, qB, DnB, GB, rfl, hTB, hnB, hGB, _, hTT⟩
                  have HTB := hide hTB
                  have HNB := hide hnB
                  have HGB := hide hGB
                  have HAB := hide (HA1.out.quiet hTT)
                  have HR7B := hide (HR7A.out.more hTT (fun _ h => h))
                  have HTAB := hide (HTA.out.trans hTT)
                  have hsB := hTT.size
                  have HS1 := hide (tg_scan HAB.out ⟨#[]⟩ ⟨#[]⟩ 0 (by have := HLen.out; omega))
                  rw [scanL_all] at HS1
                  clear hTB hnB hGB hTT HOp
                  go_wp2_with fail
                  refine HS1.out.mono ?_
                  rintro e wC ⟨r1, c1, rfl, hK1, _, _, GC, RwC, rC, hTC, hSC, _⟩
                  have hKC := (hSC.go _).keepO HAB.out.td
                  have HTBC := hide (HTB.out.beside HAB.out hSC (fun x hx => by
                    have h1 := HNB.out
                    have h2 : x < wA.heap.size := by
                      rcases hx with rfl | e
                      · exact HA1.out.td.tm.lts _ (by simp)
                      · exact HA1.out.td.tm.mem.lt e
                    refine ⟨by simp; omega, ?_, fun h => h, fun e => ?_⟩
                    · cases hg : GB x with
                      | none => rfl
                      | some P => have := HGB.out x (by rw [hg]; simp); omega
                    · rw [HTB.out.ddr] at e
                      cases e))
                  have HR7C := hide (HR7B.out.keep hKC)
                  have HTC := hide (KeepO.from HTAB.out hKC HOq.out)
                  have HSm := hide (lsame_any wC r1 a7 c1 c7 (flatR rd) hK1 HR7C.out.kv (by have := HLen.out; omega))
                  clear hK1 hTC hSC hKC HS1
                  go_wp2_with fail
                  refine HSm.out.mono ?_
                  rintro e wD ⟨rfl, hTD⟩
                  have HTBD := hide (HTBC.out.quiet hTD)
                  have HR7D := hide (HR7C.out.more hTD (fun _ h => h))
                  have HTD := hide (HTC.out.trans hTD)
                  have HS2 := hide (tg_scan HTBD.out ⟨#[]⟩ ⟨#[]⟩ 0 (by have := HLen.out; omega))
                  rw [scanL_all] at HS2
                  clear hTD HSm
                  go_wp2_with fail
                  refine HS2.out.mono ?_
                  rintro e wE ⟨r2, c2, rfl, hK2, _, _, GE, RwE, rE, hTE, hSE, _⟩
                  obtain ⟨X, hX, hX1⟩ := hSE.turn
                  have hXn : ∀ y ∈ X, wA.heap.size ≤ y := fun y hy => by
                    rcases hX1 y hy with rfl | e
                    · exact HNB.out.2.1
                    · exact HGB.out y e
                  have HTE : Hid (Turn [] w wE) := HTD.out.then hX (fun y hy => .inr (Nat.le_trans hsA (hXn y hy)))
                  have hKE : KVsAt wE a7 (flatR rd) := HR7D.out.kv.turn hX (fun y hl ha hm => by
                    have h1 := hXn _ hm
                    have h2 := HA1.out.td.tm.ob _ (HR7A.out.own y hl ha).1
                    omega)
                  have HSm2 := hide (lsame_any wE r2 a7 c2 c7 (flatR rd) hK2 hKE (by have := HLen.out; omega))
                  clear hK2 hTE hSE hX hX1 hXn hKE HS2
                  go_wp2_with fail
                  refine HSm2.out.mono ?_
                  rintro e wF ⟨rfl, hTF⟩
                  have HTF2 := hide (HTE.out.trans hTF)
                  clear hTF HSm2
                  go_wp2_with fail
                  go_ret
                  exact ⟨rfl, HTF2.out⟩
              · have hm5 : ((j : Int) % 5 == 4) = false := by rw [beq_eq_false_iff_ne]; omega
                have hm5' : ¬ (j : Int) % 5 = 4 := by omega
                have HNext : Hid (FullI w wc t p b m (j + 1) (.slice a7 (flatR rd).length c7) (.slice a9 (putK (flatR rt) ks vs).length c9)) := by
                  refine ⟨_, sm5, rb5, s, q5, Dn, S5, D, G5, Rw5, ds5, rd, rt5, a7, a9, c7, c9, HTG9.out, rfl, HR7.out, by rw [HFl5.out], by rw [HFl5.out]; exact HR9.out.1, by rw [HFl5.out]; exact HPl.out, HLen.out.2.1, by rw [HFl5.out]; exact HNm9.out, by have := HLen.out; omega, HOq.out, HTn.out⟩
                go_wp2_with fail
                go_roundw
                case rel => exact ⟨j + 1, by omega, by go_num, HNext.out⟩
                case measure => simp [intOf]; omega
          · have HTF := hide hTG5
            have HR7 := hide (HRow7.out.keep HK5.out)
            have HTn := HTn0
            have HOq := HOo
            have hnl : ¬ (2 * (1 + (hr : Int)) + 1 ≤ lf) := by omega
            clear hTG5 HPut HP hcv hcv5 hwr HMk
            go_wp2_with fail
            refine (tg_abort HTF.out).mono ?_
            rintro e wA ⟨rfl, hA1, hKA⟩
            have HA1 := hide hA1
            have HR7A := hide (HR7.out.keep hKA)
            have HTA := hide (KeepO.from HTn.out hKA HOq.out)
            have HOp := hide (opened_any (O := fun x => x < wA.heap.size ∧ x ≠ 1 ∧ x ≠ b ∧ x ≠ m) hA1.dsk (fun x hx => hx.1) ⟨fun h => h.2.1 rfl, fun h => h.2.2.1 rfl, fun h => h.2.2.2 rfl⟩ (by have := HLen.out; omega))
            have hsA := HTA.out.size
            clear hA1 hKA
            go_wp2_with fail
            refine HOp.out.mono ?_
            rintro e wB ⟨t2, p2, smB, rbB, qB, DnB, GB, rfl, hTB, hnB, hGB, _, hTT⟩
            have HTB := hide hTB
            have HNB := hide hnB
            have HGB := hide hGB
            have HAB := hide (HA1.out.quiet hTT)
            have HR7B := hide (HR7A.out.more hTT (fun _ h => h))
            have HTAB := hide (HTA.out.trans hTT)
            have hsB := hTT.size
            have HS1 := hide (tg_scan HAB.out ⟨#[]⟩ ⟨#[]⟩ 0 (by have := HLen.out; omega))
            rw [scanL_all] at HS1
            clear hTB hnB hGB hTT HOp
            go_wp2_with fail
            refine HS1.out.mono ?_
            rintro e wC ⟨r1, c1, rfl, hK1, _, _, GC, RwC, rC, hTC, hSC, _⟩
            have hKC := (hSC.go _).keepO HAB.out.td
            have HTBC := hide (HTB.out.beside HAB.out hSC (fun x hx => by
              have h1 := HNB.out
              have h2 : x < wA.heap.size := by
                rcases hx with rfl | e
                · exact HA1.out.td.tm.lts _ (by simp)
                · exact HA1.out.td.tm.mem.lt e
              refine ⟨by simp; omega, ?_, fun h => h, fun e => ?_⟩
              · cases hg : GB x with
                | none => rfl
                | some P => have := HGB.out x (by rw [hg]; simp); omega
              · rw [HTB.out.ddr] at e
                cases e))
            have HR7C := hide (HR7B.out.keep hKC)
            have HTC := hide (KeepO.from HTAB.out hKC HOq.out)
            have HSm := hide (lsame_any wC r1 a7 c1 c7 (flatR rd) hK1 HR7C.out.kv (by have := HLen.out; omega))
            clear hK1 hTC hSC hKC HS1
            go_wp2_with fail
            refine HSm.out.mono ?_
            rintro e wD ⟨rfl, hTD⟩
            have HTBD := hide (HTBC.out.quiet hTD)
            have HR7D := hide (HR7C.out.more hTD (fun _ h => h))
            have HTD := hide (HTC.out.trans hTD)
            have HS2 := hide (tg_scan HTBD.out ⟨#[]⟩ ⟨#[]⟩ 0 (by have := HLen.out; omega))
            rw [scanL_all] at HS2
            clear hTD HSm
            go_wp2_with fail
            refine HS2.out.mono ?_
            rintro e wE ⟨r2, c2, rfl, hK2, _, _, GE, RwE, rE, hTE, hSE, _⟩
            obtain ⟨X, hX, hX1⟩ := hSE.turn
            have hXn : ∀ y ∈ X, wA.heap.size ≤ y := fun y hy => by
              rcases hX1 y hy with rfl | e
              · exact HNB.out.2.1
              · exact HGB.out y e
            have HTE : Hid (Turn [] w wE) := HTD.out.then hX (fun y hy => .inr (Nat.le_trans hsA (hXn y hy)))
            have hKE : KVsAt wE a7 (flatR rd) := HR7D.out.kv.turn hX (fun y hl ha hm => by
              have h1 := hXn _ hm
              have h2 := HA1.out.td.tm.ob _ (HR7A.out.own y hl ha).1
              omega)
            have HSm2 := hide (lsame_any wE r2 a7 c2 c7 (flatR rd) hK2 hKE (by have := HLen.out; omega))
            clear hK2 hTE hSE hX hX1 hXn hKE HS2
            go_wp2_with fail
            refine HSm2.out.mono ?_
            rintro e wF ⟨rfl, hTF⟩
            have HTF2 := hide (HTE.out.trans hTF)
            clear hTF HSm2
            go_wp2_with fail
            go_ret
            exact ⟨rfl, HTF2.out⟩
    · obtain rfl : j = 400 := by omega
      have hl4 : (flatR rt).length = 400 := HLen.out.1
      have HL4 := hide hl4
      clear hl4
      rw [HL4.out]
      go_wp2_with fail
      go_ret
      exact ⟨rfl, HT.out⟩

end Go.Proofs.YthehkckdecckhaaGreatDoor
