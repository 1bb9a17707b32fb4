/-
  settled, walked: its joining.
  edited: what it leaves, and what is kept on the way down.
  edited: a branch, put together.
  edited, walked, by induction on the level.
  rootOf, of any node.
  rootOf, walked.
  edit, walked, of a tree that has keys.
  What Put's and Del's closures do to a leaf.
  edit of a tree without keys: a Put.
-/
import Derived.Test.YthehkckdecckhaaGreatDoorU43
import Derived.Deep.RegionHeld3
import Derived.Deep.CutBlock
import Derived.Test.YthehkckdecckhaaGreatDoorU41
import Derived.Test.YthehkckdecckhaaGreatDoorU33
import Derived.Test.YthehkckdecckhaaGreatDoorU03
import Derived.Test.YthehkckdecckhaaGreatDoorU37
import Derived.Test.YthehkckdecckhaaGreatDoorU35

namespace Go.Proofs.YthehkckdecckhaaGreatDoor
open Go.RowKit Go.Maps

theorem kids_nil {w : World} {a : Option Addr} {l : List (ByteArray × Nat)} (h : l = []) : KidsAt w a l := .inl h

def leftS {h : Nat} (a : List (En (h + 1))) (n : List (En h)) : Bool := match a.getLast? with
  | none => false
  | some j => shortN n (kidsOf j)
def rightS {h : Nat} (z : List (En (h + 1))) (n : List (En h)) : Bool := match z with
  | [] => false
  | m :: _ => shortN n (kidsOf m)

set_option maxRecDepth 100000 in
set_option maxHeartbeats 6400000 in
theorem tm_settled {w : World} {O : Nat → Prop} {t p b m sm rb : Nat} {s : St} {q : Pg} {Dn S : Stt} {D : Dk} {G : Gh} {Rw : Nat → Prop} {ds : List Nat} {hh b0 off cap : Nat} {ks : List (ByteArray × Nat)} {bl a z : List (En (hh + 1))} {c : En (hh + 1)} {nd : Nd} {T : TypeId} {v : Value} {n : List (En hh)} (h : SIn w O t p b m sm rb s q Dn S D G Rw ds hh b0 off ks bl nd T v n) (hbl : bl = a ++ c :: z) (hf : ∀ e ∈ bl, FullE e) (hn : ∀ e ∈ n, FullE e) (hz : sizeN n ≤ 1000) (htwo : 2 ≤ bl.length) (hlen : bl.length ≤ 300) (hcap : ks.length ≤ cap ∧ cap ≤ 9223372036854775807) (hds : ds.length ≤ 50000) (hfr : S.fresh ≤ 50000 ∧ ∀ e ∈ a ++ z, pageOf e = 0 → 1 ≤ S.fresh) :
    Calls Tryz.prog 89 #[.pointer (some ⟨t, 0, none⟩), .slice (some ⟨b0, off, none⟩) ks.length cap, .int .i64 (a.length : Nat), .iface T v] w fun e w' => ∃ v', e = .returned v' ∧ SOut w w' O t p b m sm rb s q Dn S D G Rw ds hh a z c n v v' := by
  have hkl : ks.length = bl.length := h.both.length
  have hal : a.length < bl.length := by rw [hbl]; simp
  obtain ⟨hc0, hc1, hlv, hx1, hx2⟩ := h.at_ (i := a.length) (by omega) hal
  clear hx1 hx2
  have H := hide h
  have HF := hide (show (∀ e ∈ bl, FullE e) ∧ (∀ e ∈ n, FullE e) ∧ sizeN n ≤ 1000 ∧ bl = a ++ c :: z ∧ ∀ e ∈ a ++ z, pageOf e = 0 → 1 ≤ S.fresh from ⟨hf, hn, hz, hbl, hfr.2⟩)
  have hfr1 := hfr.1
  have HLen := hide hkl
  obtain ⟨lv, hlv'⟩ : ∃ lv, lv = hh + 1 := ⟨_, rfl⟩
  replace hlv : w.cell? ⟨(ks[a.length]'(by omega)).2, 1, none⟩ = some (.int .i64 ((lv : Nat) : Int)) := by rw [hlv']; exact hlv
  have HLv := hide hlv'
  obtain ⟨i, hi⟩ : ∃ i, i = a.length := ⟨_, rfl⟩
  obtain ⟨N, hN⟩ : ∃ N, N = ks.length := ⟨_, rfl⟩
  have HKs := hide hN
  have HIa := hide hi
  have hiN : i < N := by omega
  have h2N : 2 ≤ N := by omega
  have hN300 : N ≤ 300 := by omega
  have hcapN : N ≤ cap := by omega
  have hcapM : cap ≤ 9223372036854775807 := hcap.2
  simp only [← hi] at hc0 hc1 hlv
  rw [← hi, ← hN]
  generalize ks[i].2 = ai at *
  generalize bl[i].key = lo0 at *
  clear h hf hn hz htwo hlen hcap hfr hkl hal hlv' hi hN hbl
  go_enter Tryz.func89, Tryz.ntmps89
  go_upto_block 0 with fail
  go_cut [3, 10, 11] from 23 to 73 (fun nv fv tv wx => SMid w wx O t p b m sm rb s q Dn S D G Rw ds hh b0 off ks bl a z c n v nv fv tv)
  case first =>
    go_upto_region 3 with fail
    go_cut [23] from 24 to 36 (fun u wx => u = .bool (leftS a n) ∧ SRd w wx O t p b m sm rb s q Dn S D G Rw ds hh b0 off ks bl nd T v n)
    case first =>
      rcases List.eq_nil_or_concat a with ha | ⟨a1, j, ha⟩
      · obtain rfl : i = 0 := by rw [HIa.out, ha]; rfl
        go_wp2_with fail
        go_meet
        case rel => exact ⟨by rw [ha]; rfl, ⟨G, Rw, q.rd, H.out, Grown.refl _ _, TGo.refl _ _ _ _ _ _⟩⟩
      · rw [List.concat_eq_append] at ha
        obtain ⟨f, hfi⟩ : ∃ f, f = a1.length := ⟨_, rfl⟩
        have hif : i = f + 1 := by rw [HIa.out, ha, hfi]; simp
        subst hif
        simp only [Int.natCast_add, Int.cast_ofNat_Int]
        obtain ⟨af, _, hcf, hB⟩ := H.out.beside HF.out.1 HF.out.2.1 HF.out.2.2.1 (i := f) (x := j) (by rw [HF.out.2.2.2.1, ha, hfi]; simp)
        have HB := hide hB.short
        have hls : leftS a n = shortN n (kidsOf j) := by rw [ha]; unfold leftS; simp
        have HLs := hide hls
        clear hB hls ha hfi
        go_wp2_with fail
        refine HB.out.mono ?_
        rintro e w1 ⟨rfl, hR⟩
        have HR := hide hR
        clear hR
        go_wp2_with fail
        go_meet
        case rel => exact ⟨congrArg Value.bool HLs.out.symm, HR.out⟩
    case rest =>
      obtain ⟨rfl, hRd⟩ := hcut
      obtain ⟨G1, Rw1, r1, hS1, hGr1, hGo1⟩ := hRd.ex
      have HS1 := hide hS1
      have HGr1 := hide hGr1
      have HGo1 := hide hGo1
      clear hRd hS1 hGr1 hGo1 hc0 hc1 hlv
      cases hL : leftS a n with
      | true =>
        rcases List.eq_nil_or_concat a with ha | ⟨a1, j, ha⟩
        · rw [ha] at hL
          cases hL
        rw [List.concat_eq_append] at ha
        have hls : leftS a n = shortN n (kidsOf j) := by rw [ha]; unfold leftS; simp
        rw [hls] at hL
        obtain ⟨f, hfi⟩ : ∃ f, f = a1.length := ⟨_, rfl⟩
        have hif : i = f + 1 := by rw [HIa.out, ha, hfi]; simp
        subst hif
        simp only [Int.natCast_add, Int.cast_ofNat_Int]
        obtain ⟨af, _, hcf, hB⟩ := HS1.out.beside HF.out.1 HF.out.2.1 HF.out.2.2.1 (i := f) (x := j) (by rw [HF.out.2.2.2.1, ha, hfi]; simp)
        have HB := hide (hB.take (by omega) ⟨by omega, HF.out.2.2.2.2 j (by rw [ha]; simp)⟩)
        have HP := hide (pick_left (a1 := a1) (z := z) (c := c) (HF.out.2.2.2.1.trans (by rw [ha]; simp)) hL HF.out.1 HF.out.2.1 HF.out.2.2.1)
        rw [← ha, ← hfi] at HP
        have HJf := hide (full_at (HF.out.1 j (by rw [HF.out.2.2.2.1, ha]; simp)))
        clear hB hls hfi hL ha
        go_wp2_with fail
        refine HB.out.mono ?_
        rintro e w2 ⟨T3, v3, nd3, G2, Rw2, r2, S2, ds2, rfl, hN3, hNode3, hS2, hGr2, hGo2, hMv⟩
        have HJ := hide (tm_join hN3 hS2.nv hNode3 hS2.nis ⟨by have := HJf.out.2.2.1; have := len_size (kidsOf j); omega, by have := HF.out.2.2.1; have := len_size n; omega⟩ HP.out.some)
        have HS2 := hide hS2
        have HGr2 := hide (HGr1.out.trans hGr2)
        have HGo2 := hide (HGo1.out.trans hGo2)
        have HMv := hide hMv
        clear hN3 hNode3 hS2 hGr2 hGo2 hMv
        go_wp2_with fail
        refine HJ.out.mono ?_
        rintro e w3 ⟨T2, v2, nd2, bb, rfl, hin, hbb, hn2, hT3⟩
        obtain ⟨hS3, hrow⟩ := HS2.out.node hT3 hin hbb hn2
        have HS3 := hide hS3
        have HGo3 := hide (HGo2.out.quiet hT3)
        have HRow := hide (show ∀ x, rowOf v2 x → rowOf v x ∨ Rw2 x ∨ w.heap.size ≤ x from fun x hx => .inr (.inr (by rw [hrow x hx]; exact Nat.le_trans HGo2.out.size hbb)))
        clear hin hbb hn2 hT3 hS3 hrow
        go_wp2_with fail
        go_meet
        case rel => exact ⟨T2, v2, nd2, _, f, f + 1 + 1, S2, ds2, G2, Rw2, r2, _, rfl, by go_num, by go_num, HP.out, HS3.out, HGr2.out, HGo3.out, HMv.out, HRow.out⟩
      | false =>
        have hnl : ∀ j, a.getLast? = some j → shortN n (kidsOf j) = false := fun j hj => by
          unfold leftS at hL
          rw [hj] at hL
          exact hL
        have HNl := hide hnl
        clear hL hnl
        have hNz : N = i + 1 + z.length := by rw [HKs.out, HLen.out, HF.out.2.2.2.1, HIa.out]; simp; omega
        go_upto_region 6 with fail
        go_cut [48] from 49 to 62 (fun u wx => u = .bool (rightS z n) ∧ SRd w wx O t p b m sm rb s q Dn S D G Rw ds hh b0 off ks bl nd T v n)
        case first =>
          cases hzz : z with
          | nil =>
            obtain rfl : N = i + 1 := by rw [hNz, hzz]; rfl
            have hz0 := hide hzz
            clear hzz hNz
            go_wp2_with fail
            go_meet
            case rel => exact ⟨by rw [hz0.out]; rfl, ⟨G1, Rw1, r1, HS1.out, HGr1.out, HGo1.out⟩⟩
          | cons mm z' =>
            have hlt : i + 1 < N := by rw [hNz, hzz]; simp
            obtain ⟨af, _, hcf, hB⟩ := HS1.out.beside HF.out.1 HF.out.2.1 HF.out.2.2.1 (i := i + 1) (x := mm) (by rw [HF.out.2.2.2.1, hzz, HIa.out]; simp)
            have HB := hide hB.short
            have hls : rightS (mm :: z') n = shortN n (kidsOf mm) := rfl
            have HLs := hide hls
            have HZz := hide hzz
            clear hB hls hzz hNz
            go_wp2_with fail
            refine HB.out.mono ?_
            rintro e w2 ⟨rfl, hR⟩
            have HR := hide hR
            clear hR
            go_wp2_with fail
            go_meet
            case rel => exact ⟨by rw [HZz.out, HLs.out], SRd.then_ (r := r1) rfl HGr1.out HGo1.out HR.out⟩
        case rest =>
          obtain ⟨rfl, hRd⟩ := hcut
          clear HS1 HGr1 HGo1
          obtain ⟨G1, Rw1, r1, hS1, hGr1, hGo1⟩ := hRd.ex
          have HS1 := hide hS1
          have HGr1 := hide hGr1
          have HGo1 := hide hGo1
          clear hRd hS1 hGr1 hGo1
          cases hR : rightS z n with
          | true =>
            cases hzz : z with
            | nil =>
              rw [hzz] at hR
              cases hR
            | cons mm z' =>
              have hlt : i + 1 < N := by rw [hNz, hzz]; simp
              have hsm : shortN n (kidsOf mm) = true := by rw [hzz] at hR; exact hR
              obtain ⟨af, _, hcf, hB⟩ := HS1.out.beside HF.out.1 HF.out.2.1 HF.out.2.2.1 (i := i + 1) (x := mm) (by rw [HF.out.2.2.2.1, hzz, HIa.out]; simp)
              have HB := hide (hB.take (by omega) ⟨by omega, HF.out.2.2.2.2 mm (by rw [hzz]; simp)⟩)
              have HP := hide (pick_right (c := c) (HF.out.2.2.2.1.trans (by rw [hzz])) HNl.out hsm HF.out.1 HF.out.2.1 HF.out.2.2.1)
              rw [← HIa.out, ← hzz] at HP
              have HJf := hide (full_at (HF.out.1 mm (by rw [HF.out.2.2.2.1, hzz]; simp)))
              clear hB hR hsm hzz hNz
              go_wp2_with fail
              refine HB.out.mono ?_
              rintro e w2 ⟨T3, v3, nd3, G2, Rw2, r2, S2, ds2, rfl, hN3, hNode3, hS2, hGr2, hGo2, hMv⟩
              have HJ := hide (tm_join hS2.nv hN3 hS2.nis hNode3 ⟨by have := HF.out.2.2.1; have := len_size n; omega, by have := HJf.out.2.2.1; have := len_size (kidsOf mm); omega⟩ HP.out.some)
              have HS2 := hide hS2
              have HGr2 := hide (HGr1.out.trans hGr2)
              have HGo2 := hide (HGo1.out.trans hGo2)
              have HMv := hide hMv
              clear hN3 hNode3 hS2 hGr2 hGo2 hMv
              go_wp2_with fail
              refine HJ.out.mono ?_
              rintro e w3 ⟨T2, v2, nd2, bb, rfl, hin, hbb, hn2, hT3⟩
              obtain ⟨hS3, hrow⟩ := HS2.out.node hT3 hin hbb hn2
              have HS3 := hide hS3
              have HGo3 := hide (HGo2.out.quiet hT3)
              have HRow := hide (show ∀ x, rowOf v2 x → rowOf v x ∨ Rw2 x ∨ w.heap.size ≤ x from fun x hx => .inr (.inr (by rw [hrow x hx]; exact Nat.le_trans HGo2.out.size hbb)))
              clear hin hbb hn2 hT3 hS3 hrow
              go_wp2_with fail
              go_meet
              case rel => exact ⟨T2, v2, nd2, _, i, i + 1 + 1, S2, ds2, G2, Rw2, r2, _, rfl, by go_num, by go_num, HP.out, HS3.out, HGr2.out, HGo3.out, HMv.out, HRow.out⟩
          | false =>
            have HP := hide (pick_none (c := c) HF.out.2.2.2.1 HNl.out (fun m z' e => by rw [e] at hR; exact hR) (by rw [← HLen.out, ← HKs.out]; exact h2N) HF.out.2.1 HF.out.2.2.1)
            rw [← HIa.out] at HP
            clear hR hNz
            go_wp2_with fail
            go_meet
            case rel => exact ⟨T, v, nd, n, i, i + 1, S, ds, G1, Rw1, r1, _, rfl, by go_num, by go_num, HP.out, HS1.out, HGr1.out, HGo1.out, Mvd.nil _ _, fun x hx => .inl hx⟩
  case rest =>
    obtain ⟨T2, v2, nd2, n2, f, f2, S2, ds2, G2, Rw2, r2, X, rfl, rfl, rfl, hP, hS2, hGr2, hGo2, hMv, hRow⟩ := hcut.ex
    have hfN : f < N := by have := hP.lt; have := hP.le; rw [HKs.out, HLen.out]; omega
    have hffN : f2 ≤ N := by have := hP.le; rw [HKs.out, HLen.out]; omega
    have hflt := hP.lt
    have hfb : f < bl.length := by rw [← HLen.out, ← HKs.out]; exact hfN
    obtain ⟨lo, hlo⟩ : ∃ lo, lo = bl[f].key := ⟨_, rfl⟩
    have HLo := hide (show ∃ hf : f < bl.length, lo = bl[f].key from ⟨hfb, hlo⟩)
    obtain ⟨hcf, hx9⟩ := hS2.at_ (i := f) (by rw [← HKs.out]; exact hfN) hfb
    clear hx9
    rw [← hlo] at hcf
    have HP := hide hP
    have HS2 := hide hS2
    have HGr2 := hide hGr2
    have HGo2 := hide hGo2
    have HMv := hide hMv
    have HRow := hide hRow
    have hfr2 : S2.fresh ≤ 100000 := by have := hMv.fresh; omega
    have HAll := hide (show ∀ w', Turn [t] wc w' → w'.cell? ⟨b0, off + f * 2, none⟩ = some (.string lo) from fun w' hT => (hT.cell (lt_of_cell hcf) (by simp; rintro rfl; exact (HS2.out.td.tm.own b0 (.inr HS2.out.row)).1 (by simp))).trans hcf)
    have HPl := hide (show ∀ w', Turn [] wc w' → Calls Tryz.prog 86 #[.pointer (some ⟨t, 0, none⟩), .iface T2 v2, .int .i64 ((lv : Nat) : Int), .string lo] w' fun e w'' => ∃ v' bb, e = .returned v' ∧ rowOf v2 bb ∧ NewPl w' O t p b m sm rb s { q with rd := r2 } Dn S2 D G2 Rw2 ds2 bb hh (placedN n2 lo) w'' v' from fun w' hT => by rw [HLv.out]; exact (HS2.out.quiet hT).placed HP.out.full HP.out.size HP.out.some hfr2 lo)
    clear hcut hP hS2 hGr2 hGo2 hMv hRow hc0 hc1 hlv hlo hfb
    have hl1 : (f : Int) ≤ (cap : Int) := by omega
    have hl2 : (f2 : Int) ≤ (N : Int) := by omega
    have hl3 : (f2 : Int) ≤ (cap : Int) := by omega
    by_cases hne : cap = f2
    · subst hne
      go_upto_region 9 with fail
      go_region_held3 (fun w' => w'.cell? ⟨b0, off + f * 2, none⟩ = some (.string lo)) (first | assumption | exact HAll.out _ (Turn.refl [t] _) | exact HAll.out _ (Turn.refl [t] wc).drew | exact HAll.out _ HT3.out | exact HAll.out _ (HT3.out.trans ((Turn.refl [t] _).alloc _)) | exact HAll.out _ (HT3.out.trans (HT5.out.mono (by simp))))
        (first
          | (go_at_call 122; with_reducible refine (HS2.out.cat (f2 := cap) HT3.out (by rw [← HKs.out]; omega) (by rw [← HKs.out]; omega) HK2.out (by rw [HB2.out.length]; exact (placed_len n2 lo).2) (by rw [← HKs.out]; omega) (by simp) (kids_nil (List.drop_eq_nil_of_le (by rw [← HKs.out]; omega))) _ _).mono ?_; rintro e w5 ⟨v5, base, rfl, hbase, hO5, hT5⟩; have HO5 := hide hO5; have HT5 := hide hT5; clear hO5 hT5)
          | (go_at_call 86; with_reducible refine (HPl.out _ (Turn.refl [] wc).drew).mono ?_; rintro e w3 ⟨v', bb, rfl, hbb, hN⟩; obtain ⟨G3, ks2, g2, rfl, hg2, hK2, hB2, hTD3, hGr3, hT3, hnew, _, _⟩ := hN.ex; have HBb := hide hbb; have HK2 := hide hK2; have HB2 := hide hB2; have HTD3 := hide hTD3; have HGr3 := hide hGr3; have HT3 := hide ((Turn.refl [t] wc).drew.trans hT3); have HNew := hide hnew; clear hbb hN hK2 hB2 hTD3 hGr3 hT3 hnew))
      all_goals
        go_wp2_with fail
        go_ret
        exact ⟨v5, rfl, sout_of HS2.out HP.out HLo.out HGr2.out HGo2.out HMv.out HRow.out HBb.out HB2.out HTD3.out HGr3.out (HT3.out) HNew.out HO5.out (by have := (placed_len n2 lo).1; rw [← HB2.out.length] at this; omega) HT5.out hbase⟩
    · go_upto_region 9 with fail
      go_region_held3 (fun w' => w'.cell? ⟨b0, off + f * 2, none⟩ = some (.string lo)) (first | assumption | exact HAll.out _ (Turn.refl [t] _) | exact HAll.out _ (Turn.refl [t] wc).drew | exact HAll.out _ HT3.out | exact HAll.out _ (HT3.out.trans ((Turn.refl [t] _).alloc _)) | exact HAll.out _ (HT3.out.trans (HT5.out.mono (by simp))))
        (first
          | (go_at_call 122; with_reducible refine (HS2.out.cat HT3.out (by rw [← HKs.out]; omega) (by rw [← HKs.out]; omega) HK2.out (by rw [HB2.out.length]; exact (placed_len n2 lo).2) (by rw [← HKs.out]) (by simp) ((HS2.out.kids_t HT3.out).part f2).2 _ _).mono ?_; rintro e w5 ⟨v5, base, rfl, hbase, hO5, hT5⟩; have HO5 := hide hO5; have HT5 := hide hT5; clear hO5 hT5)
          | (go_at_call 86; with_reducible refine (HPl.out _ (Turn.refl [] wc).drew).mono ?_; rintro e w3 ⟨v', bb, rfl, hbb, hN⟩; obtain ⟨G3, ks2, g2, rfl, hg2, hK2, hB2, hTD3, hGr3, hT3, hnew, _, _⟩ := hN.ex; have HBb := hide hbb; have HK2 := hide hK2; have HB2 := hide hB2; have HTD3 := hide hTD3; have HGr3 := hide hGr3; have HT3 := hide ((Turn.refl [t] wc).drew.trans hT3); have HNew := hide hnew; clear hbb hN hK2 hB2 hTD3 hGr3 hT3 hnew))
      all_goals
        go_wp2_with fail
        go_ret
        exact ⟨v5, rfl, sout_of HS2.out HP.out HLo.out HGr2.out HGo2.out HMv.out HRow.out HBb.out HB2.out HTD3.out HGr3.out (HT3.out) HNew.out HO5.out (by have := (placed_len n2 lo).1; rw [← HB2.out.length] at this; omega) HT5.out hbase⟩

end Go.Proofs.YthehkckdecckhaaGreatDoor

namespace Go.Proofs.YthehkckdecckhaaGreatDoor
open Go.RowKit Go.Maps

/-- What an edit does to a leaf's pairs, and what it keeps. -/
structure EdK (key : ByteArray) (want : Option ByteArray) (fK : List Kv → List Kv) : Prop where
  mid : ∀ A m Z, (∀ x ∈ A, klt x.1 key) → (∀ x ∈ Z, klt key x.1) → fK (A ++ (m ++ Z)) = A ++ (fK m ++ Z)
  made : ∀ (lo : ByteArray) (hi : Option ByteArray) (l : List (En 0)), Starts lo l → OrdN hi l → (∀ e ∈ l, FullE e) → sizeN l ≤ 495 → ¬ klt key lo → Below? key hi → getK l key = want → Made (h := 0) lo hi (fK l)

/-- A node between bounds, on a key's way. -/
structure WayIn (key : ByteArray) (lo : ByteArray) (hi : Option ByteArray) {h : Nat} (l : List (En h)) : Prop where
  starts : Starts lo l
  ord : OrdN hi l
  low : ¬ klt key lo
  high : Below? key hi
  full : ∀ e ∈ l, FullE e
  size : sizeN l ≤ 495
  some : 1 ≤ h → 2 ≤ l.length
theorem minN_two (h : Nat) : 2 ≤ minN (h + 1) := by simp [minN]
theorem WayIn.sub {key lo : ByteArray} {hi : Option ByteArray} {h : Nat} {l : List (En h)} (hw : WayIn key lo hi l) : Sub key l := ⟨⟨lo, hi, hw.starts, hw.ord, hw.low, hw.high⟩, hw.full, hw.size, fun h1 => by have := hw.some h1; omega⟩
theorem WayIn.down {key lo : ByteArray} {hi : Option ByteArray} {h : Nat} {l a z : List (En (h + 1))} {c : En (h + 1)} (hw : WayIn key lo hi l) (hs : Spot hi l a c z key) : WayIn key c.key (topK hi z) (kidsOf c) := by
  have ho := hw.ord
  rw [hs.eq] at ho
  obtain ⟨_, g2, g3⟩ := ord_at ho
  obtain ⟨_, f2, f3, f4⟩ := full_at (hw.full c (by rw [hs.eq]; simp))
  refine ⟨g2, g3, hs.le, hs.lt, f4, f3, fun h1 => ?_⟩
  cases h with
  | zero => omega
  | succ h => exact Nat.le_trans (minN_two h) f2

/-- What edited leaves. -/
structure EOut (w w' : World) (O : Nat → Prop) (t p b m sm rb : Nat) (s : St) (q : Pg) (Dn S : Stt) (D : Dk) (G : Gh) (Rw : Nat → Prop) (ds : List Nat) (pg : Nat) (fK : List Kv → List Kv) (lo : ByteArray) (hi : Option ByteArray) {hh : Nat} (l : List (En hh)) (e : Value) : Prop where
  ex : ∃ (n : List (En hh)) (T : TypeId) (v : Value) (nd : Nd) (G' : Gh) (Rw' : Nat → Prop) (r : Bool) (S' : Stt) (ds' X : List Nat) (y : Nat), e = .iface T v ∧ Made lo hi n ∧ flatN n = fK (flatN l) ∧ (1 ≤ hh → 1 ≤ n.length) ∧ NdV w' nd T v ∧ NodeIs G' D hh nd n ∧ TD w' O t p b m sm rb s { q with rd := r } Dn S' D G' Rw' ds' ∧ Grown D G G' ∧ TGo t p w w' G G' Rw Rw' S.dropped S'.dropped
    ∧ Mvd X y S S' ds ds' ∧ (pagesN n ++ X).Perm (pg :: pagesN l ++ List.replicate y 0) ∧ X.length ≤ 2 * hh + 1 ∧ y ≤ 2 * hh ∧ ∀ x, rowOf v x → w.heap.size ≤ x ∧ x < w'.heap.size ∧ Able O t p b m sm rb G' Rw' S'.dropped x

/-- The empty node. -/
def noNd : Nat → Nd
  | 0 => .inl []
  | _ + 1 => .inr []
theorem noNd_is (G : Gh) (D : Dk) : (h : Nat) → NodeIs G D h (noNd h) []
  | 0 => rfl
  | _ + 1 => ⟨[], rfl, trivial⟩
theorem noNd_v (w : World) (h : Nat) : ∃ T, NdV w (noNd h) T (.slice none 0 0) := by
  cases h with
  | zero => exact ⟨_, rfl, none, 0, rfl, .inl rfl, fun _ => rfl, Nat.le_refl _, by omega⟩
  | succ h => exact ⟨_, rfl, none, 0, rfl, .inl rfl, fun _ => rfl, Nat.le_refl _, by omega⟩

/-- A branch that was taken, with nothing beside it. -/
theorem SIn.start {w : World} {O : Nat → Prop} {t p b m sm rb : Nat} {s : St} {q : Pg} {Dn S : Stt} {D : Dk} {G : Gh} {Rw : Nat → Prop} {ds : List Nat} (h : TD w O t p b m sm rb s q Dn S D G Rw ds) {hh b0 off : Nat} {ks : List (ByteArray × Nat)} {bl : List (En (hh + 1))} (hK : KidsAt w (some ⟨b0, off, none⟩) ks) (hr : Rw b0) (hb : Both (KidIs G (Means G D hh)) ks bl) : ∃ T, SIn w O t p b m sm rb s q Dn S D G Rw ds hh b0 off ks bl (noNd hh) T (.slice none 0 0) [] := by
  obtain ⟨T, hT⟩ := noNd_v w hh
  refine ⟨T, h, hK, hr, hb, fun k hk => ?_, hT, noNd_is G D hh, fun ad c' c e => by injection e with e; cases e⟩
  obtain ⟨e2, _, h1⟩ := hb.left k hk
  obtain ⟨P, hP, hl, _⟩ := h1.2.2.out
  exact ⟨P, hP, hl⟩
/-- Another node in its stead. -/
theorem SIn.put {w : World} {O : Nat → Prop} {t p b m sm rb : Nat} {s : St} {q : Pg} {Dn S : Stt} {D : Dk} {G : Gh} {Rw : Nat → Prop} {ds : List Nat} {hh b0 off : Nat} {ks : List (ByteArray × Nat)} {bl : List (En (hh + 1))} {nd nd2 : Nd} {T T2 : TypeId} {v v2 : Value} {n n2 : List (En hh)} (h : SIn w O t p b m sm rb s q Dn S D G Rw ds hh b0 off ks bl nd T v n) (hv : NdV w nd2 T2 v2) (hn : NodeIs G D hh nd2 n2) (hr : ∀ x, rowOf v2 x → x < w.heap.size ∧ Able O t p b m sm rb G Rw S.dropped x) : SIn w O t p b m sm rb s q Dn S D G Rw ds hh b0 off ks bl nd2 T2 v2 n2 :=
  ⟨h.td, h.kids, h.row, h.both, h.lvls, hv, hn, fun ad c' c e => ⟨(hr ad.block ⟨ad, c', c, e, rfl⟩).2, (hr ad.block ⟨ad, c', c, e, rfl⟩).1⟩⟩

theorem TGo.wide {t p : Nat} {w w' : World} {G G' : Gh} {Rw Rw' R : Nat → Prop} {dv dv' : Value} (h : TGo t p w w' G G' Rw Rw' dv dv') (h1 : ∀ x, Rw' x → R x) (h2 : ∀ x, R x → Rw' x ∨ w.heap.size ≤ x) : TGo t p w w' G G' Rw R dv dv' :=
  ⟨h.turn, h.newG, fun x hx => (h2 x hx).elim (h.newR x) .inr, fun x hx => h1 x (h.oldR x hx), h.newD⟩

/-- A block that is nobody's is left as it is. -/
theorem TGo.keep {t p kb : Nat} {w w' : World} {G G' : Gh} {Rw Rw' : Nat → Prop} {dv dv' : Value} (h : TGo t p w w' G G' Rw Rw' dv dv') (hk : kb < w.heap.size) (h1 : kb ≠ t) (h2 : kb ≠ p) (h3 : G kb = none) (h4 : dv.ownBlock ≠ some kb) : w'.heap[kb]? = w.heap[kb]? ∧ kb < w'.heap.size ∧ G' kb = none ∧ dv'.ownBlock ≠ some kb := by
  obtain ⟨X, hT, hX⟩ := h.turn
  refine ⟨hT.block kb hk (fun hm => ?_), Nat.lt_of_lt_of_le hk h.size, ?_, fun e => ?_⟩
  · rcases hX kb hm with e | e | e | e
    · exact h1 e
    · exact h2 e
    · exact e h3
    · exact h4 e
  · cases hg : G' kb with
    | none => rfl
    | some Q =>
      rcases h.newG kb (by rw [hg]; simp) with e | e
      · exact absurd h3 e
      · omega
  · rcases h.newD kb e with e | e
    · exact h4 e
    · omega

/-- The pages, where a branch's node was edited. -/
theorem edit_pages {pg y yr ys : Nat} {A C Z M N Xr Xs : List Nat} (h1 : (M ++ Xr).Perm (C ++ List.replicate yr 0)) (h2 : (N ++ Xs).Perm (A ++ (M ++ Z) ++ List.replicate ys 0)) (hy : y = yr + ys) : (N ++ ([pg] ++ (Xr ++ Xs))).Perm (pg :: (A ++ (C ++ Z)) ++ List.replicate y 0) := by
  subst hy
  rw [show List.replicate (yr + ys) 0 = List.replicate yr 0 ++ List.replicate ys 0 from List.replicate_append_replicate.symm]
  rw [List.perm_iff_count] at *
  intro x
  have e1 := h1 x
  have e2 := h2 x
  simp only [List.count_append, List.count_cons, List.count_nil] at *
  omega

end Go.Proofs.YthehkckdecckhaaGreatDoor

namespace Go.Proofs.YthehkckdecckhaaGreatDoor
open Go.RowKit Go.Maps

/-- A branch that was taken, with the node that was edited below it. -/
theorem sin_mid {w2 w3 : World} {O : Nat → Prop} {t p b m sm rb : Nat} {s : St} {q q2 : Pg} {Dn S1 S2 : Stt} {D : Dk} {G1 G2 : Gh} {Rw1 Rw2 : Nat → Prop} {ds1 ds2 : List Nat} {hh b0 off : Nat} {ks : List (ByteArray × Nat)} {bl : List (En (hh + 1))} {nd : Nd} {T : TypeId} {v : Value} {n : List (En hh)} (hTD : TD w2 O t p b m sm rb s q Dn S1 D G1 Rw1 ds1) (hK : KidsAt w2 (some ⟨b0, off, none⟩) ks) (hr : Rw1 b0) (hb : Both (KidIs G1 (Means G1 D hh)) ks bl) (hTD3 : TD w3 O t p b m sm rb s q2 Dn S2 D G2 Rw2 ds2) (hGr : Grown D G1 G2) (hGo : TGo t p w2 w3 G1 G2 Rw1 Rw2 S1.dropped S2.dropped) (hv : NdV w3 nd T v) (hn : NodeIs G2 D hh nd n) (hrow : ∀ x, rowOf v x → w2.heap.size ≤ x ∧ x < w3.heap.size ∧ Able O t p b m sm rb G2 Rw2 S2.dropped x) : SIn w3 O t p b m sm rb s q2 Dn S2 D G2 Rw2 ds2 hh b0 off ks bl nd T v n := by
  obtain ⟨T0, h0⟩ := SIn.start hTD hK hr hb
  exact (h0.go hTD3 hGr hGo).put hv hn fun x hx => ⟨(hrow x hx).2.1, (hrow x hx).2.2⟩

theorem eout_branch {w w2 w3 w4 : World} {O : Nat → Prop} {t p b m sm rb : Nat} {s : St} {q : Pg} {Dn S S1 S2 : Stt} {D : Dk} {G G1 G2 : Gh} {Rw Rw1 Rw2 : Nat → Prop} {ds ds1 ds2 Xr : List Nat} {pg yr hh : Nat} {key lo : ByteArray} {hi : Option ByteArray} {want : Option ByteArray} {fK : List Kv → List Kv} {l a z : List (En (hh + 1))} {c : En (hh + 1)} {n : List (En hh)} {r2 : Bool} {v v4 : Value}
    (hE : EdK key want fK) (hw : WayIn key lo hi l) (hs : Spot hi l a c z key) (hGr1 : Grown D G G1) (hGo1 : TGo t p w w2 G G1 Rw Rw1 S.dropped S1.dropped) (hM1 : Mvd [pg] 0 S S1 ds ds1)
    (hMd : Made c.key (topK hi z) n) (hfl : flatN n = fK (flatN (kidsOf c))) (hn1 : 1 ≤ hh → 1 ≤ n.length) (hGr2 : Grown D G1 G2) (hGo2 : TGo t p w2 w3 G1 G2 Rw1 Rw2 S1.dropped S2.dropped) (hM2 : Mvd Xr yr S1 S2 ds1 ds2) (hp2 : (pagesN n ++ Xr).Perm (pageOf c :: pagesN (kidsOf c) ++ List.replicate yr 0)) (hXr : Xr.length ≤ 2 * hh + 1) (hyr : yr ≤ 2 * hh) (hrow : ∀ x, rowOf v x → w2.heap.size ≤ x)
    (hSO : SOut w3 w4 O t p b m sm rb s { q with rd := r2 } Dn S2 D G2 Rw2 ds2 hh a z c n v v4) : EOut w w4 O t p b m sm rb s q Dn S D G Rw ds pg fK lo hi l (.iface 120 v4) := by
  obtain ⟨G4, Rw0, Rw4, r4, S4, ds4, ks', g, cap, Xs, ys, rfl, hg, hc1, hc2, hK4, hB4, hTD4, hGr4, hR0, hR0', hGo4, hM4, hp4, hAb, hnR, hgl, hXs, hys⟩ := hSO.ex
  have hbr : Branch lo hi l := ⟨hw.starts, hw.ord, hw.full, hw.size, hw.some (by omega)⟩
  obtain ⟨k1, k2, k3⟩ := made_branch hbr hs hMd (by
    rcases Nat.eq_zero_or_pos hh with h0 | h0
    · exact .inl h0
    · exact .inr (hn1 h0))
  obtain ⟨e1, e2, e3⟩ := hs.sides hw.ord
  have hs1 := hGo1.size
  have hs2 := hGo2.size
  have hG12 := hGo1.trans hGo2
  have hG3 := (hG12.wide hR0 fun x hx => by
    rcases hR0' x hx with h1 | h1 | h1
    · exact .inl h1
    · exact .inr (Nat.le_trans hs1 (hrow x h1))
    · exact .inr (by omega)).trans hGo4
  have hlen : ks'.length = (settleN a c.key n z).length := hB4.length
  have hpl : pagesN l = pagesN a ++ ((pageOf c :: pagesN (kidsOf c)) ++ pagesN z) := by
    rw [hs.eq, pagesN_append]
    congr 1
  refine ⟨settleN a c.key n z, _, _, .inr ks', G4, Rw4, r4, S4, ds4, [pg] ++ (Xr ++ Xs), yr + ys, rfl, k1, ?_, fun _ => k2, ⟨rfl, some ⟨g, 0, none⟩, cap, rfl, hK4, by simp, hc1, hc2⟩, ⟨ks', rfl, hB4⟩, hTD4, (hGr1.trans hGr2).trans hGr4, hG3, ?_, ?_, ?_, by omega, fun x hx => ?_⟩
  · rw [k3, hfl, e1, hE.mid _ _ _ e2 e3]
  · have := hM1.trans (hM2.trans hM4)
    rw [Nat.zero_add] at this
    exact this
  · rw [hpl]
    exact edit_pages hp2 hp4 rfl
  · simp only [List.length_append, List.length_cons, List.length_nil]
    omega
  · obtain ⟨ad, c', cc, e, rfl⟩ := hx
    injection e with e
    injection e with e
    subst e
    exact ⟨by show w.heap.size ≤ g; omega, hgl, hAb⟩

theorem pages_zero (l : List (En 0)) : pagesN l = [] := by
  unfold pagesN
  rw [List.flatMap_eq_nil_iff]
  exact fun _ _ => rfl
theorem eout_leaf {w w1 w2 : World} {O : Nat → Prop} {t p b m sm rb : Nat} {s : St} {q : Pg} {Dn S S1 : Stt} {D : Dk} {G G1 : Gh} {Rw Rw1 : Nat → Prop} {ds ds1 : List Nat} {pg : Nat} {key lo : ByteArray} {hi : Option ByteArray} {want : Option ByteArray} {fK : List Kv → List Kv} {l : List (En 0)} {r1 : Bool} {g : Option Addr} {c' : Nat}
    (hE : EdK key want fK) (hw : WayIn key lo hi l) (hget : getK (flatN l) key = want) (hTD : TD w1 O t p b m sm rb s { q with rd := r1 } Dn S1 D G1 Rw1 ds1) (hGr1 : Grown D G G1) (hGo1 : TGo t p w w1 G G1 Rw Rw1 S.dropped S1.dropped) (hM1 : Mvd [pg] 0 S S1 ds ds1)
    (hK : KVsAt w2 g (fK l)) (hz : g = none → c' = 0) (hc : (fK l).length ≤ c' ∧ c' ≤ 9223372036854775807) (hT : Turn [] w1 w2) (hg : ∀ ad, g = some ad → w1.heap.size ≤ ad.block ∧ ad.block < w2.heap.size) : EOut w w2 O t p b m sm rb s q Dn S D G Rw ds pg fK lo hi l (.iface 73 (.slice g (fK l).length c')) := by
  have hs1 := hGo1.size
  have hfl : flatN l = l := flatN_zero l
  rw [hfl] at hget
  refine ⟨fK l, _, _, .inl (fK l), G1, Rw1, r1, S1, ds1, [pg], 0, rfl, hE.made lo hi l hw.starts hw.ord hw.full hw.size hw.low hw.high hget, ?_, fun h => absurd h (by omega), ⟨rfl, g, c', rfl, hK, hz, hc.1, hc.2⟩, rfl, hTD.read (hTD.tm.quiet hT) ((TStep.refl p w1 G1 Rw1).quiet hT), hGr1, hGo1.quiet hT, hM1, ?_, by simp, by omega, fun x hx => ?_⟩
  · exact (flatN_zero (fK l)).trans (congrArg fK hfl.symm)
  · have h1 : pagesN (h := 0) (fK l) ++ [pg] = [pg] := congrArg (· ++ [pg]) (pages_zero (fK l))
    have h2 : pg :: pagesN l ++ List.replicate 0 0 = [pg] := congrArg (fun x => pg :: x ++ List.replicate 0 0) (pages_zero l)
    exact .of_eq (h1.trans h2.symm)
  · obtain ⟨ad, c2, cc, e, rfl⟩ := hx
    injection e with e
    obtain ⟨h1, h2⟩ := hg ad e
    exact ⟨by omega, h2, hTD.able h1⟩

end Go.Proofs.YthehkckdecckhaaGreatDoor

namespace Go.Proofs.YthehkckdecckhaaGreatDoor
open Go.RowKit Go.Maps

/-- What a closure does to a leaf. -/
def LeafFn (w0 : World) (cf kb : Nat) (key : ByteArray) (want : Option ByteArray) (fK : List Kv → List Kv) : Prop :=
  ∀ w1 : World, w1.heap[kb]? = w0.heap[kb]? → ∀ (b off c : Nat) (L : List (ByteArray × ByteArray)), KVsAt w1 (some ⟨b, off, none⟩) L → (L.length ≤ c ∧ c ≤ 9223372036854775807) → L.length ≤ 300 → Rises (keysOf L) → getK L key = want →
    Calls Tryz.prog cf #[.slice (some ⟨b, off, none⟩) L.length c, .pointer (some ⟨kb, 0, none⟩)] w1 fun e w2 => ∃ g c', e = .returned (.slice g (fK L).length c') ∧ KVsAt w2 g (fK L) ∧ (g = none → c' = 0) ∧ ((fK L).length ≤ c' ∧ c' ≤ 9223372036854775807) ∧ Turn [] w1 w2 ∧ ∀ ad, g = some ad → w1.heap.size ≤ ad.block ∧ ad.block < w2.heap.size

set_option maxRecDepth 100000 in
set_option maxHeartbeats 6400000 in
theorem tm_edited {w0 : World} {cf kb : Nat} {key : ByteArray} {want : Option ByteArray} {fK : List Kv → List Kv} (hE : EdK key want fK) (hC : LeafFn w0 cf kb key want fK) {O : Nat → Prop} {t p b m sm rb : Nat} {s : St} {Dn : Stt} {D : Dk} (hcf : cf = 38 ∨ cf = 40) (hkt : kb ≠ t ∧ kb ≠ p) : ∀ (hh : Nat) (w : World) (q : Pg) (S : Stt) (G : Gh) (Rw : Nat → Prop) (ds : List Nat) (a : Nat) (l : List (En hh)) (P : Pl) (lo : ByteArray) (hi : Option ByteArray), w.heap[kb]? = w0.heap[kb]? → kb < w.heap.size → G kb = none → S.dropped.ownBlock ≠ some kb → TD w O t p b m sm rb s q Dn S D G Rw ds → Means G D hh a l → G a = some P → WayIn key lo hi l → getK (flatN l) key = want → ds.length + 2 * hh + 2 ≤ 40000 → S.fresh + 2 * hh + 2 ≤ 40000 → (P.pg :: pagesN l).count 0 ≤ S.fresh →
    Calls Tryz.prog 57 #[.pointer (some ⟨t, 0, none⟩), .pointer (some ⟨a, 0, none⟩), .string key, .func (.func cf) #[] #[.pointer (some ⟨kb, 0, none⟩)]] w fun e w' => ∃ v, e = .returned v ∧ EOut w w' O t p b m sm rb s q Dn S D G Rw ds P.pg fK lo hi l v := by
  intro hh
  have hta := ta_ll
  have htb := ta_lb
  have htc := ta_bb
  have htd := ta_bl
  have HE := hide hE
  have HC := hide hC
  clear hE hC
  induction hh with
  | zero =>
    intro w q S G Rw ds a l P lo hi hk0 hkl hkG hkD hTD hm hP hw hget hds hfr hcnt
    have HT := hide (tm_take hTD hm hP (by omega) ⟨by omega, fun e => by rw [e] at hcnt; simp at hcnt; omega⟩)
    have HG := hide (show WayIn key lo hi l ∧ getK (flatN l) key = want from ⟨hw, hget⟩)
    have HK := hide (show kb < w.heap.size ∧ G kb = none ∧ S.dropped.ownBlock ≠ some kb ∧ w.heap[kb]? = w0.heap[kb]? from ⟨hkl, hkG, hkD, hk0⟩)
    clear hk0 hkl hkG hkD hTD hm hP hw hget hds hfr hcnt
    rcases hcf with rfl | rfl
    all_goals
      go_enter Tryz.func57, Tryz.ntmps57
      go_wp2_with fail
      refine HT.out.mono ?_
      rintro e w1 ⟨T, v, nd, G1, Rw1, r1, S1, ds1, rfl, hN1, hNode1, hTD1, hGr1, hGo1, hTk⟩
      obtain rfl : nd = .inl l := hNode1
      obtain ⟨_, rfl, bb, off, c, rfl, hKV, hc, hr1⟩ := hN1
      obtain ⟨g1, g2, g3, g4⟩ := hGo1.keep HK.out.1 hkt.1 hkt.2 HK.out.2.1 HK.out.2.2.1
      have h2 := len_size l
      have h3 := HG.out.1.size
      have hget0 := HG.out.2
      rw [flatN_zero] at hget0
      have HL := hide (HC.out w1 (g1.trans HK.out.2.2.2) bb off c l hKV hc (show List.length (α := En 0) l ≤ 300 by omega) (ord_rises HG.out.1.ord) hget0)
      have HAll := hide (show TD w1 O t p b m sm rb s { q with rd := r1 } Dn S1 D G1 Rw1 ds1 ∧ Grown D G G1 ∧ TGo t p w w1 G G1 Rw Rw1 S.dropped S1.dropped ∧ Mvd [P.pg] 0 S S1 ds ds1 from ⟨hTD1, hGr1, hGo1, hTk.mvd⟩)
      clear hKV hc hr1 g1 g2 g3 g4 h2 h3 hget0 hTD1 hGr1 hGo1 hTk HT
      go_wp2_with fail
      refine HL.out.mono ?_
      rintro e w2 ⟨g, c', rfl, hK2, hz2, hc2, hT2, hg2⟩
      have HF := hide (eout_leaf HE.out HG.out.1 HG.out.2 HAll.out.1 HAll.out.2.1 HAll.out.2.2.1 HAll.out.2.2.2 hK2 hz2 hc2 hT2 hg2)
      clear hK2 hz2 hc2 hT2 hg2
      go_wp2_with fail
      go_ret
      exact ⟨_, rfl, HF.out⟩
  | succ hh ih =>
    intro w q S G Rw ds a l P lo hi hk0 hkl hkG hkD hTD hm hP hw hget hds hfr hcnt
    have HT := hide (tm_take hTD hm hP (by omega) ⟨by omega, fun e => by rw [e] at hcnt; simp at hcnt; omega⟩)
    have HIh := hide ih
    have HG := hide (show WayIn key lo hi l ∧ getK (flatN l) key = want ∧ (P.pg :: pagesN l).count 0 ≤ S.fresh from ⟨hw, hget, hcnt⟩)
    have HK := hide (show kb < w.heap.size ∧ G kb = none ∧ S.dropped.ownBlock ≠ some kb ∧ w.heap[kb]? = w0.heap[kb]? from ⟨hkl, hkG, hkD, hk0⟩)
    clear hk0 hkl hkG hkD hTD hm hP hw hget hcnt ih
    go_enter Tryz.func57, Tryz.ntmps57
    go_wp2_with fail
    refine HT.out.mono ?_
    rintro e w1 ⟨T, v, nd, G1, Rw1, r1, S1, ds1, rfl, hN1, hNode1, hTD1, hGr1, hGo1, hTk⟩
    obtain ⟨ks, rfl, hb⟩ := hNode1
    obtain ⟨_, rfl, bb, off, cap, rfl, hK, hcap, hr1, _⟩ := hN1
    have hlen := hb.length
    have h2 := len_size l
    have h3 := HG.out.1.size
    have h4 := HG.out.1.some (by omega)
    have HF := hide (bfind_any (some ⟨bb, off, none⟩) cap ks key (by rw [both_lows hb]; exact ord_rises HG.out.1.ord) (by omega) (by omega) w1 hK)
    have hkn : ks.length ≤ 300 := by omega
    have HA := hide (show TD w1 O t p b m sm rb s { q with rd := r1 } Dn S1 D G1 Rw1 ds1 ∧ Grown D G G1 ∧ TGo t p w w1 G G1 Rw Rw1 S.dropped S1.dropped ∧ Mvd [P.pg] 0 S S1 ds ds1 ∧ KidsAt w1 (some ⟨bb, off, none⟩) ks ∧ Rw1 bb ∧ Both (KidIs G1 (Means G1 D hh)) ks l from ⟨hTD1, hGr1, hGo1, hTk.mvd, hK, hr1, hb⟩)
    have HLen := hide (show ks.length = l.length ∧ 2 ≤ l.length ∧ ks.length ≤ cap ∧ cap ≤ 9223372036854775807 ∧ l.length ≤ 300 from ⟨hlen, h4, hcap.1, hcap.2, by omega⟩)
    clear hTD1 hGr1 hGo1 hTk hK hr1 hb hlen hcap h2 h3 h4 HT
    go_wp2_with fail
    refine HF.out.mono ?_
    rintro e w2 ⟨i, rfl, hik, hT2⟩
    have hiks := hik.1
    have hil : i < l.length := by rw [← HLen.out.1]; exact hiks
    obtain ⟨hTD1, hGr1, hGo1, hM1, hK1, hr1, hb1⟩ := HA.out
    have hsp := spot_of (both_lows hb1) HG.out.1.starts HG.out.1.low HG.out.1.high hik hil
    have hTD2 := hTD1.read (hTD1.tm.quiet hT2) ((TStep.refl p w1 G1 Rw1).quiet hT2)
    have hGo2 := hGo1.quiet hT2
    have hK2 := hK1.turn0 hT2
    obtain ⟨b', off', e', _, hcell⟩ := hK2.at hiks
    injection e' with e'
    injection e' with e1 e2
    subst e1 e2
    obtain ⟨hq1, ⟨Pc, hPc, hpg⟩, hMc⟩ := hb1.get i hiks hil
    obtain ⟨g1, g2, g3, g4⟩ := hGo2.keep HK.out.1 hkt.1 hkt.2 HK.out.2.1 HK.out.2.2.1
    have hfr1 := hM1.fresh
    have hpl : (pagesN l).count 0 = (pagesN (l.take i)).count 0 + ((pageOf l[i] :: pagesN (kidsOf l[i])).count 0 + (pagesN (l.drop (i + 1))).count 0) := by
      have e : l = l.take i ++ ([l[i]] ++ l.drop (i + 1)) := by
        simp
      have e2 := congrArg pagesN e
      rw [pagesN_append, pagesN_append, pages_one] at e2
      rw [e2, List.count_append, List.count_append]
    have hct := HG.out.2.2
    rw [List.count_cons] at hct
    have hds1 : ds1.length ≤ ds.length + 1 := by
      rw [hM1.drop, List.length_append]
      have := List.length_filter_le (fun x => decide (x ≠ 0)) [P.pg]
      simp at this
      simp
      omega
    have hcnt0 : ([P.pg] : List Nat).count 0 = if P.pg == 0 then 1 else 0 := by rw [List.count_cons]; simp
    have HR := hide (HIh.out w2 { q with rd := r1 } S1 G1 Rw1 ds1 ks[i].2 (kidsOf l[i]) Pc l[i].key (topK hi (l.drop (i + 1))) (g1.trans HK.out.2.2.2) g2 g3 g4 hTD2 hMc hPc (HG.out.1.down hsp) ((HG.out.1.sub.down hb1 hik hil).2.trans HG.out.2.1) (by omega) (by rw [hcnt0] at hfr1; omega) (by rw [hpg]; rw [hcnt0] at hfr1; omega))
    have HB := hide (show TD w2 O t p b m sm rb s { q with rd := r1 } Dn S1 D G1 Rw1 ds1 ∧ KidsAt w2 (some ⟨bb, off, none⟩) ks ∧ TGo t p w w2 G G1 Rw Rw1 S.dropped S1.dropped ∧ Spot hi l (l.take i) l[i] (l.drop (i + 1)) key from ⟨hTD2, hK2, hGo2, hsp⟩)
    have HCn := hide (show (pagesN (l.take i)).count 0 + ((pageOf l[i] :: pagesN (kidsOf l[i])).count 0 + (pagesN (l.drop (i + 1))).count 0) ≤ S1.fresh ∧ S1.fresh ≤ S.fresh ∧ ds1.length ≤ ds.length + 1 ∧ Pc.pg = pageOf l[i] from ⟨by rw [hcnt0] at hfr1; omega, by omega, hds1, hpg⟩)
    obtain ⟨hti⟩ : (l.take i).length = i ∧ True := ⟨by rw [List.length_take]; omega, trivial⟩
    have HTi := hide hti
    clear hTD1 hGr1 hGo1 hM1 hK1 hr1 hb1 hsp hTD2 hGo2 hK2 hq1 hMc hpg hPc g1 g2 g3 g4 hfr1 hpl hct hds1 hcnt0 hik hT2 HF hti HIh
    obtain ⟨c, hc⟩ : ∃ c, c = l[i] := ⟨_, rfl⟩
    rw [← hc] at HR HB HCn
    clear hc
    obtain ⟨A, hA⟩ : ∃ A, A = l.take i := ⟨_, rfl⟩
    obtain ⟨Z, hZ⟩ : ∃ Z, Z = l.drop (i + 1) := ⟨_, rfl⟩
    rw [← hZ] at HR
    rw [← hA, ← hZ] at HB HCn
    rw [← hA] at HTi
    clear hA hZ
    have hiN : (i : Int) < (ks.length : Int) := by omega
    go_wp2_with fail
    refine HR.out.mono ?_
    rintro e w3 ⟨v3, rfl, hO3⟩
    obtain ⟨n3, T3, v3', nd3, G3, Rw3, r3, S3, ds3, Xr, yr, rfl, hMd, hfl, hn1, hv3, hi3, hTD3, hGr3, hGo3, hM3, hp3, hXr, hyr, hrow3⟩ := hO3.ex
    obtain ⟨hTD1, hGr1, hGo1, hM1, hK1, hr1, hb1⟩ := HA.out
    have hSI := sin_mid HB.out.1 HB.out.2.1 hr1 hb1 hTD3 hGr3 hGo3 hv3 hi3 hrow3
    have hfr3 := hM3.fresh
    rw [HCn.out.2.2.2] at hp3
    have hcp := List.perm_iff_count.1 hp3 0
    simp only [List.count_append, List.count_replicate_self] at hcp
    have hds3 : ds3.length ≤ ds1.length + Xr.length := by
      rw [hM3.drop, List.length_append]
      have := List.length_filter_le (fun x => decide (x ≠ 0)) Xr
      omega
    have hSet := tm_settled hSI HB.out.2.2.2.eq HG.out.1.full hMd.full (by have := hMd.long; omega) HLen.out.2.1 HLen.out.2.2.2.2 ⟨HLen.out.2.2.1, HLen.out.2.2.2.1⟩ (by have := HCn.out.2.2.1; omega) ⟨by have := HCn.out.2.1; omega, fun e he h0 => by
      have h1 := HCn.out.1
      have h2 : ∀ (x : List (En (hh + 1))), e ∈ x → 1 ≤ (pagesN x).count 0 := fun x hx => List.count_pos_iff.2 (by
        unfold pagesN
        exact List.mem_flatMap.2 ⟨e, hx, by
          have : e.pages = pageOf e :: pagesN (kidsOf e) := by
            have := pages_one e
            unfold pagesN at this
            rw [List.flatMap_cons, List.flatMap_nil, List.append_nil] at this
            exact this
          rw [this, h0]
          exact List.mem_cons_self ..⟩)
      rcases List.mem_append.1 he with he | he
      · have := h2 _ he
        omega
      · have := h2 _ he
        omega⟩
    rw [HTi.out] at hSet
    have HSet := hide hSet
    have HE3 := hide (fun (w4 : World) (v4 : Value) (hSO : SOut w3 w4 O t p b m sm rb s { q with rd := r3 } Dn S3 D G3 Rw3 ds3 hh A Z c n3 v3' v4) => eout_branch (q := q) (Dn := Dn) (r2 := r3) (w4 := w4) (v4 := v4) HE.out HG.out.1 HB.out.2.2.2 hGr1 HB.out.2.2.1 hM1 hMd hfl hn1 hGr3 hGo3 hM3 hp3 hXr hyr (fun x hx => (hrow3 x hx).1) hSO)
    clear hO3 hMd hfl hn1 hv3 hi3 hTD3 hGr3 hGo3 hM3 hp3 hXr hyr hrow3 hTD1 hGr1 hGo1 hM1 hK1 hr1 hb1 hSI hfr3 hcp hds3 hSet
    go_wp2_with fail
    refine HSet.out.mono ?_
    rintro e w4 ⟨v4, rfl, hSO⟩
    have HFin := hide (HE3.out w4 v4 hSO)
    clear hSO HE3
    go_wp2_with fail
    go_ret
    exact ⟨_, rfl, HFin.out⟩

end Go.Proofs.YthehkckdecckhaaGreatDoor

namespace Go.Proofs.YthehkckdecckhaaGreatDoor
open Go.RowKit Go.Maps

/-- A root in memory. -/
def RtAt (G : Gh) (D : Dk) : Option Nat → Root? → Prop
  | none, none => True
  | some a, some ⟨h, e⟩ => (∃ P, G a = some P ∧ P.pg = pageOf e) ∧ Means G D h a (kidsOf e)
  | _, _ => False

/-- What rootOf leaves. -/
structure RtOut (w w' : World) (O : Nat → Prop) (t p b m sm rb : Nat) (s : St) (q : Pg) (Dn S : Stt) (D : Dk) (G : Gh) (Rw : Nat → Prop) (ds : List Nat) {hh : Nat} (n : List (En hh)) (v e : Value) : Prop where
  ex : ∃ ro G' Rw0 Rw' y, e = rootV ro ∧ RtAt G' D ro (rootN n) ∧ TD w' O t p b m sm rb s q Dn { S with fresh := S.fresh + y } D G' Rw' ds ∧ Grown D G G' ∧ (∀ x, Rw x → Rw0 x) ∧ (∀ x, Rw0 x → Rw x ∨ rowOf v x) ∧ TGo t p w w' G G' Rw0 Rw' S.dropped S.dropped ∧ (pagesR (rootN n)).Perm (pagesN n ++ List.replicate y 0) ∧ y ≤ 3

theorem rt_none {w : World} {O : Nat → Prop} {t p b m sm rb : Nat} {s : St} {q : Pg} {Dn S : Stt} {D : Dk} {G : Gh} {Rw : Nat → Prop} {ds : List Nat} (h : TD w O t p b m sm rb s q Dn S D G Rw ds) (v : Value) : RtOut w w O t p b m sm rb s q Dn S D G Rw ds (hh := 0) [] v (rootV none) :=
  ⟨none, G, Rw, Rw, 0, rfl, trivial, h, Grown.refl _ _, fun _ h => h, fun _ h => .inl h, TGo.refl _ _ _ _ _ _, List.Perm.refl _, by omega⟩

theorem rt_one {w : World} {O : Nat → Prop} {t p b m sm rb : Nat} {s : St} {q : Pg} {Dn S : Stt} {D : Dk} {G : Gh} {Rw : Nat → Prop} {ds : List Nat} (h : TD w O t p b m sm rb s q Dn S D G Rw ds) {hh : Nat} {k : ByteArray × Nat} {e : En (hh + 1)} (hk : KidIs G (Means G D hh) k e) (v : Value) : RtOut w w O t p b m sm rb s q Dn S D G Rw ds [e] v (rootV (some k.2)) :=
  ⟨some k.2, G, Rw, Rw, 0, rfl, ⟨hk.2.1, hk.2.2⟩, h, Grown.refl _ _, fun _ h => h, fun _ h => .inl h, TGo.refl _ _ _ _ _ _, by
    show e.pages.Perm _
    unfold pagesN
    simp, by omega⟩

/-- One new place at the top. -/
theorem rt_new {w w' : World} {O : Nat → Prop} {t p b m sm rb : Nat} {s : St} {q : Pg} {Dn S : Stt} {D : Dk} {G G' : Gh} {Rw : Nat → Prop} {ds : List Nat} {hh bb a : Nat} {n : List (En hh)} {lo : ByteArray} {v : Value} (hr : rootN n = tops (placedN n ByteArray.empty)) (hz : sizeN n ≤ 495) (hk : KidIs G' (Means G' D hh) (lo, a) (mkE ByteArray.empty 0 n)) (hTD : TD w' O t p b m sm rb s q Dn { S with fresh := S.fresh + 1 } D G' (fun y => Rw y ∨ y = bb) ds) (hGr : Grown D G G') (hT : Turn [t] w w') (hnew : ∀ x, G' x ≠ none → G x ≠ none ∨ w.heap.size ≤ x) (hbb : rowOf v bb) : RtOut w w' O t p b m sm rb s q Dn S D G Rw ds n v (rootV (some a)) := by
  have e : rootN n = some ⟨hh, mkE ByteArray.empty 0 n⟩ := by
    rw [hr, placedN_one hz]
    rfl
  refine ⟨some a, G', fun y => Rw y ∨ y = bb, fun y => Rw y ∨ y = bb, 1, rfl, ?_, hTD, hGr, fun _ h => .inl h, fun x hx => hx.elim .inl (fun (e : x = bb) => .inr (e ▸ hbb)), ⟨⟨[t], hT, fun x hx => .inl (List.mem_singleton.1 hx)⟩, hnew, fun _ h => .inl h, fun _ h => h, fun _ h => .inl h⟩, ?_, by omega⟩
  · rw [e]
    exact ⟨hk.2.1, hk.2.2⟩
  · rw [e]
    show (0 :: pagesN n).Perm (pagesN n ++ [0])
    exact List.perm_append_comm (l₁ := [0])

/-- A new branch of two at the top. -/
theorem rt_two {w w3 w4 : World} {O : Nat → Prop} {t p b m sm rb : Nat} {s : St} {q : Pg} {Dn S : Stt} {D : Dk} {G G3 : Gh} {Rw : Nat → Prop} {ds : List Nat} {hh bb a g : Nat} {n : List (En hh)} {ks : List (ByteArray × Nat)} {v : Value} (hr : rootN n = tops (placedN n ByteArray.empty)) (hz : ¬ sizeN n ≤ 495)
    (hg : w.heap.size ≤ g) (hK : KidsAt w3 (some ⟨g, 0, none⟩) ks) (hB : Both (KidIs G3 (Means G3 D hh)) ks (placedN n ByteArray.empty)) (hTD : TD w3 O t p b m sm rb s q Dn { S with fresh := S.fresh + 2 } D G3 (fun y => Rw y ∨ y = bb) ds) (hGr : Grown D G G3) (hT : Turn [t] w w3) (hnew : ∀ x, G3 x ≠ none → G x ≠ none ∨ w.heap.size ≤ x) (hgn : G3 g = none) (hgr : ¬ (Rw g ∨ g = bb)) (hgd : S.dropped.ownBlock ≠ some g) (hgo : g ∉ [1, t, p, b, m, sm, rb] ∧ ¬ O g) (hlv : ∀ k ∈ ks, ∃ Q, G3 k.2 = some Q ∧ Q.lvl = hh + 1) (hbb : rowOf v bb)
    (ha : w3.heap.size ≤ a) (hP : PlaceAt w4 a 0 (hh + 2) 0 (.iface 120 (.slice (some ⟨g, 0, none⟩) ks.length ks.length))) (hTr : TreeAt w4 t p Dn { S with fresh := S.fresh + 3 }) (hT4 : Turn [t] w3 w4) : RtOut w w4 O t p b m sm rb s q Dn S D G Rw ds n v (rootV (some a)) := by
  have hlen : ks.length = 2 := by
    rw [hB.length, placedN_two hz rfl]
    rfl
  have hgl : g < w3.heap.size := hK.lt ⟨g, 0, none⟩ (by intro e; rw [e] at hlen; cases hlen) rfl
  have hgt : g ≠ t := fun e => hgo.1 (by simp [e])
  have hKd : KidsAt w4 (some ⟨g, 0, none⟩) ks := hK.turn hT4 fun x _ hx => by
    obtain rfl := Option.some.inj hx
    simp
    exact hgt
  obtain ⟨G4, h1, h2, h3, h4, h5⟩ := tm_places hTD (S' := { S with fresh := S.fresh + 3 }) rfl hTr hT4 hgl (.inr ⟨hgo.1, hgo.2, hgn, hgd⟩) [(a, .inr ks)] (hh + 2) (fun x hx => by rw [List.mem_singleton.1 hx]; exact ha) (by simp) (fun x hx => by
    rw [List.mem_singleton.1 hx]
    refine ⟨_, _, hP, fun G' hG' => ⟨by omega, rfl, g, 0, ks.length, rfl, hKd, ⟨Nat.le_refl _, by omega⟩, .inr rfl, fun k hk => ?_⟩⟩
    obtain ⟨Q, hQ, hl⟩ := hlv k hk
    obtain ⟨Q', hQ', hl'⟩ := hG' _ Q hQ
    exact ⟨Q', hQ', by omega⟩)
  have hGa := h1 (a, .inr ks) (by simp)
  have hs := hT.size
  have e : rootN n = some ⟨hh + 1, mkE ByteArray.empty 0 (placedN n ByteArray.empty)⟩ := by
    rw [hr, placedN_two hz rfl]
    rfl
  have hB4 : Both (KidIs G4 (Means G4 D hh)) ks (placedN n ByteArray.empty) := hB.mono fun k _ e _ hk => by
    obtain ⟨k1, ⟨Q, k2, k3⟩, k4⟩ := hk
    obtain ⟨Q', q1, q2, _⟩ := h4.at_ _ Q k2
    exact ⟨k1, ⟨Q', q1, q2.trans k3⟩, k4.grown h4⟩
  have hcomp : TGo t p w w4 G G4 (fun y => Rw y ∨ y = bb) (fun y => (Rw y ∨ y = bb) ∨ y = g) S.dropped S.dropped := by
    refine ⟨⟨[t], hT.trans hT4, fun x hx => .inl (List.mem_singleton.1 hx)⟩, fun x hx => ?_, fun x hx => ?_, fun x hx => .inl hx, fun x hx => .inl hx⟩
    · rcases h3 x hx with hx | ⟨y, hy, rfl⟩
      · exact hnew x hx
      · rw [List.mem_singleton.1 hy]
        exact .inr (by show w.heap.size ≤ a; omega)
    · rcases hx with hx | rfl
      · exact .inl hx
      · exact .inr hg
  refine ⟨some a, G4, fun y => Rw y ∨ y = bb, _, 3, rfl, ?_, h5, hGr.trans h4, fun _ h => .inl h, fun x hx => hx.elim .inl (fun (e : x = bb) => .inr (e ▸ hbb)), hcomp, ?_, by omega⟩
  · rw [e]
    exact ⟨⟨_, hGa, rfl⟩, Means.of _ hGa rfl (fun e => absurd rfl e) (fun e => by cases e) (fun nd' e => by
      obtain rfl := Option.some.inj e
      exact ⟨ks, rfl, hB4⟩)⟩
  · rw [e]
    show (0 :: pagesN (placedN n ByteArray.empty)).Perm _
    have h6 := placed_pages n ByteArray.empty
    rw [placedN_two hz rfl] at h6 ⊢
    refine (List.Perm.cons 0 h6).trans ?_
    generalize pagesN n = A
    show ([0] ++ (A ++ [0, 0])).Perm (A ++ [0, 0, 0])
    have := List.perm_append_comm (l₁ := [0]) (l₂ := A ++ [0, 0])
    simpa using this

end Go.Proofs.YthehkckdecckhaaGreatDoor

namespace Go.Proofs.YthehkckdecckhaaGreatDoor
open Go.RowKit Go.Maps

theorem td_placed {w : World} {O : Nat → Prop} {t p b m sm rb : Nat} {s : St} {q : Pg} {Dn S : Stt} {D : Dk} {G : Gh} {Rw : Nat → Prop} {ds : List Nat} (h : TD w O t p b m sm rb s q Dn S D G Rw ds) {hh : Nat} {nd : Nd} {T : TypeId} {v : Value} {n : List (En hh)} (hv : NdV w nd T v) (hn : NodeIs G D hh nd n) (hrow : ∀ x, rowOf v x → Able O t p b m sm rb G Rw S.dropped x) (hfe : ∀ e ∈ n, FullE e) (hz : sizeN n ≤ 1900) (h0 : 0 < n.length) (hfr : S.fresh ≤ 100000) (low : ByteArray) :
    Calls Tryz.prog 86 #[.pointer (some ⟨t, 0, none⟩), .iface T v, .int .i64 ((hh + 1 : Nat) : Int), .string low] w fun e w' => ∃ v' bb, e = .returned v' ∧ rowOf v bb ∧ NewPl w O t p b m sm rb s q Dn S D G Rw ds bb hh (placedN n low) w' v' := by
  obtain ⟨bb, off2, m2, c2, e, hin⟩ := hv.in_ (by rw [← nd_some hn] at h0; cases nd <;> exact h0)
  have hb : rowOf v bb := ⟨_, _, _, e, rfl⟩
  refine (tm_placed h hin hn hfe hz (hrow bb hb) hfr low).mono ?_
  rintro e w' ⟨v', rfl, hN⟩
  exact ⟨v', bb, rfl, hb, hN⟩

/-- placed at the top, where there is one place. -/
theorem top_one {w : World} {O : Nat → Prop} {t p b m sm rb : Nat} {s : St} {q : Pg} {Dn S : Stt} {D : Dk} {G : Gh} {Rw : Nat → Prop} {ds : List Nat} (h : TD w O t p b m sm rb s q Dn S D G Rw ds) {hh : Nat} {nd : Nd} {T : TypeId} {v : Value} {n : List (En hh)} (hv : NdV w nd T v) (hn : NodeIs G D hh nd n) (hrow : ∀ x, rowOf v x → Able O t p b m sm rb G Rw S.dropped x) (hfe : ∀ e ∈ n, FullE e) (hz : sizeN n ≤ 495) (h0 : 0 < n.length) (hfr : S.fresh ≤ 100000) (hr : rootN n = tops (placedN n ByteArray.empty)) :
    Calls Tryz.prog 86 #[.pointer (some ⟨t, 0, none⟩), .iface T v, .int .i64 ((hh + 1 : Nat) : Int), .string ⟨#[]⟩] w fun e w' => ∃ g a, e = .returned (.slice (some ⟨g, 0, none⟩) 1 1) ∧ w'.cell? ⟨g, 1, none⟩ = some (.pointer (some ⟨a, 0, none⟩)) ∧ RtOut w w' O t p b m sm rb s q Dn S D G Rw ds n v (rootV (some a)) := by
  rw [show (⟨#[]⟩ : ByteArray) = ByteArray.empty from rfl]
  refine (td_placed h hv hn hrow hfe (by omega) h0 hfr ByteArray.empty).mono ?_
  rintro e w' ⟨v', bb, rfl, hb, hN⟩
  obtain ⟨G', ks, g, rfl, hg, hK, hB, hTD, hGr, hT, hnew, _, _⟩ := hN.ex
  rw [placedN_one hz] at hB hTD
  obtain ⟨k, ks, rfl⟩ : ∃ k ks', ks = k :: ks' := by
    cases ks with
    | nil => exact hB.elim
    | cons k ks => exact ⟨k, ks, rfl⟩
  have hk := hB.1
  have hks : ks = [] := by
    have := hB.2.length
    exact List.length_eq_zero_iff.1 this
  subst hks
  obtain ⟨b', off', e', _, h1⟩ := hK.at (i := 0) (by simp)
  injection e' with e'
  injection e' with e1 e2
  subst e1 e2
  exact ⟨g, k.2, rfl, h1, rt_new hr hz (lo := k.1) hk hTD hGr hT hnew hb⟩

/-- placed at the top, where there are two. -/
theorem top_two {w : World} {O : Nat → Prop} {t p b m sm rb : Nat} {s : St} {q : Pg} {Dn S : Stt} {D : Dk} {G : Gh} {Rw : Nat → Prop} {ds : List Nat} (h : TD w O t p b m sm rb s q Dn S D G Rw ds) {hh : Nat} {nd : Nd} {T : TypeId} {v : Value} {n : List (En hh)} (hv : NdV w nd T v) (hn : NodeIs G D hh nd n) (hrow : ∀ x, rowOf v x → x < w.heap.size ∧ Able O t p b m sm rb G Rw S.dropped x) (hfe : ∀ e ∈ n, FullE e) (hz : ¬ sizeN n ≤ 495) (hz2 : sizeN n ≤ 1900) (h0 : 0 < n.length) (hfr : S.fresh ≤ 100000) (hr : rootN n = tops (placedN n ByteArray.empty)) :
    Calls Tryz.prog 86 #[.pointer (some ⟨t, 0, none⟩), .iface T v, .int .i64 ((hh + 1 : Nat) : Int), .string ⟨#[]⟩] w fun e w' => ∃ g, e = .returned (.slice (some ⟨g, 0, none⟩) 2 2) ∧ TreeAt w' t p Dn { S with fresh := S.fresh + 2 } ∧ ∀ w4 a, w'.heap.size ≤ a → PlaceAt w4 a 0 (hh + 2) 0 (.iface 120 (.slice (some ⟨g, 0, none⟩) 2 2)) → TreeAt w4 t p Dn { S with fresh := S.fresh + 3 } → Turn [t] w' w4 → RtOut w w4 O t p b m sm rb s q Dn S D G Rw ds n v (rootV (some a)) := by
  rw [show (⟨#[]⟩ : ByteArray) = ByteArray.empty from rfl]
  refine (td_placed h hv hn (fun x hx => (hrow x hx).2) hfe hz2 h0 hfr ByteArray.empty).mono ?_
  rintro e w' ⟨v', bb, rfl, hb, hN⟩
  obtain ⟨G', ks, g, rfl, hg, hK, hB, hTD, hGr, hT, hnew, hgn, hlv⟩ := hN.ex
  have hlen : (placedN n ByteArray.empty).length = 2 := by
    rw [placedN_two hz rfl]
    rfl
  have hl2 : ks.length = 2 := hB.length.trans hlen
  rw [hlen] at hTD
  refine ⟨g, by rw [hl2], hTD.tm.tr, fun w4 a ha hP hTr hT4 => ?_⟩
  refine rt_two hr hz hg hK hB hTD hGr hT hnew hgn (fun hx => ?_) (fun e => ?_) ⟨fun hm => ?_, fun ho => ?_⟩ hlv hb ha (by rw [hl2]; exact hP) hTr hT4
  · rcases hx with hx | rfl
    · have := h.tm.mem.rows g hx
      omega
    · have := (hrow _ hb).1
      omega
  · have := (h.drop.lt g e).2
    omega
  · have := h.tm.lts g hm
    omega
  · have := h.tm.ob g ho
    omega

set_option maxRecDepth 100000 in
set_option maxHeartbeats 3200000 in
theorem tm_rootOf {w : World} {O : Nat → Prop} {t p b m sm rb : Nat} {s : St} {q : Pg} {Dn S : Stt} {D : Dk} {G : Gh} {Rw : Nat → Prop} {ds : List Nat} (h : TD w O t p b m sm rb s q Dn S D G Rw ds) {hh : Nat} {nd : Nd} {T : TypeId} {v : Value} {n : List (En hh)} (hv : NdV w nd T v) (hn : NodeIs G D hh nd n) (hrow : ∀ x, rowOf v x → x < w.heap.size ∧ Able O t p b m sm rb G Rw S.dropped x) (hfe : ∀ e ∈ n, FullE e) (hz2 : sizeN n ≤ 1900) (h1 : 1 ≤ hh → 1 ≤ n.length) (hfr : S.fresh ≤ 100000) (hh2 : hh ≤ 1000) :
    Calls Tryz.prog 56 #[.pointer (some ⟨t, 0, none⟩), .iface T v, .int .i64 ((hh + 1 : Nat) : Int)] w fun e w' => ∃ v', e = .returned v' ∧ RtOut w w' O t p b m sm rb s q Dn S D G Rw ds n v v' := by
  have hta := ta_ll
  have htb := ta_lb
  have htc := ta_bb
  have htd := ta_bl
  by_cases hend : (∃ (e : hh = 0), n = []) ∨ 1 ≤ hh ∧ n.length = 1
  · rcases hend with ⟨e, hn0⟩ | ⟨e, hn1⟩
    · subst e hn0
      obtain rfl : nd = .inl [] := hn
      obtain ⟨rfl, a, c, rfl, _⟩ := hv
      have HO := hide (rt_none h (.slice a 0 c))
      clear h hrow hfe hz2 h1
      go_enter Tryz.func56, Tryz.ntmps56
      go_wp2_with fail
      go_ret
      exact ⟨_, rfl, HO.out⟩
    · cases hh with
      | zero => omega
      | succ hh =>
        obtain ⟨ks, rfl, hb⟩ := hn
        obtain ⟨e0, rfl⟩ : ∃ e0, n = [e0] := List.length_eq_one_iff.1 hn1
        obtain ⟨k, rfl⟩ : ∃ k, ks = [k] := List.length_eq_one_iff.1 (hb.length.trans rfl)
        obtain ⟨rfl, a, c, rfl, hK, _⟩ := hv
        obtain ⟨b', off', rfl, _, hc⟩ := hK.at (i := 0) (by simp)
        simp only [Nat.zero_mul, Nat.add_zero, List.getElem_cons_zero] at hc
        have HO := hide (rt_one h hb.1 (.slice (some ⟨b', off', none⟩) [k].length c))
        clear h hrow hfe hz2 h1 hb hK
        generalize k.2 = a at *
        go_enter Tryz.func56, Tryz.ntmps56
        go_wp2_with fail
        go_ret
        exact ⟨_, rfl, HO.out⟩
  · have h0 : 0 < n.length := by
      rcases Nat.eq_zero_or_pos hh with e | e
      · subst e
        cases n with
        | nil => exact absurd (.inl ⟨rfl, rfl⟩) hend
        | cons => simp
      · exact h1 e
    have hr : rootN n = tops (placedN n ByteArray.empty) := by
      cases hh with
      | zero =>
        cases n with
        | nil => simp at h0
        | cons => rfl
      | succ hh =>
        match n, h0, hend with
        | [e], _, he => exact absurd (.inr ⟨by omega, rfl⟩) he
        | _ :: _ :: _, _, _ => rfl
    have hN : ∃ a c, v = .slice a n.length c ∧ (T = 73 ∨ T = 120 ∧ n.length ≠ 1) := by
      cases hh with
      | zero =>
        obtain rfl : nd = .inl n := hn
        obtain ⟨rfl, a, c, rfl, _⟩ := hv
        exact ⟨a, c, rfl, .inl rfl⟩
      | succ hh =>
        obtain ⟨ks, rfl, hb⟩ := hn
        obtain ⟨rfl, a, c, rfl, _⟩ := hv
        exact ⟨a, c, by rw [hb.length], .inr ⟨rfl, fun e => hend (.inr ⟨by omega, e⟩)⟩⟩
    obtain ⟨a, c, rfl, hT⟩ := hN
    have hn1000 : n.length ≤ 1000 := by have := len_size n; omega
    obtain ⟨lv, hlv⟩ : ∃ lv, lv = hh + 1 := ⟨_, rfl⟩
    have hlv2 : lv ≤ 1001 := by omega
    by_cases hz : sizeN n ≤ 495
    · have HPl := hide (top_one h hv hn (fun x hx => (hrow x hx).2) hfe hz h0 hfr hr)
      rw [← hlv] at HPl ⊢
      clear h hv hn hrow hfe hz h1 hr hend hz2 hlv
      generalize List.length n = N at *
      rcases hT with rfl | ⟨rfl, hN1⟩
      all_goals
        go_enter Tryz.func56, Tryz.ntmps56
        go_wp2_with fail
        with_reducible refine HPl.out.mono ?_
        rintro e w' ⟨g, a', rfl, hcell, hO⟩
        have HO := hide hO
        clear hO HPl
        go_wp2_with fail
        go_ret
        exact ⟨_, rfl, HO.out⟩
    · have HPl := hide (top_two h hv hn hrow hfe hz hz2 h0 hfr hr)
      have HPc := hide (show ∀ (w3 : World) (v3 : Value), TreeAt w3 t p Dn { S with fresh := S.fresh + 2 } → Calls Tryz.prog 87 #[.pointer (some ⟨t, 0, none⟩), .iface 120 v3, .int .i64 ((lv : Int) + 1)] w3 fun e w4 => ∃ a, e = .returned (.pointer (some ⟨a, 0, none⟩)) ∧ w3.heap.size ≤ a ∧ PlaceAt w4 a 0 (hh + 2) 0 (.iface 120 v3) ∧ TreeAt w4 t p Dn { S with fresh := S.fresh + 3 } ∧ Turn [t] w3 w4 from fun w3 v3 hTr => by
        have := place_any t p Dn { S with fresh := S.fresh + 2 } 120 v3 (hh + 2) (by show S.fresh + 2 ≤ _; omega) w3 hTr
        rw [show ((lv : Int) + 1) = ((hh + 2 : Nat) : Int) by omega]
        exact this)
      rw [← hlv] at HPl ⊢
      clear h hv hn hrow hfe hz h1 hr hend hz2 hlv
      generalize List.length n = N at *
      rcases hT with rfl | ⟨rfl, hN1⟩
      all_goals
        go_enter Tryz.func56, Tryz.ntmps56
        go_wp2_with fail
        with_reducible refine HPl.out.mono ?_
        rintro e w' ⟨g, rfl, hTr, hO⟩
        have HO := hide hO
        have HPc2 := hide (HPc.out w' (.slice (some ⟨g, 0, none⟩) 2 2) hTr)
        clear hO HPl HPc hTr
        go_wp2_with fail
        with_reducible refine HPc2.out.mono ?_
        rintro e w4 ⟨a4, rfl, ha4, hP4, hTr4, hT4⟩
        have HF := hide (HO.out w4 a4 ha4 hP4 hTr4 hT4)
        clear ha4 hP4 hTr4 hT4
        go_wp2_with fail
        go_ret
        exact ⟨_, rfl, HF.out⟩

end Go.Proofs.YthehkckdecckhaaGreatDoor

namespace Go.Proofs.YthehkckdecckhaaGreatDoor
open Go.RowKit Go.Maps

theorem TD.setRoot {w : World} {O : Nat → Prop} {t p b m sm rb : Nat} {s : St} {q : Pg} {Dn S : Stt} {D : Dk} {G : Gh} {Rw : Nat → Prop} {ds : List Nat} (h : TD w O t p b m sm rb s q Dn S D G Rw ds) (ro : Option Nat) : TD (w.setCell ⟨t, 6, none⟩ (rootV ro)) O t p b m sm rb s q Dn { S with root := ro } D G Rw ds ∧ Turn [t] w (w.setCell ⟨t, 6, none⟩ (rootV ro)) := by
  have hT : Turn [t] w (w.setCell ⟨t, 6, none⟩ (rootV ro)) := (Turn.refl [t] w).setCell (List.mem_singleton.2 rfl) 6 _
  refine ⟨⟨h.tm.state hT (fun x hx => .inl (List.mem_singleton.1 hx)) (h.tm.tr.setRoot ro), own_turn h.drop hT (fun g hg hm => ?_), h.far⟩, hT⟩
  rw [List.mem_singleton.1 hm] at hg
  exact (h.far t hg).1 (by simp)

/-- What edit leaves. -/
structure EdOut (w w' : World) (O : Nat → Prop) (t p b m sm rb : Nat) (s : St) (q : Pg) (Dn S : Stt) (D : Dk) (G : Gh) (Rw : Nat → Prop) (ds : List Nat) (pg : Nat) (fK : List Kv → List Kv) {hh : Nat} (l : List (En hh)) : Prop where
  ex : ∃ (rt : Root?) (G' : Gh) (Rw' : Nat → Prop) (r : Bool) (S' : Stt) (ds' X : List Nat) (y : Nat), RtAt G' D S'.root rt ∧ RootOk rt ∧ flatR rt = fK (flatN l) ∧ TD w' O t p b m sm rb s { q with rd := r } Dn S' D G' Rw' ds' ∧ Grown D G G' ∧ TGo t p w w' G G' Rw Rw' S.dropped S'.dropped ∧ Mvd X y S { S' with root := S.root } ds ds' ∧ (pagesR rt ++ X).Perm (pg :: pagesN l ++ List.replicate y 0) ∧ X.length ≤ 2 * hh + 1 ∧ y ≤ 2 * hh + 3

theorem edout_of {w w1 w2 : World} {O : Nat → Prop} {t p b m sm rb : Nat} {s : St} {q : Pg} {Dn S S1 : Stt} {D : Dk} {G G1 : Gh} {Rw Rw1 : Nat → Prop} {ds ds1 X : List Nat} {pg y hh : Nat} {fK : List Kv → List Kv} {l n : List (En hh)} {r1 : Bool} {v v2 : Value} (hMd : Made ByteArray.empty none n) (hfl : flatN n = fK (flatN l)) (hn1 : 1 ≤ hh → 1 ≤ n.length) (hGr1 : Grown D G G1) (hGo1 : TGo t p w w1 G G1 Rw Rw1 S.dropped S1.dropped) (hM1 : Mvd X y S S1 ds ds1) (hp1 : (pagesN n ++ X).Perm (pg :: pagesN l ++ List.replicate y 0)) (hX : X.length ≤ 2 * hh + 1) (hy : y ≤ 2 * hh) (hrow : ∀ x, rowOf v x → w.heap.size ≤ x)
    (hR : RtOut w1 w2 O t p b m sm rb s { q with rd := r1 } Dn S1 D G1 Rw1 ds1 n v v2) : ∃ ro, v2 = rootV ro ∧ EdOut w (w2.setCell ⟨t, 6, none⟩ (rootV ro)) O t p b m sm rb s q Dn S D G Rw ds pg fK l := by
  obtain ⟨ro, G2, Rw0, Rw2, y2, rfl, hRt, hTD2, hGr2, hR0, hR0', hGo2, hp2, hy2⟩ := hR.ex
  obtain ⟨hTD3, hT3⟩ := hTD2.setRoot ro
  have hs1 := hGo1.size
  obtain ⟨k1, k2⟩ := rootN_ok hMd (by
    rcases Nat.eq_zero_or_pos hh with h0 | h0
    · exact .inl h0
    · exact .inr (hn1 h0))
  have hG := (hGo1.wide hR0 fun x hx => by
    rcases hR0' x hx with h1 | h1
    · exact .inl h1
    · exact .inr (hrow x h1)).trans (hGo2.trans ⟨⟨[t], hT3, fun x hx => .inl (List.mem_singleton.1 hx)⟩, fun _ h => .inl h, fun _ h => .inl h, fun _ h => h, fun _ h => .inl h⟩)
  refine ⟨ro, rfl, rootN n, G2, Rw2, r1, _, ds1, X, y + y2, hRt, k1, k2.trans hfl, hTD3, hGr1.trans hGr2, hG, ⟨rfl, hM1.keys, hM1.changed, ?_, hM1.drop⟩, ?_, hX, by omega⟩
  · have := hM1.fresh
    show S1.fresh + y2 + X.count 0 = S.fresh + (y + y2)
    omega
  · rw [show List.replicate (y + y2) 0 = List.replicate y 0 ++ List.replicate y2 0 from List.replicate_append_replicate.symm]
    rw [List.perm_iff_count] at *
    intro x
    have e1 := hp1 x
    have e2 := hp2 x
    simp only [List.count_append, List.count_cons] at *
    omega

set_option maxRecDepth 100000 in
set_option maxHeartbeats 3200000 in
theorem tm_edit {w : World} {cf kb : Nat} {key : ByteArray} {want : Option ByteArray} {fK : List Kv → List Kv} (hE : EdK key want fK) (hC : LeafFn w cf kb key want fK) {O : Nat → Prop} {t p b m sm rb : Nat} {s : St} {Dn : Stt} {D : Dk} (hcf : cf = 38 ∨ cf = 40) (hkt : kb ≠ t ∧ kb ≠ p) {hh : Nat} {q : Pg} {S : Stt} {G : Gh} {Rw : Nat → Prop} {ds : List Nat} {a : Nat} {l : List (En hh)} {P : Pl} (hr : S.root = some a) (hkl : kb < w.heap.size) (hkG : G kb = none) (hkD : S.dropped.ownBlock ≠ some kb) (hTD : TD w O t p b m sm rb s q Dn S D G Rw ds) (hm : Means G D hh a l) (hP : G a = some P) (hw : WayIn key ByteArray.empty none l) (hget : getK (flatN l) key = want) (hds : ds.length + 2 * hh + 2 ≤ 40000) (hfr : S.fresh + 2 * hh + 2 ≤ 40000) (hcnt : (P.pg :: pagesN l).count 0 ≤ S.fresh) (hh2 : hh ≤ 1000) :
    Calls Tryz.prog 37 #[.pointer (some ⟨t, 0, none⟩), .string key, .func (.func cf) #[] #[.pointer (some ⟨kb, 0, none⟩)]] w fun e w' => e = .returned (.tuple #[]) ∧ EdOut w w' O t p b m sm rb s q Dn S D G Rw ds P.pg fK l := by
  have h6 : w.cell? ⟨t, 6, none⟩ = some (.pointer (some ⟨a, 0, none⟩)) := by have := hTD.tm.tr.now.c0; rw [hr] at this; exact this
  obtain ⟨lv, hlv⟩ : ∃ lv, lv = hh + 1 := ⟨_, rfl⟩
  have h1 : w.cell? ⟨a, 1, none⟩ = some (.int .i64 ((lv : Nat) : Int)) := by
    obtain ⟨P', hP', hl, _⟩ := hm.out
    have := hTD.tm.mem.at_ _ P' hP'
    unfold PlOk at this
    split at this
    · rw [this.c1, hl, hlv]
    · obtain ⟨_, _, _, _, hp, _⟩ := this
      rw [hp.c1, hl, hlv]
  have HH := hide (height_some t p a lv Dn S hr w hTD.tm.tr h1)
  have HEd := hide (tm_edited hE hC hcf hkt hh w q S G Rw ds a l P ByteArray.empty none rfl hkl hkG hkD hTD hm hP hw hget hds hfr hcnt)
  have HLv := hide hlv
  have HFr := hide (show S.fresh + 2 * hh + 2 ≤ 40000 ∧ hh ≤ 1000 from ⟨hfr, hh2⟩)
  have hl1 : 1 ≤ lv := by omega
  have hl2 : lv ≤ 1001 := by omega
  clear hE hC hcf hkt hr hkl hkG hkD hTD hm hP hw hget hds hfr hcnt hlv h1 hh2
  go_enter Tryz.func37, Tryz.ntmps37
  go_wp2_with fail
  refine HH.out.mono ?_
  rintro e w1 ⟨rfl, rfl⟩
  go_wp2_with fail
  with_reducible refine HEd.out.mono ?_
  rintro e w2 ⟨v2, rfl, hO2⟩
  obtain ⟨n, T, v, nd, G1, Rw1, r1, S1, ds1, X, y, rfl, hMd, hfl, hn1, hv, hi, hTD1, hGr1, hGo1, hM1, hp1, hX, hy, hrow⟩ := hO2.ex
  have hf1 := hM1.fresh
  have HR := hide (tm_rootOf hTD1 hv hi (fun x hx => (hrow x hx).2) hMd.full (by have := hMd.long; omega) hn1 (by have := HFr.out.1; omega) HFr.out.2)
  have hmx : ((lv : Nat) : Int) = max 1 ((lv : Nat) : Int) := by omega
  rw [← HLv.out, hmx] at HR
  clear hmx
  have HO := hide (fun (w3 : World) (v3 : Value) (hR : RtOut w2 w3 O t p b m sm rb s { q with rd := r1 } Dn S1 D G1 Rw1 ds1 n v v3) => And.intro (edout_of (q := q) hMd hfl hn1 hGr1 hGo1 hM1 hp1 hX hy (fun x hx => (hrow x hx).1) hR) (show w3.cell? ⟨t, 6, none⟩ ≠ none ∧ w3.frozen? ⟨t, 6, none⟩ = false by
    obtain ⟨_, _, _, _, _, _, _, hT, _⟩ := hR.ex
    exact ⟨by rw [hT.tm.tr.now.c0]; simp, hT.tm.tr.fz 6⟩))
  clear hO2 hMd hfl hn1 hv hi hTD1 hGr1 hGo1 hM1 hp1 hX hy hrow hf1 HEd HH
  go_wp2_with fail
  with_reducible refine HR.out.mono ?_
  rintro e w3 ⟨v3, rfl, hR⟩
  obtain ⟨⟨ro, rfl, hE⟩, hc6, hz6⟩ := HO.out w3 v3 hR
  obtain ⟨c6, hc6'⟩ := Option.ne_none_iff_exists'.1 hc6
  have HE := hide hE
  obtain ⟨pv, hpv⟩ : ∃ pv : Option Addr, rootV ro = .pointer pv := ⟨_, rfl⟩
  rw [hpv] at HE ⊢
  clear hE hR HO HR hc6 hpv
  go_wp2_with fail
  go_end0
  exact ⟨rfl, HE.out⟩

end Go.Proofs.YthehkckdecckhaaGreatDoor

namespace Go.Proofs.YthehkckdecckhaaGreatDoor
open Go.RowKit Go.Maps

theorem edk_put {key v : ByteArray} {want : Option ByteArray} (hk : 0 < key.size ∧ key.size ≤ 48) (hv : v.size ≤ 120) : EdK key want (fun L => putK L key v) :=
  ⟨fun _ _ _ hA hZ => putK_mid hA hZ, fun _ _ _ h1 h2 h3 h4 h5 h6 _ => made_put h1 h2 h3 h4 hk hv h5 h6⟩
theorem edk_del {key : ByteArray} {want : Option ByteArray} : EdK key want (fun L => delK L key) :=
  ⟨fun _ _ _ hA hZ => delK_mid hA hZ, fun _ _ _ h1 h2 h3 h4 _ _ _ => made_del h1 h2 h3 h4⟩

theorem rises_lt {L : List (ByteArray × ByteArray)} (hs : Rises (keysOf L)) {i j : Nat} (hij : i < j) (hj : j < L.length) : klt (L[i]'(by omega)).1 L[j].1 := by
  have := hs.get hij (by rw [keysOf_length]; exact hj)
  rw [keysOf_get (show i < L.length by omega), keysOf_get hj] at this
  exact this
theorem pos_parts {L : List (ByteArray × ByteArray)} {key : ByteArray} {i : Nat} (hp : IsPos (keysOf L) key i) : (∀ x ∈ L.take i, klt x.1 key) ∧ ∀ x ∈ L.drop i, ¬ klt x.1 key := by
  obtain ⟨_, h2, h3⟩ := hp
  refine ⟨fun x hx => ?_, fun x hx => ?_⟩
  · obtain ⟨m, hm, rfl⟩ := List.mem_take_iff_getElem.1 hx
    have := h2 m (by rw [keysOf_length]; omega) (by omega)
    rwa [keysOf_get] at this
  · obtain ⟨m, hm, rfl⟩ := List.mem_drop_iff_getElem.1 hx
    have := h3 (i + m) (by rw [keysOf_length]; omega) (by omega)
    rwa [keysOf_get] at this

theorem putL_putK {L : List (ByteArray × ByteArray)} {key v : ByteArray} {i : Nat} {f : Bool} (hs : Rises (keysOf L)) (hp : IsPos (keysOf L) key i) (hf : f = true ↔ Stands L key i) : putL L i f (key, v) = putK L key v := by
  obtain ⟨h1, h2⟩ := pos_parts hp
  have e1 : L.filter (fun x => decide (klt x.1 key)) = L.take i := by
    conv => lhs; rw [← List.take_append_drop i L]
    rw [List.filter_append, filter_all fun x hx => decide_eq_true (h1 x hx), filter_none fun x hx => decide_eq_false (h2 x hx), List.append_nil]
  have e2 : L.filter (fun x => decide (klt key x.1)) = L.drop (if f = true then i + 1 else i) := by
    conv => lhs; rw [← List.take_append_drop i L]
    rw [List.filter_append, filter_none (l := L.take i) (p := fun x => decide (klt key x.1)) (fun x hx => decide_eq_false (klt_asymm (h1 x hx))), List.nil_append]
    by_cases hft : f = true
    · rw [if_pos hft]
      obtain ⟨hi, hik⟩ := hf.1 hft
      rw [List.drop_eq_getElem_cons hi, List.filter_cons, if_neg (by rw [hik]; simpa using klt_irrefl key)]
      refine filter_all fun x hx => decide_eq_true ?_
      obtain ⟨m, hm, rfl⟩ := List.mem_drop_iff_getElem.1 hx
      have := rises_lt hs (i := i) (j := i + 1 + m) (by omega) (by omega)
      rwa [hik] at this
    · rw [if_neg hft]
      refine filter_all fun x hx => decide_eq_true ?_
      rcases klt_tri x.1 key with h | h | h
      · exact absurd h (h2 x hx)
      · refine absurd ?_ hft
        refine hf.2 ?_
        obtain ⟨m, hm, rfl⟩ := List.mem_drop_iff_getElem.1 hx
        rcases Nat.eq_zero_or_pos m with h0 | h0
        · subst h0
          exact ⟨by omega, h⟩
        · have h3 := rises_lt hs (i := i) (j := i + m) (by omega) (by omega)
          rw [h] at h3
          have h4 := h2 L[i] (by rw [List.drop_eq_getElem_cons (by omega)]; exact List.mem_cons_self ..)
          exact absurd h3 h4
      · exact h
  unfold putL putK
  rw [e1, e2, List.append_assoc]
  rfl

theorem erase_delK {L : List (ByteArray × ByteArray)} {key : ByteArray} {i : Nat} (hs : Rises (keysOf L)) (hi : i < L.length) (hik : L[i].1 = key) : L.eraseIdx i = delK L key := by
  rw [List.eraseIdx_eq_take_drop_succ]
  unfold delK
  conv => rhs; rw [← List.take_append_drop i L]
  rw [List.filter_append, List.drop_eq_getElem_cons hi, List.filter_cons, if_neg (by rw [hik]; simp)]
  refine congr (congrArg _ ?_) ?_
  · refine (filter_all fun x hx => decide_eq_true ?_).symm
    obtain ⟨m, hm, rfl⟩ := List.mem_take_iff_getElem.1 hx
    have := rises_lt hs (i := m) (j := i) (by omega) hi
    rw [hik] at this
    exact klt_ne this
  · refine (filter_all fun x hx => decide_eq_true ?_).symm
    obtain ⟨m, hm, rfl⟩ := List.mem_drop_iff_getElem.1 hx
    have := rises_lt hs (i := i) (j := i + 1 + m) (by omega) (by omega)
    rw [hik] at this
    exact (klt_ne this).symm

/-- Put's closure. -/
theorem leafFn_put {w0 : World} {kb : Nat} {key v : ByteArray} {want : Option ByteArray} (h0 : w0.cell? ⟨kb, 0, none⟩ = some (.string key)) (h1 : w0.cell? ⟨kb, 1, none⟩ = some (.string v)) : LeafFn w0 38 kb key want (fun L => putK L key v) := by
  intro w1 hb b off c L hK hc hl hs _
  refine (put1_any b off c kb L key v hs (by omega) hc w1 hK ((World.cell?_of_block (a := ⟨kb, 0, none⟩) hb).trans h0) ((World.cell?_of_block (a := ⟨kb, 1, none⟩) hb).trans h1)).mono ?_
  rintro e w2 ⟨i, f, r, rfl, hp, hf, hO, hT⟩
  have he := putL_putK (v := v) hs hp hf
  rw [he] at hO
  have hne : 0 < (putK L key v).length := by
    unfold putK
    rw [List.length_append, List.length_cons]
    omega
  obtain ⟨g, cap, rfl, _, hcap, h2, h3, hK2, _⟩ := own_kvs hO hne
  refine ⟨some ⟨g, 0, none⟩, cap, rfl, hK2, by simp, hcap, hT, fun ad e => ?_⟩
  obtain rfl := Option.some.inj e
  exact ⟨h2, h3⟩

/-- Del's closure. -/
theorem leafFn_del {w0 : World} {kb : Nat} {key v : ByteArray} (h0 : w0.cell? ⟨kb, 0, none⟩ = some (.string key)) : LeafFn w0 40 kb key (some v) (fun L => delK L key) := by
  intro w1 hb b off c L hK hc hl hs hget
  obtain ⟨i, hi, hik⟩ : ∃ i, ∃ hi : i < L.length, L[i].1 = key := by
    unfold getK at hget
    cases hf : L.find? (fun x => decide (x.1 = key)) with
    | none => rw [hf] at hget; cases hget
    | some x =>
      obtain ⟨i, hi, e⟩ := List.mem_iff_getElem.1 (List.mem_of_find?_eq_some hf)
      have := List.find?_some hf
      exact ⟨i, hi, by rw [e]; simpa using this⟩
  refine (tdel1_any b off c kb L key i hi hik hs (by omega) w1 hK ((World.cell?_of_block (a := ⟨kb, 0, none⟩) hb).trans h0)).mono ?_
  rintro e w2 ⟨g, cap, rfl, hcap, h2, h3, hK2, hT⟩
  rw [erase_delK hs hi hik] at hcap hK2
  refine ⟨some ⟨g, 0, none⟩, cap, by rw [erase_delK hs hi hik], hK2, by simp, hcap, hT, fun ad e => ?_⟩
  obtain rfl := Option.some.inj e
  exact ⟨h2, h3⟩

end Go.Proofs.YthehkckdecckhaaGreatDoor

namespace Go.Proofs.YthehkckdecckhaaGreatDoor
open Go.RowKit Go.Maps

/-- What the first Put leaves. -/
structure EdNil (w w' : World) (O : Nat → Prop) (t p b m sm rb : Nat) (s : St) (q : Pg) (Dn S : Stt) (D : Dk) (G : Gh) (Rw : Nat → Prop) (ds : List Nat) (k v : ByteArray) : Prop where
  ex : ∃ (rt : Root?) (G' : Gh) (Rw' : Nat → Prop) (S' : Stt) (y : Nat), RtAt G' D S'.root rt ∧ RootOk rt ∧ flatR rt = [(k, v)] ∧ TD w' O t p b m sm rb s q Dn S' D G' Rw' ds ∧ Grown D G G' ∧ TGo t p w w' G G' Rw Rw' S.dropped S'.dropped ∧ S'.keys = S.keys ∧ S'.changed = S.changed ∧ S'.fresh = S.fresh + y ∧ (pagesR rt).Perm (List.replicate y 0) ∧ y ≤ 3

theorem ednil_of {w w1 w2 : World} {O : Nat → Prop} {t p b m sm rb : Nat} {s : St} {q : Pg} {Dn S : Stt} {D : Dk} {G : Gh} {Rw : Nat → Prop} {ds : List Nat} {k v : ByteArray} {vn v2 : Value} (hk : 0 < k.size ∧ k.size ≤ 48) (hv : v.size ≤ 120) (hT : Turn [] w w1) (hrow : ∀ x, rowOf vn x → w.heap.size ≤ x)
    (hR : RtOut w1 w2 O t p b m sm rb s q Dn S D G Rw ds (hh := 0) [(k, v)] vn v2) : ∃ ro, v2 = rootV ro ∧ EdNil w (w2.setCell ⟨t, 6, none⟩ (rootV ro)) O t p b m sm rb s q Dn S D G Rw ds k v := by
  obtain ⟨ro, G2, Rw0, Rw2, y2, rfl, hRt, hTD2, hGr2, hR0, hR0', hGo2, hp2, hy2⟩ := hR.ex
  obtain ⟨hTD3, hT3⟩ := hTD2.setRoot ro
  have hMd : Made (h := 0) ByteArray.empty none [(k, v)] := made_put (l := []) (fun e he => by cases he) trivial (fun e he => by cases he) (by simp [sizeN]) hk hv (not_below k) (below_none k)
  obtain ⟨k1, k2⟩ := rootN_ok hMd (.inl rfl)
  have hG := ((TGo.refl t p w G Rw S.dropped).quiet hT).wide hR0 (fun x hx => (hR0' x hx).imp id (hrow x)) |>.trans (hGo2.trans ⟨⟨[t], hT3, fun x hx => .inl (List.mem_singleton.1 hx)⟩, fun _ h => .inl h, fun _ h => .inl h, fun _ h => h, fun _ h => .inl h⟩)
  exact ⟨ro, rfl, rootN (h := 0) [(k, v)], G2, Rw2, _, y2, hRt, k1, k2.trans (flatN_zero _), hTD3, hGr2, hG, rfl, rfl, rfl, hp2, hy2⟩

set_option maxRecDepth 100000 in
set_option maxHeartbeats 3200000 in
theorem tm_edit_nil {w : World} {kb : Nat} {k v : ByteArray} {O : Nat → Prop} {t p b m sm rb : Nat} {s : St} {Dn : Stt} {D : Dk} {q : Pg} {S : Stt} {G : Gh} {Rw : Nat → Prop} {ds : List Nat} (hr : S.root = none) (hTD : TD w O t p b m sm rb s q Dn S D G Rw ds) (hk : 0 < k.size ∧ k.size ≤ 48) (hv : v.size ≤ 120) (hfr : S.fresh ≤ 50000) (h0 : w.cell? ⟨kb, 0, none⟩ = some (.string k)) (h1 : w.cell? ⟨kb, 1, none⟩ = some (.string v)) :
    Calls Tryz.prog 37 #[.pointer (some ⟨t, 0, none⟩), .string k, .func (.func 38) #[] #[.pointer (some ⟨kb, 0, none⟩)]] w fun e w' => e = .returned (.tuple #[]) ∧ EdNil w w' O t p b m sm rb s q Dn S D G Rw ds k v := by
  have h6 : w.cell? ⟨t, 6, none⟩ = some (.pointer none) := by have := hTD.tm.tr.now.c0; rw [hr] at this; exact this
  have HC := hide (edited_nil t kb k v w h0 h1)
  have HH := hide (height_nil t p Dn S hr w hTD.tm.tr)
  have HT := hide (show TD w O t p b m sm rb s q Dn S D G Rw ds ∧ (0 < k.size ∧ k.size ≤ 48) ∧ v.size ≤ 120 ∧ S.fresh ≤ 50000 from ⟨hTD, hk, hv, hfr⟩)
  clear hr hTD hk hv hfr h0 h1
  go_enter Tryz.func37, Tryz.ntmps37
  go_wp2_with fail
  with_reducible refine HH.out.mono ?_
  rintro e w1 ⟨rfl, rfl⟩
  go_wp2_with fail
  with_reducible refine HC.out.mono ?_
  rintro e w2 ⟨i, f, g, cap, rfl, hN, hT2⟩
  have hsg := single k v i f hN.is
  have hlen : (putL [] i f (k, v)).length = 1 := by rw [hsg]; rfl
  have hkv := hN.kv
  have hcap := hN.cap
  rw [hsg] at hkv hcap
  rw [hlen]
  have hng := hN.new
  have hgl := hN.lt
  have hTD2 := HT.out.1.read (HT.out.1.tm.quiet hT2) ((TStep.refl p w1 G Rw).quiet hT2)
  have hrow : ∀ x, rowOf (.slice (some ⟨g, 0, none⟩) 1 cap) x → x = g := fun x hx => by
    obtain ⟨ad, c', cc, e, rfl⟩ := hx
    injection e with e
    injection e with e
    rw [← e]
  have HR := hide (tm_rootOf (hh := 0) (nd := .inl [(k, v)]) (T := 73) (v := .slice (some ⟨g, 0, none⟩) 1 cap) (n := [(k, v)]) hTD2 ⟨rfl, some ⟨g, 0, none⟩, cap, rfl, hkv, by simp, hcap.1, hcap.2⟩ rfl (fun x hx => by rw [hrow x hx]; exact ⟨hgl, HT.out.1.able hng⟩) (fun e he => by
    rw [List.mem_singleton.1 he]
    exact ⟨HT.out.2.1.1, HT.out.2.1.2, HT.out.2.2.1⟩) (by
    have := HT.out.2.1.2
    have := HT.out.2.2.1
    show (2 + k.size + v.size) + 0 ≤ 1900
    omega) (fun h => absurd h (by omega)) (by have := HT.out.2.2.2; omega) (by omega))
  have hmx : (((0 + 1 : Nat)) : Int) = max 1 0 := by decide
  rw [hmx] at HR
  clear hmx
  have HO := hide (fun (w3 : World) (v3 : Value) (hR : RtOut w2 w3 O t p b m sm rb s q Dn S D G Rw ds (hh := 0) [(k, v)] (.slice (some ⟨g, 0, none⟩) 1 cap) v3) => And.intro (ednil_of HT.out.2.1 HT.out.2.2.1 hT2 (fun x hx => by rw [hrow x hx]; exact hng) hR) (show w3.cell? ⟨t, 6, none⟩ ≠ none ∧ w3.frozen? ⟨t, 6, none⟩ = false by
    obtain ⟨_, _, _, _, _, _, _, hT, _⟩ := hR.ex
    exact ⟨by rw [hT.tm.tr.now.c0]; simp, hT.tm.tr.fz 6⟩))
  clear hN hT2 hsg hlen hkv hcap hng hgl hTD2 hrow HC HH
  go_wp2_with fail
  with_reducible refine HR.out.mono ?_
  rintro e w3 ⟨v3, rfl, hR⟩
  obtain ⟨⟨ro, rfl, hE⟩, hc6, hz6⟩ := HO.out w3 v3 hR
  obtain ⟨c6, hc6'⟩ := Option.ne_none_iff_exists'.1 hc6
  have HE := hide hE
  obtain ⟨pv, hpv⟩ : ∃ pv : Option Addr, rootV ro = .pointer pv := ⟨_, rfl⟩
  rw [hpv] at HE ⊢
  clear hE hR HO HR hc6 hpv
  go_wp2_with fail
  go_end0
  exact ⟨rfl, HE.out⟩

end Go.Proofs.YthehkckdecckhaaGreatDoor
