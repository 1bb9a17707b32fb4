/-
  settled, walked: its joining.
  edited: what it leaves, and what is kept on the way down.
  edited: a branch, put together.
  edited, walked, by induction on the level.
  rootOf, of any node.
  rootOf, walked.
  edit, walked, of a tree that has keys.
  What Put's and Del's closures do to a leaf.
  edit of a tree without keys: a Put.
  Get, walked, on any tree with its memory; what a root's node is.
  Put and Del, walked, on any tree with its memory.
  Put and Del, walked, on any tree with its memory: the walks.
  A tree with its pager: what stands between calls; what frees make of a pager; the disk behind a Commit.
  Commit, walked, of any tree.
  Commit of any tree that was changed, and has room.
  Calls of a tree that change nothing of it, or forget it all: Abort, a Put and a Commit that are refused, a Commit of nothing.
  The calls of a tree with its pager, by what it has.
-/
import Derived.Test.YthgpjkcgccdldaaGreatDoorV39
import Derived.Deep.RegionHeld3
import Derived.Deep.CutBlock
import Derived.Test.YthgpjkcgccdldaaGreatDoorV38
import Derived.Test.YthgpjkcgccdldaaGreatDoorV31
import Derived.Test.YthgpjkcgccdldaaGreatDoorV03
import Derived.Test.YthgpjkcgccdldaaGreatDoorV35
import Derived.Test.YthgpjkcgccdldaaGreatDoorV33
import Derived.Test.YthgpjkcgccdldaaGreatDoorV36

namespace Go.Proofs.YthgpjkcgccdldaaGreatDoor
open Go.RowKit Go.Maps

theorem kids_nil {w : World} {a : Option Addr} {l : List (ByteArray × Nat)} (h : l = []) : KidsAt w a l := .inl h

def leftS {h : Nat} (a : List (En (h + 1))) (n : List (En h)) : Bool := match a.getLast? with
  | none => false
  | some j => shortN n (kidsOf j)
def rightS {h : Nat} (z : List (En (h + 1))) (n : List (En h)) : Bool := match z with
  | [] => false
  | m :: _ => shortN n (kidsOf m)

set_option maxRecDepth 100000 in
set_option maxHeartbeats 6400000 in
theorem tm_settled {w : World} {O : Nat → Prop} {t p b m sm rb : Nat} {s : St} {q : Pg} {Dn S : Stt} {D : Dk} {G : Gh} {Rw : Nat → Prop} {ds : List Nat} {hh b0 off cap : Nat} {ks : List (ByteArray × Nat)} {bl a z : List (En (hh + 1))} {c : En (hh + 1)} {nd : Nd} {T : TypeId} {v : Value} {n : List (En hh)} (h : SIn w O t p b m sm rb s q Dn S D G Rw ds hh b0 off ks bl nd T v n) (hbl : bl = a ++ c :: z) (hf : ∀ e ∈ bl, FullE e) (hn : ∀ e ∈ n, FullE e) (hz : sizeN n ≤ 1000) (htwo : 2 ≤ bl.length) (hlen : bl.length ≤ 300) (hcap : ks.length ≤ cap ∧ cap ≤ 9223372036854775807) (hds : ds.length ≤ 50000) (hfr : S.fresh ≤ 50000 ∧ ∀ e ∈ a ++ z, pageOf e = 0 → 1 ≤ S.fresh) :
    Calls Tryz.prog 132 #[.pointer (some ⟨t, 0, none⟩), .slice (some ⟨b0, off, none⟩) ks.length cap, .int .i64 (a.length : Nat), .iface T v] w fun e w' => ∃ v', e = .returned v' ∧ SOut w w' O t p b m sm rb s q Dn S D G Rw ds hh a z c n v v' := by
  have hkl : ks.length = bl.length := h.both.length
  have hal : a.length < bl.length := by rw [hbl]; simp
  obtain ⟨hc0, hc1, hlv, hx1, hx2⟩ := h.at_ (i := a.length) (by omega) hal
  clear hx1 hx2
  have H := hide h
  have HF := hide (show (∀ e ∈ bl, FullE e) ∧ (∀ e ∈ n, FullE e) ∧ sizeN n ≤ 1000 ∧ bl = a ++ c :: z ∧ ∀ e ∈ a ++ z, pageOf e = 0 → 1 ≤ S.fresh from ⟨hf, hn, hz, hbl, hfr.2⟩)
  have hfr1 := hfr.1
  have HLen := hide hkl
  obtain ⟨lv, hlv'⟩ : ∃ lv, lv = hh + 1 := ⟨_, rfl⟩
  replace hlv : w.cell? ⟨(ks[a.length]'(by omega)).2, 1, none⟩ = some (.int .i64 ((lv : Nat) : Int)) := by rw [hlv']; exact hlv
  have HLv := hide hlv'
  obtain ⟨i, hi⟩ : ∃ i, i = a.length := ⟨_, rfl⟩
  obtain ⟨N, hN⟩ : ∃ N, N = ks.length := ⟨_, rfl⟩
  have HKs := hide hN
  have HIa := hide hi
  have hiN : i < N := by omega
  have h2N : 2 ≤ N := by omega
  have hN300 : N ≤ 300 := by omega
  have hcapN : N ≤ cap := by omega
  have hcapM : cap ≤ 9223372036854775807 := hcap.2
  simp only [← hi] at hc0 hc1 hlv
  rw [← hi, ← hN]
  generalize ks[i].2 = ai at *
  generalize bl[i].key = lo0 at *
  clear h hf hn hz htwo hlen hcap hfr hkl hal hlv' hi hN hbl
  go_enter Tryz.func132, Tryz.ntmps132
  go_upto_block 0 with fail
  go_cut [3, 10, 11] from 23 to 73 (fun nv fv tv wx => SMid w wx O t p b m sm rb s q Dn S D G Rw ds hh b0 off ks bl a z c n v nv fv tv)
  case first =>
    go_upto_region 3 with fail
    go_cut [23] from 24 to 36 (fun u wx => u = .bool (leftS a n) ∧ SRd w wx O t p b m sm rb s q Dn S D G Rw ds hh b0 off ks bl nd T v n)
    case first =>
      rcases List.eq_nil_or_concat a with ha | ⟨a1, j, ha⟩
      · obtain rfl : i = 0 := by rw [HIa.out, ha]; rfl
        go_wp2_with fail
        go_meet
        case rel => exact ⟨by rw [ha]; rfl, ⟨G, Rw, q.rd, H.out, Grown.refl _ _, TGo.refl _ _ _ _ _ _⟩⟩
      · rw [List.concat_eq_append] at ha
        obtain ⟨f, hfi⟩ : ∃ f, f = a1.length := ⟨_, rfl⟩
        have hif : i = f + 1 := by rw [HIa.out, ha, hfi]; simp
        subst hif
        simp only [Int.natCast_add, Int.cast_ofNat_Int]
        obtain ⟨af, _, hcf, hB⟩ := H.out.beside HF.out.1 HF.out.2.1 HF.out.2.2.1 (i := f) (x := j) (by rw [HF.out.2.2.2.1, ha, hfi]; simp)
        have HB := hide hB.short
        have hls : leftS a n = shortN n (kidsOf j) := by rw [ha]; unfold leftS; simp
        have HLs := hide hls
        clear hB hls ha hfi
        go_wp2_with fail
        refine HB.out.mono ?_
        rintro e w1 ⟨rfl, hR⟩
        have HR := hide hR
        clear hR
        go_wp2_with fail
        go_meet
        case rel => exact ⟨congrArg Value.bool HLs.out.symm, HR.out⟩
    case rest =>
      obtain ⟨rfl, hRd⟩ := hcut
      obtain ⟨G1, Rw1, r1, hS1, hGr1, hGo1⟩ := hRd.ex
      have HS1 := hide hS1
      have HGr1 := hide hGr1
      have HGo1 := hide hGo1
      clear hRd hS1 hGr1 hGo1 hc0 hc1 hlv
      cases hL : leftS a n with
      | true =>
        rcases List.eq_nil_or_concat a with ha | ⟨a1, j, ha⟩
        · rw [ha] at hL
          cases hL
        rw [List.concat_eq_append] at ha
        have hls : leftS a n = shortN n (kidsOf j) := by rw [ha]; unfold leftS; simp
        rw [hls] at hL
        obtain ⟨f, hfi⟩ : ∃ f, f = a1.length := ⟨_, rfl⟩
        have hif : i = f + 1 := by rw [HIa.out, ha, hfi]; simp
        subst hif
        simp only [Int.natCast_add, Int.cast_ofNat_Int]
        obtain ⟨af, _, hcf, hB⟩ := HS1.out.beside HF.out.1 HF.out.2.1 HF.out.2.2.1 (i := f) (x := j) (by rw [HF.out.2.2.2.1, ha, hfi]; simp)
        have HB := hide (hB.take (by omega) ⟨by omega, HF.out.2.2.2.2 j (by rw [ha]; simp)⟩)
        have HP := hide (pick_left (a1 := a1) (z := z) (c := c) (HF.out.2.2.2.1.trans (by rw [ha]; simp)) hL HF.out.1 HF.out.2.1 HF.out.2.2.1)
        rw [← ha, ← hfi] at HP
        have HJf := hide (full_at (HF.out.1 j (by rw [HF.out.2.2.2.1, ha]; simp)))
        clear hB hls hfi hL ha
        go_wp2_with fail
        refine HB.out.mono ?_
        rintro e w2 ⟨T3, v3, nd3, G2, Rw2, r2, S2, ds2, rfl, hN3, hNode3, hS2, hGr2, hGo2, hMv⟩
        have HJ := hide (tm_join hN3 hS2.nv hNode3 hS2.nis ⟨by have := HJf.out.2.2.1; have := len_size (kidsOf j); omega, by have := HF.out.2.2.1; have := len_size n; omega⟩ HP.out.some)
        have HS2 := hide hS2
        have HGr2 := hide (HGr1.out.trans hGr2)
        have HGo2 := hide (HGo1.out.trans hGo2)
        have HMv := hide hMv
        clear hN3 hNode3 hS2 hGr2 hGo2 hMv
        go_wp2_with fail
        refine HJ.out.mono ?_
        rintro e w3 ⟨T2, v2, nd2, bb, rfl, hin, hbb, hn2, hT3⟩
        obtain ⟨hS3, hrow⟩ := HS2.out.node hT3 hin hbb hn2
        have HS3 := hide hS3
        have HGo3 := hide (HGo2.out.quiet hT3)
        have HRow := hide (show ∀ x, rowOf v2 x → rowOf v x ∨ Rw2 x ∨ w.heap.size ≤ x from fun x hx => .inr (.inr (by rw [hrow x hx]; exact Nat.le_trans HGo2.out.size hbb)))
        clear hin hbb hn2 hT3 hS3 hrow
        go_wp2_with fail
        go_meet
        case rel => exact ⟨T2, v2, nd2, _, f, f + 1 + 1, S2, ds2, G2, Rw2, r2, _, rfl, by go_num, by go_num, HP.out, HS3.out, HGr2.out, HGo3.out, HMv.out, HRow.out⟩
      | false =>
        have hnl : ∀ j, a.getLast? = some j → shortN n (kidsOf j) = false := fun j hj => by
          unfold leftS at hL
          rw [hj] at hL
          exact hL
        have HNl := hide hnl
        clear hL hnl
        have hNz : N = i + 1 + z.length := by rw [HKs.out, HLen.out, HF.out.2.2.2.1, HIa.out]; simp; omega
        go_upto_region 6 with fail
        go_cut [48] from 49 to 62 (fun u wx => u = .bool (rightS z n) ∧ SRd w wx O t p b m sm rb s q Dn S D G Rw ds hh b0 off ks bl nd T v n)
        case first =>
          cases hzz : z with
          | nil =>
            obtain rfl : N = i + 1 := by rw [hNz, hzz]; rfl
            have hz0 := hide hzz
            clear hzz hNz
            go_wp2_with fail
            go_meet
            case rel => exact ⟨by rw [hz0.out]; rfl, ⟨G1, Rw1, r1, HS1.out, HGr1.out, HGo1.out⟩⟩
          | cons mm z' =>
            have hlt : i + 1 < N := by rw [hNz, hzz]; simp
            obtain ⟨af, _, hcf, hB⟩ := HS1.out.beside HF.out.1 HF.out.2.1 HF.out.2.2.1 (i := i + 1) (x := mm) (by rw [HF.out.2.2.2.1, hzz, HIa.out]; simp)
            have HB := hide hB.short
            have hls : rightS (mm :: z') n = shortN n (kidsOf mm) := rfl
            have HLs := hide hls
            have HZz := hide hzz
            clear hB hls hzz hNz
            go_wp2_with fail
            refine HB.out.mono ?_
            rintro e w2 ⟨rfl, hR⟩
            have HR := hide hR
            clear hR
            go_wp2_with fail
            go_meet
            case rel => exact ⟨by rw [HZz.out, HLs.out], SRd.then_ (r := r1) rfl HGr1.out HGo1.out HR.out⟩
        case rest =>
          obtain ⟨rfl, hRd⟩ := hcut
          clear HS1 HGr1 HGo1
          obtain ⟨G1, Rw1, r1, hS1, hGr1, hGo1⟩ := hRd.ex
          have HS1 := hide hS1
          have HGr1 := hide hGr1
          have HGo1 := hide hGo1
          clear hRd hS1 hGr1 hGo1
          cases hR : rightS z n with
          | true =>
            cases hzz : z with
            | nil =>
              rw [hzz] at hR
              cases hR
            | cons mm z' =>
              have hlt : i + 1 < N := by rw [hNz, hzz]; simp
              have hsm : shortN n (kidsOf mm) = true := by rw [hzz] at hR; exact hR
              obtain ⟨af, _, hcf, hB⟩ := HS1.out.beside HF.out.1 HF.out.2.1 HF.out.2.2.1 (i := i + 1) (x := mm) (by rw [HF.out.2.2.2.1, hzz, HIa.out]; simp)
              have HB := hide (hB.take (by omega) ⟨by omega, HF.out.2.2.2.2 mm (by rw [hzz]; simp)⟩)
              have HP := hide (pick_right (c := c) (HF.out.2.2.2.1.trans (by rw [hzz])) HNl.out hsm HF.out.1 HF.out.2.1 HF.out.2.2.1)
              rw [← HIa.out, ← hzz] at HP
              have HJf := hide (full_at (HF.out.1 mm (by rw [HF.out.2.2.2.1, hzz]; simp)))
              clear hB hR hsm hzz hNz
              go_wp2_with fail
              refine HB.out.mono ?_
              rintro e w2 ⟨T3, v3, nd3, G2, Rw2, r2, S2, ds2, rfl, hN3, hNode3, hS2, hGr2, hGo2, hMv⟩
              have HJ := hide (tm_join hS2.nv hN3 hS2.nis hNode3 ⟨by have := HF.out.2.2.1; have := len_size n; omega, by have := HJf.out.2.2.1; have := len_size (kidsOf mm); omega⟩ HP.out.some)
              have HS2 := hide hS2
              have HGr2 := hide (HGr1.out.trans hGr2)
              have HGo2 := hide (HGo1.out.trans hGo2)
              have HMv := hide hMv
              clear hN3 hNode3 hS2 hGr2 hGo2 hMv
              go_wp2_with fail
              refine HJ.out.mono ?_
              rintro e w3 ⟨T2, v2, nd2, bb, rfl, hin, hbb, hn2, hT3⟩
              obtain ⟨hS3, hrow⟩ := HS2.out.node hT3 hin hbb hn2
              have HS3 := hide hS3
              have HGo3 := hide (HGo2.out.quiet hT3)
              have HRow := hide (show ∀ x, rowOf v2 x → rowOf v x ∨ Rw2 x ∨ w.heap.size ≤ x from fun x hx => .inr (.inr (by rw [hrow x hx]; exact Nat.le_trans HGo2.out.size hbb)))
              clear hin hbb hn2 hT3 hS3 hrow
              go_wp2_with fail
              go_meet
              case rel => exact ⟨T2, v2, nd2, _, i, i + 1 + 1, S2, ds2, G2, Rw2, r2, _, rfl, by go_num, by go_num, HP.out, HS3.out, HGr2.out, HGo3.out, HMv.out, HRow.out⟩
          | false =>
            have HP := hide (pick_none (c := c) HF.out.2.2.2.1 HNl.out (fun m z' e => by rw [e] at hR; exact hR) (by rw [← HLen.out, ← HKs.out]; exact h2N) HF.out.2.1 HF.out.2.2.1)
            rw [← HIa.out] at HP
            clear hR hNz
            go_wp2_with fail
            go_meet
            case rel => exact ⟨T, v, nd, n, i, i + 1, S, ds, G1, Rw1, r1, _, rfl, by go_num, by go_num, HP.out, HS1.out, HGr1.out, HGo1.out, Mvd.nil _ _, fun x hx => .inl hx⟩
  case rest =>
    obtain ⟨T2, v2, nd2, n2, f, f2, S2, ds2, G2, Rw2, r2, X, rfl, rfl, rfl, hP, hS2, hGr2, hGo2, hMv, hRow⟩ := hcut.ex
    have hfN : f < N := by have := hP.lt; have := hP.le; rw [HKs.out, HLen.out]; omega
    have hffN : f2 ≤ N := by have := hP.le; rw [HKs.out, HLen.out]; omega
    have hflt := hP.lt
    have hfb : f < bl.length := by rw [← HLen.out, ← HKs.out]; exact hfN
    obtain ⟨lo, hlo⟩ : ∃ lo, lo = bl[f].key := ⟨_, rfl⟩
    have HLo := hide (show ∃ hf : f < bl.length, lo = bl[f].key from ⟨hfb, hlo⟩)
    obtain ⟨hcf, hx9⟩ := hS2.at_ (i := f) (by rw [← HKs.out]; exact hfN) hfb
    clear hx9
    rw [← hlo] at hcf
    have HP := hide hP
    have HS2 := hide hS2
    have HGr2 := hide hGr2
    have HGo2 := hide hGo2
    have HMv := hide hMv
    have HRow := hide hRow
    have hfr2 : S2.fresh ≤ 100000 := by have := hMv.fresh; omega
    have HAll := hide (show ∀ w', Turn [t] wc w' → w'.cell? ⟨b0, off + f * 2, none⟩ = some (.string lo) from fun w' hT => (hT.cell (lt_of_cell hcf) (by simp; rintro rfl; exact (HS2.out.td.tm.own b0 (.inr HS2.out.row)).1 (by simp))).trans hcf)
    have HPl := hide (show ∀ w', Turn [] wc w' → Calls Tryz.prog 129 #[.pointer (some ⟨t, 0, none⟩), .iface T2 v2, .int .i64 ((lv : Nat) : Int), .string lo] w' fun e w'' => ∃ v' bb, e = .returned v' ∧ rowOf v2 bb ∧ NewPl w' O t p b m sm rb s { q with rd := r2 } Dn S2 D G2 Rw2 ds2 bb hh (placedN n2 lo) w'' v' from fun w' hT => by rw [HLv.out]; exact (HS2.out.quiet hT).placed HP.out.full HP.out.size HP.out.some hfr2 lo)
    clear hcut hP hS2 hGr2 hGo2 hMv hRow hc0 hc1 hlv hlo hfb
    have hl1 : (f : Int) ≤ (cap : Int) := by omega
    have hl2 : (f2 : Int) ≤ (N : Int) := by omega
    have hl3 : (f2 : Int) ≤ (cap : Int) := by omega
    by_cases hne : cap = f2
    · subst hne
      go_upto_region 9 with fail
      go_region_held3 (fun w' => w'.cell? ⟨b0, off + f * 2, none⟩ = some (.string lo)) (first | assumption | exact HAll.out _ (Turn.refl [t] _) | exact HAll.out _ (Turn.refl [t] wc).drew | exact HAll.out _ HT3.out | exact HAll.out _ (HT3.out.trans ((Turn.refl [t] _).alloc _)) | exact HAll.out _ (HT3.out.trans (HT5.out.mono (by simp))))
        (first
          | (go_at_call 160; with_reducible refine (HS2.out.cat (f2 := cap) HT3.out (by rw [← HKs.out]; omega) (by rw [← HKs.out]; omega) HK2.out (by rw [HB2.out.length]; exact (placed_len n2 lo).2) (by rw [← HKs.out]; omega) (by simp) (kids_nil (List.drop_eq_nil_of_le (by rw [← HKs.out]; omega))) _ _).mono ?_; rintro e w5 ⟨v5, base, rfl, hbase, hO5, hT5⟩; have HO5 := hide hO5; have HT5 := hide hT5; clear hO5 hT5)
          | (go_at_call 129; with_reducible refine (HPl.out _ (Turn.refl [] wc).drew).mono ?_; rintro e w3 ⟨v', bb, rfl, hbb, hN⟩; obtain ⟨G3, ks2, g2, rfl, hg2, hK2, hB2, hTD3, hGr3, hT3, hnew, _, _⟩ := hN.ex; have HBb := hide hbb; have HK2 := hide hK2; have HB2 := hide hB2; have HTD3 := hide hTD3; have HGr3 := hide hGr3; have HT3 := hide ((Turn.refl [t] wc).drew.trans hT3); have HNew := hide hnew; clear hbb hN hK2 hB2 hTD3 hGr3 hT3 hnew))
      all_goals
        go_wp2_with fail
        go_ret
        exact ⟨v5, rfl, sout_of HS2.out HP.out HLo.out HGr2.out HGo2.out HMv.out HRow.out HBb.out HB2.out HTD3.out HGr3.out (HT3.out) HNew.out HO5.out (by have := (placed_len n2 lo).1; rw [← HB2.out.length] at this; omega) HT5.out hbase⟩
    · go_upto_region 9 with fail
      go_region_held3 (fun w' => w'.cell? ⟨b0, off + f * 2, none⟩ = some (.string lo)) (first | assumption | exact HAll.out _ (Turn.refl [t] _) | exact HAll.out _ (Turn.refl [t] wc).drew | exact HAll.out _ HT3.out | exact HAll.out _ (HT3.out.trans ((Turn.refl [t] _).alloc _)) | exact HAll.out _ (HT3.out.trans (HT5.out.mono (by simp))))
        (first
          | (go_at_call 160; with_reducible refine (HS2.out.cat HT3.out (by rw [← HKs.out]; omega) (by rw [← HKs.out]; omega) HK2.out (by rw [HB2.out.length]; exact (placed_len n2 lo).2) (by rw [← HKs.out]) (by simp) ((HS2.out.kids_t HT3.out).part f2).2 _ _).mono ?_; rintro e w5 ⟨v5, base, rfl, hbase, hO5, hT5⟩; have HO5 := hide hO5; have HT5 := hide hT5; clear hO5 hT5)
          | (go_at_call 129; with_reducible refine (HPl.out _ (Turn.refl [] wc).drew).mono ?_; rintro e w3 ⟨v', bb, rfl, hbb, hN⟩; obtain ⟨G3, ks2, g2, rfl, hg2, hK2, hB2, hTD3, hGr3, hT3, hnew, _, _⟩ := hN.ex; have HBb := hide hbb; have HK2 := hide hK2; have HB2 := hide hB2; have HTD3 := hide hTD3; have HGr3 := hide hGr3; have HT3 := hide ((Turn.refl [t] wc).drew.trans hT3); have HNew := hide hnew; clear hbb hN hK2 hB2 hTD3 hGr3 hT3 hnew))
      all_goals
        go_wp2_with fail
        go_ret
        exact ⟨v5, rfl, sout_of HS2.out HP.out HLo.out HGr2.out HGo2.out HMv.out HRow.out HBb.out HB2.out HTD3.out HGr3.out (HT3.out) HNew.out HO5.out (by have := (placed_len n2 lo).1; rw [← HB2.out.length] at this; omega) HT5.out hbase⟩

end Go.Proofs.YthgpjkcgccdldaaGreatDoor

namespace Go.Proofs.YthgpjkcgccdldaaGreatDoor
open Go.RowKit Go.Maps

/-- What an edit does to a leaf's pairs, and what it keeps. -/
structure EdK (key : ByteArray) (want : Option ByteArray) (fK : List Kv → List Kv) : Prop where
  mid : ∀ A m Z, (∀ x ∈ A, klt x.1 key) → (∀ x ∈ Z, klt key x.1) → fK (A ++ (m ++ Z)) = A ++ (fK m ++ Z)
  made : ∀ (lo : ByteArray) (hi : Option ByteArray) (l : List (En 0)), Starts lo l → OrdN hi l → (∀ e ∈ l, FullE e) → sizeN l ≤ 495 → ¬ klt key lo → Below? key hi → getK l key = want → Made (h := 0) lo hi (fK l)

/-- A node between bounds, on a key's way. -/
structure WayIn (key : ByteArray) (lo : ByteArray) (hi : Option ByteArray) {h : Nat} (l : List (En h)) : Prop where
  starts : Starts lo l
  ord : OrdN hi l
  low : ¬ klt key lo
  high : Below? key hi
  full : ∀ e ∈ l, FullE e
  size : sizeN l ≤ 495
  some : 1 ≤ h → 2 ≤ l.length
theorem minN_two (h : Nat) : 2 ≤ minN (h + 1) := by simp [minN]
theorem WayIn.sub {key lo : ByteArray} {hi : Option ByteArray} {h : Nat} {l : List (En h)} (hw : WayIn key lo hi l) : Sub key l := ⟨⟨lo, hi, hw.starts, hw.ord, hw.low, hw.high⟩, hw.full, hw.size, fun h1 => by have := hw.some h1; omega⟩
theorem WayIn.down {key lo : ByteArray} {hi : Option ByteArray} {h : Nat} {l a z : List (En (h + 1))} {c : En (h + 1)} (hw : WayIn key lo hi l) (hs : Spot hi l a c z key) : WayIn key c.key (topK hi z) (kidsOf c) := by
  have ho := hw.ord
  rw [hs.eq] at ho
  obtain ⟨_, g2, g3⟩ := ord_at ho
  obtain ⟨_, f2, f3, f4⟩ := full_at (hw.full c (by rw [hs.eq]; simp))
  refine ⟨g2, g3, hs.le, hs.lt, f4, f3, fun h1 => ?_⟩
  cases h with
  | zero => omega
  | succ h => exact Nat.le_trans (minN_two h) f2

/-- What edited leaves. -/
structure EOut (w w' : World) (O : Nat → Prop) (t p b m sm rb : Nat) (s : St) (q : Pg) (Dn S : Stt) (D : Dk) (G : Gh) (Rw : Nat → Prop) (ds : List Nat) (pg : Nat) (fK : List Kv → List Kv) (lo : ByteArray) (hi : Option ByteArray) {hh : Nat} (l : List (En hh)) (e : Value) : Prop where
  ex : ∃ (n : List (En hh)) (T : TypeId) (v : Value) (nd : Nd) (G' : Gh) (Rw' : Nat → Prop) (r : Bool) (S' : Stt) (ds' X : List Nat) (y : Nat), e = .iface T v ∧ Made lo hi n ∧ flatN n = fK (flatN l) ∧ (1 ≤ hh → 1 ≤ n.length) ∧ NdV w' nd T v ∧ NodeIs G' D hh nd n ∧ TD w' O t p b m sm rb s { q with rd := r } Dn S' D G' Rw' ds' ∧ Grown D G G' ∧ TGo t p w w' G G' Rw Rw' S.dropped S'.dropped
    ∧ Mvd X y S S' ds ds' ∧ (pagesN n ++ X).Perm (pg :: pagesN l ++ List.replicate y 0) ∧ X.length ≤ 2 * hh + 1 ∧ y ≤ 2 * hh ∧ ∀ x, rowOf v x → w.heap.size ≤ x ∧ x < w'.heap.size ∧ Able O t p b m sm rb G' Rw' S'.dropped x

/-- The empty node. -/
def noNd : Nat → Nd
  | 0 => .inl []
  | _ + 1 => .inr []
theorem noNd_is (G : Gh) (D : Dk) : (h : Nat) → NodeIs G D h (noNd h) []
  | 0 => rfl
  | _ + 1 => ⟨[], rfl, trivial⟩
theorem noNd_v (w : World) (h : Nat) : ∃ T, NdV w (noNd h) T (.slice none 0 0) := by
  cases h with
  | zero => exact ⟨_, rfl, none, 0, rfl, .inl rfl, fun _ => rfl, Nat.le_refl _, by omega⟩
  | succ h => exact ⟨_, rfl, none, 0, rfl, .inl rfl, fun _ => rfl, Nat.le_refl _, by omega⟩

/-- A branch that was taken, with nothing beside it. -/
theorem SIn.start {w : World} {O : Nat → Prop} {t p b m sm rb : Nat} {s : St} {q : Pg} {Dn S : Stt} {D : Dk} {G : Gh} {Rw : Nat → Prop} {ds : List Nat} (h : TD w O t p b m sm rb s q Dn S D G Rw ds) {hh b0 off : Nat} {ks : List (ByteArray × Nat)} {bl : List (En (hh + 1))} (hK : KidsAt w (some ⟨b0, off, none⟩) ks) (hr : Rw b0) (hb : Both (KidIs G (Means G D hh)) ks bl) : ∃ T, SIn w O t p b m sm rb s q Dn S D G Rw ds hh b0 off ks bl (noNd hh) T (.slice none 0 0) [] := by
  obtain ⟨T, hT⟩ := noNd_v w hh
  refine ⟨T, h, hK, hr, hb, fun k hk => ?_, hT, noNd_is G D hh, fun ad c' c e => by injection e with e; cases e⟩
  obtain ⟨e2, _, h1⟩ := hb.left k hk
  obtain ⟨P, hP, hl, _⟩ := h1.2.2.out
  exact ⟨P, hP, hl⟩
/-- Another node in its stead. -/
theorem SIn.put {w : World} {O : Nat → Prop} {t p b m sm rb : Nat} {s : St} {q : Pg} {Dn S : Stt} {D : Dk} {G : Gh} {Rw : Nat → Prop} {ds : List Nat} {hh b0 off : Nat} {ks : List (ByteArray × Nat)} {bl : List (En (hh + 1))} {nd nd2 : Nd} {T T2 : TypeId} {v v2 : Value} {n n2 : List (En hh)} (h : SIn w O t p b m sm rb s q Dn S D G Rw ds hh b0 off ks bl nd T v n) (hv : NdV w nd2 T2 v2) (hn : NodeIs G D hh nd2 n2) (hr : ∀ x, rowOf v2 x → x < w.heap.size ∧ Able O t p b m sm rb G Rw S.dropped x) : SIn w O t p b m sm rb s q Dn S D G Rw ds hh b0 off ks bl nd2 T2 v2 n2 :=
  ⟨h.td, h.kids, h.row, h.both, h.lvls, hv, hn, fun ad c' c e => ⟨(hr ad.block ⟨ad, c', c, e, rfl⟩).2, (hr ad.block ⟨ad, c', c, e, rfl⟩).1⟩⟩

theorem TGo.wide {t p : Nat} {w w' : World} {G G' : Gh} {Rw Rw' R : Nat → Prop} {dv dv' : Value} (h : TGo t p w w' G G' Rw Rw' dv dv') (h1 : ∀ x, Rw' x → R x) (h2 : ∀ x, R x → Rw' x ∨ w.heap.size ≤ x) : TGo t p w w' G G' Rw R dv dv' :=
  ⟨h.turn, h.newG, fun x hx => (h2 x hx).elim (h.newR x) .inr, fun x hx => h1 x (h.oldR x hx), h.newD⟩

/-- A block that is nobody's is left as it is. -/
theorem TGo.keep {t p kb : Nat} {w w' : World} {G G' : Gh} {Rw Rw' : Nat → Prop} {dv dv' : Value} (h : TGo t p w w' G G' Rw Rw' dv dv') (hk : kb < w.heap.size) (h1 : kb ≠ t) (h2 : kb ≠ p) (h3 : G kb = none) (h4 : dv.ownBlock ≠ some kb) : w'.heap[kb]? = w.heap[kb]? ∧ kb < w'.heap.size ∧ G' kb = none ∧ dv'.ownBlock ≠ some kb := by
  obtain ⟨X, hT, hX⟩ := h.turn
  refine ⟨hT.block kb hk (fun hm => ?_), Nat.lt_of_lt_of_le hk h.size, ?_, fun e => ?_⟩
  · rcases hX kb hm with e | e | e | e
    · exact h1 e
    · exact h2 e
    · exact e h3
    · exact h4 e
  · cases hg : G' kb with
    | none => rfl
    | some Q =>
      rcases h.newG kb (by rw [hg]; simp) with e | e
      · exact absurd h3 e
      · omega
  · rcases h.newD kb e with e | e
    · exact h4 e
    · omega

/-- The pages, where a branch's node was edited. -/
theorem edit_pages {pg y yr ys : Nat} {A C Z M N Xr Xs : List Nat} (h1 : (M ++ Xr).Perm (C ++ List.replicate yr 0)) (h2 : (N ++ Xs).Perm (A ++ (M ++ Z) ++ List.replicate ys 0)) (hy : y = yr + ys) : (N ++ ([pg] ++ (Xr ++ Xs))).Perm (pg :: (A ++ (C ++ Z)) ++ List.replicate y 0) := by
  subst hy
  rw [show List.replicate (yr + ys) 0 = List.replicate yr 0 ++ List.replicate ys 0 from List.replicate_append_replicate.symm]
  rw [List.perm_iff_count] at *
  intro x
  have e1 := h1 x
  have e2 := h2 x
  simp only [List.count_append, List.count_cons, List.count_nil] at *
  omega

end Go.Proofs.YthgpjkcgccdldaaGreatDoor

namespace Go.Proofs.YthgpjkcgccdldaaGreatDoor
open Go.RowKit Go.Maps

/-- A branch that was taken, with the node that was edited below it. -/
theorem sin_mid {w2 w3 : World} {O : Nat → Prop} {t p b m sm rb : Nat} {s : St} {q q2 : Pg} {Dn S1 S2 : Stt} {D : Dk} {G1 G2 : Gh} {Rw1 Rw2 : Nat → Prop} {ds1 ds2 : List Nat} {hh b0 off : Nat} {ks : List (ByteArray × Nat)} {bl : List (En (hh + 1))} {nd : Nd} {T : TypeId} {v : Value} {n : List (En hh)} (hTD : TD w2 O t p b m sm rb s q Dn S1 D G1 Rw1 ds1) (hK : KidsAt w2 (some ⟨b0, off, none⟩) ks) (hr : Rw1 b0) (hb : Both (KidIs G1 (Means G1 D hh)) ks bl) (hTD3 : TD w3 O t p b m sm rb s q2 Dn S2 D G2 Rw2 ds2) (hGr : Grown D G1 G2) (hGo : TGo t p w2 w3 G1 G2 Rw1 Rw2 S1.dropped S2.dropped) (hv : NdV w3 nd T v) (hn : NodeIs G2 D hh nd n) (hrow : ∀ x, rowOf v x → w2.heap.size ≤ x ∧ x < w3.heap.size ∧ Able O t p b m sm rb G2 Rw2 S2.dropped x) : SIn w3 O t p b m sm rb s q2 Dn S2 D G2 Rw2 ds2 hh b0 off ks bl nd T v n := by
  obtain ⟨T0, h0⟩ := SIn.start hTD hK hr hb
  exact (h0.go hTD3 hGr hGo).put hv hn fun x hx => ⟨(hrow x hx).2.1, (hrow x hx).2.2⟩

theorem eout_branch {w w2 w3 w4 : World} {O : Nat → Prop} {t p b m sm rb : Nat} {s : St} {q : Pg} {Dn S S1 S2 : Stt} {D : Dk} {G G1 G2 : Gh} {Rw Rw1 Rw2 : Nat → Prop} {ds ds1 ds2 Xr : List Nat} {pg yr hh : Nat} {key lo : ByteArray} {hi : Option ByteArray} {want : Option ByteArray} {fK : List Kv → List Kv} {l a z : List (En (hh + 1))} {c : En (hh + 1)} {n : List (En hh)} {r2 : Bool} {v v4 : Value}
    (hE : EdK key want fK) (hw : WayIn key lo hi l) (hs : Spot hi l a c z key) (hGr1 : Grown D G G1) (hGo1 : TGo t p w w2 G G1 Rw Rw1 S.dropped S1.dropped) (hM1 : Mvd [pg] 0 S S1 ds ds1)
    (hMd : Made c.key (topK hi z) n) (hfl : flatN n = fK (flatN (kidsOf c))) (hn1 : 1 ≤ hh → 1 ≤ n.length) (hGr2 : Grown D G1 G2) (hGo2 : TGo t p w2 w3 G1 G2 Rw1 Rw2 S1.dropped S2.dropped) (hM2 : Mvd Xr yr S1 S2 ds1 ds2) (hp2 : (pagesN n ++ Xr).Perm (pageOf c :: pagesN (kidsOf c) ++ List.replicate yr 0)) (hXr : Xr.length ≤ 2 * hh + 1) (hyr : yr ≤ 2 * hh) (hrow : ∀ x, rowOf v x → w2.heap.size ≤ x)
    (hSO : SOut w3 w4 O t p b m sm rb s { q with rd := r2 } Dn S2 D G2 Rw2 ds2 hh a z c n v v4) : EOut w w4 O t p b m sm rb s q Dn S D G Rw ds pg fK lo hi l (.iface 170 v4) := by
  obtain ⟨G4, Rw0, Rw4, r4, S4, ds4, ks', g, cap, Xs, ys, rfl, hg, hc1, hc2, hK4, hB4, hTD4, hGr4, hR0, hR0', hGo4, hM4, hp4, hAb, hnR, hgl, hXs, hys⟩ := hSO.ex
  have hbr : Branch lo hi l := ⟨hw.starts, hw.ord, hw.full, hw.size, hw.some (by omega)⟩
  obtain ⟨k1, k2, k3⟩ := made_branch hbr hs hMd (by
    rcases Nat.eq_zero_or_pos hh with h0 | h0
    · exact .inl h0
    · exact .inr (hn1 h0))
  obtain ⟨e1, e2, e3⟩ := hs.sides hw.ord
  have hs1 := hGo1.size
  have hs2 := hGo2.size
  have hG12 := hGo1.trans hGo2
  have hG3 := (hG12.wide hR0 fun x hx => by
    rcases hR0' x hx with h1 | h1 | h1
    · exact .inl h1
    · exact .inr (Nat.le_trans hs1 (hrow x h1))
    · exact .inr (by omega)).trans hGo4
  have hlen : ks'.length = (settleN a c.key n z).length := hB4.length
  have hpl : pagesN l = pagesN a ++ ((pageOf c :: pagesN (kidsOf c)) ++ pagesN z) := by
    rw [hs.eq, pagesN_append]
    congr 1
  refine ⟨settleN a c.key n z, _, _, .inr ks', G4, Rw4, r4, S4, ds4, [pg] ++ (Xr ++ Xs), yr + ys, rfl, k1, ?_, fun _ => k2, ⟨rfl, some ⟨g, 0, none⟩, cap, rfl, hK4, by simp, hc1, hc2⟩, ⟨ks', rfl, hB4⟩, hTD4, (hGr1.trans hGr2).trans hGr4, hG3, ?_, ?_, ?_, by omega, fun x hx => ?_⟩
  · rw [k3, hfl, e1, hE.mid _ _ _ e2 e3]
  · have := hM1.trans (hM2.trans hM4)
    rw [Nat.zero_add] at this
    exact this
  · rw [hpl]
    exact edit_pages hp2 hp4 rfl
  · simp only [List.length_append, List.length_cons, List.length_nil]
    omega
  · obtain ⟨ad, c', cc, e, rfl⟩ := hx
    injection e with e
    injection e with e
    subst e
    exact ⟨by show w.heap.size ≤ g; omega, hgl, hAb⟩

theorem pages_zero (l : List (En 0)) : pagesN l = [] := by
  unfold pagesN
  rw [List.flatMap_eq_nil_iff]
  exact fun _ _ => rfl
theorem eout_leaf {w w1 w2 : World} {O : Nat → Prop} {t p b m sm rb : Nat} {s : St} {q : Pg} {Dn S S1 : Stt} {D : Dk} {G G1 : Gh} {Rw Rw1 : Nat → Prop} {ds ds1 : List Nat} {pg : Nat} {key lo : ByteArray} {hi : Option ByteArray} {want : Option ByteArray} {fK : List Kv → List Kv} {l : List (En 0)} {r1 : Bool} {g : Option Addr} {c' : Nat}
    (hE : EdK key want fK) (hw : WayIn key lo hi l) (hget : getK (flatN l) key = want) (hTD : TD w1 O t p b m sm rb s { q with rd := r1 } Dn S1 D G1 Rw1 ds1) (hGr1 : Grown D G G1) (hGo1 : TGo t p w w1 G G1 Rw Rw1 S.dropped S1.dropped) (hM1 : Mvd [pg] 0 S S1 ds ds1)
    (hK : KVsAt w2 g (fK l)) (hz : g = none → c' = 0) (hc : (fK l).length ≤ c' ∧ c' ≤ 9223372036854775807) (hT : Turn [] w1 w2) (hg : ∀ ad, g = some ad → w1.heap.size ≤ ad.block ∧ ad.block < w2.heap.size) : EOut w w2 O t p b m sm rb s q Dn S D G Rw ds pg fK lo hi l (.iface 137 (.slice g (fK l).length c')) := by
  have hs1 := hGo1.size
  have hfl : flatN l = l := flatN_zero l
  rw [hfl] at hget
  refine ⟨fK l, _, _, .inl (fK l), G1, Rw1, r1, S1, ds1, [pg], 0, rfl, hE.made lo hi l hw.starts hw.ord hw.full hw.size hw.low hw.high hget, ?_, fun h => absurd h (by omega), ⟨rfl, g, c', rfl, hK, hz, hc.1, hc.2⟩, rfl, hTD.read (hTD.tm.quiet hT) ((TStep.refl p w1 G1 Rw1).quiet hT), hGr1, hGo1.quiet hT, hM1, ?_, by simp, by omega, fun x hx => ?_⟩
  · exact (flatN_zero (fK l)).trans (congrArg fK hfl.symm)
  · have h1 : pagesN (h := 0) (fK l) ++ [pg] = [pg] := congrArg (· ++ [pg]) (pages_zero (fK l))
    have h2 : pg :: pagesN l ++ List.replicate 0 0 = [pg] := congrArg (fun x => pg :: x ++ List.replicate 0 0) (pages_zero l)
    exact .of_eq (h1.trans h2.symm)
  · obtain ⟨ad, c2, cc, e, rfl⟩ := hx
    injection e with e
    obtain ⟨h1, h2⟩ := hg ad e
    exact ⟨by omega, h2, hTD.able h1⟩

end Go.Proofs.YthgpjkcgccdldaaGreatDoor

namespace Go.Proofs.YthgpjkcgccdldaaGreatDoor
open Go.RowKit Go.Maps

/-- What a closure does to a leaf. -/
def LeafFn (w0 : World) (cf kb : Nat) (key : ByteArray) (want : Option ByteArray) (fK : List Kv → List Kv) : Prop :=
  ∀ w1 : World, w1.heap[kb]? = w0.heap[kb]? → ∀ (b off c : Nat) (L : List (ByteArray × ByteArray)), KVsAt w1 (some ⟨b, off, none⟩) L → (L.length ≤ c ∧ c ≤ 9223372036854775807) → L.length ≤ 300 → Rises (keysOf L) → getK L key = want →
    Calls Tryz.prog cf #[.slice (some ⟨b, off, none⟩) L.length c, .pointer (some ⟨kb, 0, none⟩)] w1 fun e w2 => ∃ g c', e = .returned (.slice g (fK L).length c') ∧ KVsAt w2 g (fK L) ∧ (g = none → c' = 0) ∧ ((fK L).length ≤ c' ∧ c' ≤ 9223372036854775807) ∧ Turn [] w1 w2 ∧ ∀ ad, g = some ad → w1.heap.size ≤ ad.block ∧ ad.block < w2.heap.size

set_option maxRecDepth 100000 in
set_option maxHeartbeats 6400000 in
theorem tm_edited {w0 : World} {cf kb : Nat} {key : ByteArray} {want : Option ByteArray} {fK : List Kv → List Kv} (hE : EdK key want fK) (hC : LeafFn w0 cf kb key want fK) {O : Nat → Prop} {t p b m sm rb : Nat} {s : St} {Dn : Stt} {D : Dk} (hcf : cf = 68 ∨ cf = 70) (hkt : kb ≠ t ∧ kb ≠ p) : ∀ (hh : Nat) (w : World) (q : Pg) (S : Stt) (G : Gh) (Rw : Nat → Prop) (ds : List Nat) (a : Nat) (l : List (En hh)) (P : Pl) (lo : ByteArray) (hi : Option ByteArray), w.heap[kb]? = w0.heap[kb]? → kb < w.heap.size → G kb = none → S.dropped.ownBlock ≠ some kb → TD w O t p b m sm rb s q Dn S D G Rw ds → Means G D hh a l → G a = some P → WayIn key lo hi l → getK (flatN l) key = want → ds.length + 2 * hh + 2 ≤ 40000 → S.fresh + 2 * hh + 2 ≤ 40000 → (P.pg :: pagesN l).count 0 ≤ S.fresh →
    Calls Tryz.prog 96 #[.pointer (some ⟨t, 0, none⟩), .pointer (some ⟨a, 0, none⟩), .string key, .func (.func cf) #[] #[.pointer (some ⟨kb, 0, none⟩)]] w fun e w' => ∃ v, e = .returned v ∧ EOut w w' O t p b m sm rb s q Dn S D G Rw ds P.pg fK lo hi l v := by
  intro hh
  have hta := ta_ll
  have htb := ta_lb
  have htc := ta_bb
  have htd := ta_bl
  have HE := hide hE
  have HC := hide hC
  clear hE hC
  induction hh with
  | zero =>
    intro w q S G Rw ds a l P lo hi hk0 hkl hkG hkD hTD hm hP hw hget hds hfr hcnt
    have HT := hide (tm_take hTD hm hP (by omega) ⟨by omega, fun e => by rw [e] at hcnt; simp at hcnt; omega⟩)
    have HG := hide (show WayIn key lo hi l ∧ getK (flatN l) key = want from ⟨hw, hget⟩)
    have HK := hide (show kb < w.heap.size ∧ G kb = none ∧ S.dropped.ownBlock ≠ some kb ∧ w.heap[kb]? = w0.heap[kb]? from ⟨hkl, hkG, hkD, hk0⟩)
    clear hk0 hkl hkG hkD hTD hm hP hw hget hds hfr hcnt
    rcases hcf with rfl | rfl
    all_goals
      go_enter Tryz.func96, Tryz.ntmps96
      go_wp2_with fail
      refine HT.out.mono ?_
      rintro e w1 ⟨T, v, nd, G1, Rw1, r1, S1, ds1, rfl, hN1, hNode1, hTD1, hGr1, hGo1, hTk⟩
      obtain rfl : nd = .inl l := hNode1
      obtain ⟨_, rfl, bb, off, c, rfl, hKV, hc, hr1⟩ := hN1
      obtain ⟨g1, g2, g3, g4⟩ := hGo1.keep HK.out.1 hkt.1 hkt.2 HK.out.2.1 HK.out.2.2.1
      have h2 := len_size l
      have h3 := HG.out.1.size
      have hget0 := HG.out.2
      rw [flatN_zero] at hget0
      have HL := hide (HC.out w1 (g1.trans HK.out.2.2.2) bb off c l hKV hc (show List.length (α := En 0) l ≤ 300 by omega) (ord_rises HG.out.1.ord) hget0)
      have HAll := hide (show TD w1 O t p b m sm rb s { q with rd := r1 } Dn S1 D G1 Rw1 ds1 ∧ Grown D G G1 ∧ TGo t p w w1 G G1 Rw Rw1 S.dropped S1.dropped ∧ Mvd [P.pg] 0 S S1 ds ds1 from ⟨hTD1, hGr1, hGo1, hTk.mvd⟩)
      clear hKV hc hr1 g1 g2 g3 g4 h2 h3 hget0 hTD1 hGr1 hGo1 hTk HT
      go_wp2_with fail
      refine HL.out.mono ?_
      rintro e w2 ⟨g, c', rfl, hK2, hz2, hc2, hT2, hg2⟩
      have HF := hide (eout_leaf HE.out HG.out.1 HG.out.2 HAll.out.1 HAll.out.2.1 HAll.out.2.2.1 HAll.out.2.2.2 hK2 hz2 hc2 hT2 hg2)
      clear hK2 hz2 hc2 hT2 hg2
      go_wp2_with fail
      go_ret
      exact ⟨_, rfl, HF.out⟩
  | succ hh ih =>
    intro w q S G Rw ds a l P lo hi hk0 hkl hkG hkD hTD hm hP hw hget hds hfr hcnt
    have HT := hide (tm_take hTD hm hP (by omega) ⟨by omega, fun e => by rw [e] at hcnt; simp at hcnt; omega⟩)
    have HIh := hide ih
    have HG := hide (show WayIn key lo hi l ∧ getK (flatN l) key = want ∧ (P.pg :: pagesN l).count 0 ≤ S.fresh from ⟨hw, hget, hcnt⟩)
    have HK := hide (show kb < w.heap.size ∧ G kb = none ∧ S.dropped.ownBlock ≠ some kb ∧ w.heap[kb]? = w0.heap[kb]? from ⟨hkl, hkG, hkD, hk0⟩)
    clear hk0 hkl hkG hkD hTD hm hP hw hget hcnt ih
    go_enter Tryz.func96, Tryz.ntmps96
    go_wp2_with fail
    refine HT.out.mono ?_
    rintro e w1 ⟨T, v, nd, G1, Rw1, r1, S1, ds1, rfl, hN1, hNode1, hTD1, hGr1, hGo1, hTk⟩
    obtain ⟨ks, rfl, hb⟩ := hNode1
    obtain ⟨_, rfl, bb, off, cap, rfl, hK, hcap, hr1, _⟩ := hN1
    have hlen := hb.length
    have h2 := len_size l
    have h3 := HG.out.1.size
    have h4 := HG.out.1.some (by omega)
    have HF := hide (bfind_any (some ⟨bb, off, none⟩) cap ks key (by rw [both_lows hb]; exact ord_rises HG.out.1.ord) (by omega) (by omega) w1 hK)
    have hkn : ks.length ≤ 300 := by omega
    have HA := hide (show TD w1 O t p b m sm rb s { q with rd := r1 } Dn S1 D G1 Rw1 ds1 ∧ Grown D G G1 ∧ TGo t p w w1 G G1 Rw Rw1 S.dropped S1.dropped ∧ Mvd [P.pg] 0 S S1 ds ds1 ∧ KidsAt w1 (some ⟨bb, off, none⟩) ks ∧ Rw1 bb ∧ Both (KidIs G1 (Means G1 D hh)) ks l from ⟨hTD1, hGr1, hGo1, hTk.mvd, hK, hr1, hb⟩)
    have HLen := hide (show ks.length = l.length ∧ 2 ≤ l.length ∧ ks.length ≤ cap ∧ cap ≤ 9223372036854775807 ∧ l.length ≤ 300 from ⟨hlen, h4, hcap.1, hcap.2, by omega⟩)
    clear hTD1 hGr1 hGo1 hTk hK hr1 hb hlen hcap h2 h3 h4 HT
    go_wp2_with fail
    refine HF.out.mono ?_
    rintro e w2 ⟨i, rfl, hik, hT2⟩
    have hiks := hik.1
    have hil : i < l.length := by rw [← HLen.out.1]; exact hiks
    obtain ⟨hTD1, hGr1, hGo1, hM1, hK1, hr1, hb1⟩ := HA.out
    have hsp := spot_of (both_lows hb1) HG.out.1.starts HG.out.1.low HG.out.1.high hik hil
    have hTD2 := hTD1.read (hTD1.tm.quiet hT2) ((TStep.refl p w1 G1 Rw1).quiet hT2)
    have hGo2 := hGo1.quiet hT2
    have hK2 := hK1.turn0 hT2
    obtain ⟨b', off', e', _, hcell⟩ := hK2.at hiks
    injection e' with e'
    injection e' with e1 e2
    subst e1 e2
    obtain ⟨hq1, ⟨Pc, hPc, hpg⟩, hMc⟩ := hb1.get i hiks hil
    obtain ⟨g1, g2, g3, g4⟩ := hGo2.keep HK.out.1 hkt.1 hkt.2 HK.out.2.1 HK.out.2.2.1
    have hfr1 := hM1.fresh
    have hpl : (pagesN l).count 0 = (pagesN (l.take i)).count 0 + ((pageOf l[i] :: pagesN (kidsOf l[i])).count 0 + (pagesN (l.drop (i + 1))).count 0) := by
      have e : l = l.take i ++ ([l[i]] ++ l.drop (i + 1)) := by
        simp
      have e2 := congrArg pagesN e
      rw [pagesN_append, pagesN_append, pages_one] at e2
      rw [e2, List.count_append, List.count_append]
    have hct := HG.out.2.2
    rw [List.count_cons] at hct
    have hds1 : ds1.length ≤ ds.length + 1 := by
      rw [hM1.drop, List.length_append]
      have := List.length_filter_le (fun x => decide (x ≠ 0)) [P.pg]
      simp at this
      simp
      omega
    have hcnt0 : ([P.pg] : List Nat).count 0 = if P.pg == 0 then 1 else 0 := by rw [List.count_cons]; simp
    have HR := hide (HIh.out w2 { q with rd := r1 } S1 G1 Rw1 ds1 ks[i].2 (kidsOf l[i]) Pc l[i].key (topK hi (l.drop (i + 1))) (g1.trans HK.out.2.2.2) g2 g3 g4 hTD2 hMc hPc (HG.out.1.down hsp) ((HG.out.1.sub.down hb1 hik hil).2.trans HG.out.2.1) (by omega) (by rw [hcnt0] at hfr1; omega) (by rw [hpg]; rw [hcnt0] at hfr1; omega))
    have HB := hide (show TD w2 O t p b m sm rb s { q with rd := r1 } Dn S1 D G1 Rw1 ds1 ∧ KidsAt w2 (some ⟨bb, off, none⟩) ks ∧ TGo t p w w2 G G1 Rw Rw1 S.dropped S1.dropped ∧ Spot hi l (l.take i) l[i] (l.drop (i + 1)) key from ⟨hTD2, hK2, hGo2, hsp⟩)
    have HCn := hide (show (pagesN (l.take i)).count 0 + ((pageOf l[i] :: pagesN (kidsOf l[i])).count 0 + (pagesN (l.drop (i + 1))).count 0) ≤ S1.fresh ∧ S1.fresh ≤ S.fresh ∧ ds1.length ≤ ds.length + 1 ∧ Pc.pg = pageOf l[i] from ⟨by rw [hcnt0] at hfr1; omega, by omega, hds1, hpg⟩)
    obtain ⟨hti⟩ : (l.take i).length = i ∧ True := ⟨by rw [List.length_take]; omega, trivial⟩
    have HTi := hide hti
    clear hTD1 hGr1 hGo1 hM1 hK1 hr1 hb1 hsp hTD2 hGo2 hK2 hq1 hMc hpg hPc g1 g2 g3 g4 hfr1 hpl hct hds1 hcnt0 hik hT2 HF hti HIh
    obtain ⟨c, hc⟩ : ∃ c, c = l[i] := ⟨_, rfl⟩
    rw [← hc] at HR HB HCn
    clear hc
    obtain ⟨A, hA⟩ : ∃ A, A = l.take i := ⟨_, rfl⟩
    obtain ⟨Z, hZ⟩ : ∃ Z, Z = l.drop (i + 1) := ⟨_, rfl⟩
    rw [← hZ] at HR
    rw [← hA, ← hZ] at HB HCn
    rw [← hA] at HTi
    clear hA hZ
    have hiN : (i : Int) < (ks.length : Int) := by omega
    go_wp2_with fail
    refine HR.out.mono ?_
    rintro e w3 ⟨v3, rfl, hO3⟩
    obtain ⟨n3, T3, v3', nd3, G3, Rw3, r3, S3, ds3, Xr, yr, rfl, hMd, hfl, hn1, hv3, hi3, hTD3, hGr3, hGo3, hM3, hp3, hXr, hyr, hrow3⟩ := hO3.ex
    obtain ⟨hTD1, hGr1, hGo1, hM1, hK1, hr1, hb1⟩ := HA.out
    have hSI := sin_mid HB.out.1 HB.out.2.1 hr1 hb1 hTD3 hGr3 hGo3 hv3 hi3 hrow3
    have hfr3 := hM3.fresh
    rw [HCn.out.2.2.2] at hp3
    have hcp := List.perm_iff_count.1 hp3 0
    simp only [List.count_append, List.count_replicate_self] at hcp
    have hds3 : ds3.length ≤ ds1.length + Xr.length := by
      rw [hM3.drop, List.length_append]
      have := List.length_filter_le (fun x => decide (x ≠ 0)) Xr
      omega
    have hSet := tm_settled hSI HB.out.2.2.2.eq HG.out.1.full hMd.full (by have := hMd.long; omega) HLen.out.2.1 HLen.out.2.2.2.2 ⟨HLen.out.2.2.1, HLen.out.2.2.2.1⟩ (by have := HCn.out.2.2.1; omega) ⟨by have := HCn.out.2.1; omega, fun e he h0 => by
      have h1 := HCn.out.1
      have h2 : ∀ (x : List (En (hh + 1))), e ∈ x → 1 ≤ (pagesN x).count 0 := fun x hx => List.count_pos_iff.2 (by
        unfold pagesN
        exact List.mem_flatMap.2 ⟨e, hx, by
          have : e.pages = pageOf e :: pagesN (kidsOf e) := by
            have := pages_one e
            unfold pagesN at this
            rw [List.flatMap_cons, List.flatMap_nil, List.append_nil] at this
            exact this
          rw [this, h0]
          exact List.mem_cons_self ..⟩)
      rcases List.mem_append.1 he with he | he
      · have := h2 _ he
        omega
      · have := h2 _ he
        omega⟩
    rw [HTi.out] at hSet
    have HSet := hide hSet
    have HE3 := hide (fun (w4 : World) (v4 : Value) (hSO : SOut w3 w4 O t p b m sm rb s { q with rd := r3 } Dn S3 D G3 Rw3 ds3 hh A Z c n3 v3' v4) => eout_branch (q := q) (Dn := Dn) (r2 := r3) (w4 := w4) (v4 := v4) HE.out HG.out.1 HB.out.2.2.2 hGr1 HB.out.2.2.1 hM1 hMd hfl hn1 hGr3 hGo3 hM3 hp3 hXr hyr (fun x hx => (hrow3 x hx).1) hSO)
    clear hO3 hMd hfl hn1 hv3 hi3 hTD3 hGr3 hGo3 hM3 hp3 hXr hyr hrow3 hTD1 hGr1 hGo1 hM1 hK1 hr1 hb1 hSI hfr3 hcp hds3 hSet
    go_wp2_with fail
    refine HSet.out.mono ?_
    rintro e w4 ⟨v4, rfl, hSO⟩
    have HFin := hide (HE3.out w4 v4 hSO)
    clear hSO HE3
    go_wp2_with fail
    go_ret
    exact ⟨_, rfl, HFin.out⟩

end Go.Proofs.YthgpjkcgccdldaaGreatDoor

namespace Go.Proofs.YthgpjkcgccdldaaGreatDoor
open Go.RowKit Go.Maps

/-- A root in memory. -/
def RtAt (G : Gh) (D : Dk) : Option Nat → Root? → Prop
  | none, none => True
  | some a, some ⟨h, e⟩ => (∃ P, G a = some P ∧ P.pg = pageOf e) ∧ Means G D h a (kidsOf e)
  | _, _ => False

/-- What rootOf leaves. -/
structure RtOut (w w' : World) (O : Nat → Prop) (t p b m sm rb : Nat) (s : St) (q : Pg) (Dn S : Stt) (D : Dk) (G : Gh) (Rw : Nat → Prop) (ds : List Nat) {hh : Nat} (n : List (En hh)) (v e : Value) : Prop where
  ex : ∃ ro G' Rw0 Rw' y, e = rootV ro ∧ RtAt G' D ro (rootN n) ∧ TD w' O t p b m sm rb s q Dn { S with fresh := S.fresh + y } D G' Rw' ds ∧ Grown D G G' ∧ (∀ x, Rw x → Rw0 x) ∧ (∀ x, Rw0 x → Rw x ∨ rowOf v x) ∧ TGo t p w w' G G' Rw0 Rw' S.dropped S.dropped ∧ (pagesR (rootN n)).Perm (pagesN n ++ List.replicate y 0) ∧ y ≤ 3

theorem rt_none {w : World} {O : Nat → Prop} {t p b m sm rb : Nat} {s : St} {q : Pg} {Dn S : Stt} {D : Dk} {G : Gh} {Rw : Nat → Prop} {ds : List Nat} (h : TD w O t p b m sm rb s q Dn S D G Rw ds) (v : Value) : RtOut w w O t p b m sm rb s q Dn S D G Rw ds (hh := 0) [] v (rootV none) :=
  ⟨none, G, Rw, Rw, 0, rfl, trivial, h, Grown.refl _ _, fun _ h => h, fun _ h => .inl h, TGo.refl _ _ _ _ _ _, List.Perm.refl _, by omega⟩

theorem rt_one {w : World} {O : Nat → Prop} {t p b m sm rb : Nat} {s : St} {q : Pg} {Dn S : Stt} {D : Dk} {G : Gh} {Rw : Nat → Prop} {ds : List Nat} (h : TD w O t p b m sm rb s q Dn S D G Rw ds) {hh : Nat} {k : ByteArray × Nat} {e : En (hh + 1)} (hk : KidIs G (Means G D hh) k e) (v : Value) : RtOut w w O t p b m sm rb s q Dn S D G Rw ds [e] v (rootV (some k.2)) :=
  ⟨some k.2, G, Rw, Rw, 0, rfl, ⟨hk.2.1, hk.2.2⟩, h, Grown.refl _ _, fun _ h => h, fun _ h => .inl h, TGo.refl _ _ _ _ _ _, by
    show e.pages.Perm _
    unfold pagesN
    simp, by omega⟩

/-- One new place at the top. -/
theorem rt_new {w w' : World} {O : Nat → Prop} {t p b m sm rb : Nat} {s : St} {q : Pg} {Dn S : Stt} {D : Dk} {G G' : Gh} {Rw : Nat → Prop} {ds : List Nat} {hh bb a : Nat} {n : List (En hh)} {lo : ByteArray} {v : Value} (hr : rootN n = tops (placedN n ByteArray.empty)) (hz : sizeN n ≤ 495) (hk : KidIs G' (Means G' D hh) (lo, a) (mkE ByteArray.empty 0 n)) (hTD : TD w' O t p b m sm rb s q Dn { S with fresh := S.fresh + 1 } D G' (fun y => Rw y ∨ y = bb) ds) (hGr : Grown D G G') (hT : Turn [t] w w') (hnew : ∀ x, G' x ≠ none → G x ≠ none ∨ w.heap.size ≤ x) (hbb : rowOf v bb) : RtOut w w' O t p b m sm rb s q Dn S D G Rw ds n v (rootV (some a)) := by
  have e : rootN n = some ⟨hh, mkE ByteArray.empty 0 n⟩ := by
    rw [hr, placedN_one hz]
    rfl
  refine ⟨some a, G', fun y => Rw y ∨ y = bb, fun y => Rw y ∨ y = bb, 1, rfl, ?_, hTD, hGr, fun _ h => .inl h, fun x hx => hx.elim .inl (fun (e : x = bb) => .inr (e ▸ hbb)), ⟨⟨[t], hT, fun x hx => .inl (List.mem_singleton.1 hx)⟩, hnew, fun _ h => .inl h, fun _ h => h, fun _ h => .inl h⟩, ?_, by omega⟩
  · rw [e]
    exact ⟨hk.2.1, hk.2.2⟩
  · rw [e]
    show (0 :: pagesN n).Perm (pagesN n ++ [0])
    exact List.perm_append_comm (l₁ := [0])

/-- A new branch of two at the top. -/
theorem rt_two {w w3 w4 : World} {O : Nat → Prop} {t p b m sm rb : Nat} {s : St} {q : Pg} {Dn S : Stt} {D : Dk} {G G3 : Gh} {Rw : Nat → Prop} {ds : List Nat} {hh bb a g : Nat} {n : List (En hh)} {ks : List (ByteArray × Nat)} {v : Value} (hr : rootN n = tops (placedN n ByteArray.empty)) (hz : ¬ sizeN n ≤ 495)
    (hg : w.heap.size ≤ g) (hK : KidsAt w3 (some ⟨g, 0, none⟩) ks) (hB : Both (KidIs G3 (Means G3 D hh)) ks (placedN n ByteArray.empty)) (hTD : TD w3 O t p b m sm rb s q Dn { S with fresh := S.fresh + 2 } D G3 (fun y => Rw y ∨ y = bb) ds) (hGr : Grown D G G3) (hT : Turn [t] w w3) (hnew : ∀ x, G3 x ≠ none → G x ≠ none ∨ w.heap.size ≤ x) (hgn : G3 g = none) (hgr : ¬ (Rw g ∨ g = bb)) (hgd : S.dropped.ownBlock ≠ some g) (hgo : g ∉ [1, t, p, b, m, sm, rb] ∧ ¬ O g) (hlv : ∀ k ∈ ks, ∃ Q, G3 k.2 = some Q ∧ Q.lvl = hh + 1) (hbb : rowOf v bb)
    (ha : w3.heap.size ≤ a) (hP : PlaceAt w4 a 0 (hh + 2) 0 (.iface 170 (.slice (some ⟨g, 0, none⟩) ks.length ks.length))) (hTr : TreeAt w4 t p Dn { S with fresh := S.fresh + 3 }) (hT4 : Turn [t] w3 w4) : RtOut w w4 O t p b m sm rb s q Dn S D G Rw ds n v (rootV (some a)) := by
  have hlen : ks.length = 2 := by
    rw [hB.length, placedN_two hz rfl]
    rfl
  have hgl : g < w3.heap.size := hK.lt ⟨g, 0, none⟩ (by intro e; rw [e] at hlen; cases hlen) rfl
  have hgt : g ≠ t := fun e => hgo.1 (by simp [e])
  have hKd : KidsAt w4 (some ⟨g, 0, none⟩) ks := hK.turn hT4 fun x _ hx => by
    obtain rfl := Option.some.inj hx
    simp
    exact hgt
  obtain ⟨G4, h1, h2, h3, h4, h5⟩ := tm_places hTD (S' := { S with fresh := S.fresh + 3 }) rfl hTr hT4 hgl (.inr ⟨hgo.1, hgo.2, hgn, hgd⟩) [(a, .inr ks)] (hh + 2) (fun x hx => by rw [List.mem_singleton.1 hx]; exact ha) (by simp) (fun x hx => by
    rw [List.mem_singleton.1 hx]
    refine ⟨_, _, hP, fun G' hG' => ⟨by omega, rfl, g, 0, ks.length, rfl, hKd, ⟨Nat.le_refl _, by omega⟩, .inr rfl, fun k hk => ?_⟩⟩
    obtain ⟨Q, hQ, hl⟩ := hlv k hk
    obtain ⟨Q', hQ', hl'⟩ := hG' _ Q hQ
    exact ⟨Q', hQ', by omega⟩)
  have hGa := h1 (a, .inr ks) (by simp)
  have hs := hT.size
  have e : rootN n = some ⟨hh + 1, mkE ByteArray.empty 0 (placedN n ByteArray.empty)⟩ := by
    rw [hr, placedN_two hz rfl]
    rfl
  have hB4 : Both (KidIs G4 (Means G4 D hh)) ks (placedN n ByteArray.empty) := hB.mono fun k _ e _ hk => by
    obtain ⟨k1, ⟨Q, k2, k3⟩, k4⟩ := hk
    obtain ⟨Q', q1, q2, _⟩ := h4.at_ _ Q k2
    exact ⟨k1, ⟨Q', q1, q2.trans k3⟩, k4.grown h4⟩
  have hcomp : TGo t p w w4 G G4 (fun y => Rw y ∨ y = bb) (fun y => (Rw y ∨ y = bb) ∨ y = g) S.dropped S.dropped := by
    refine ⟨⟨[t], hT.trans hT4, fun x hx => .inl (List.mem_singleton.1 hx)⟩, fun x hx => ?_, fun x hx => ?_, fun x hx => .inl hx, fun x hx => .inl hx⟩
    · rcases h3 x hx with hx | ⟨y, hy, rfl⟩
      · exact hnew x hx
      · rw [List.mem_singleton.1 hy]
        exact .inr (by show w.heap.size ≤ a; omega)
    · rcases hx with hx | rfl
      · exact .inl hx
      · exact .inr hg
  refine ⟨some a, G4, fun y => Rw y ∨ y = bb, _, 3, rfl, ?_, h5, hGr.trans h4, fun _ h => .inl h, fun x hx => hx.elim .inl (fun (e : x = bb) => .inr (e ▸ hbb)), hcomp, ?_, by omega⟩
  · rw [e]
    exact ⟨⟨_, hGa, rfl⟩, Means.of _ hGa rfl (fun e => absurd rfl e) (fun e => by cases e) (fun nd' e => by
      obtain rfl := Option.some.inj e
      exact ⟨ks, rfl, hB4⟩)⟩
  · rw [e]
    show (0 :: pagesN (placedN n ByteArray.empty)).Perm _
    have h6 := placed_pages n ByteArray.empty
    rw [placedN_two hz rfl] at h6 ⊢
    refine (List.Perm.cons 0 h6).trans ?_
    generalize pagesN n = A
    show ([0] ++ (A ++ [0, 0])).Perm (A ++ [0, 0, 0])
    have := List.perm_append_comm (l₁ := [0]) (l₂ := A ++ [0, 0])
    simpa using this

end Go.Proofs.YthgpjkcgccdldaaGreatDoor

namespace Go.Proofs.YthgpjkcgccdldaaGreatDoor
open Go.RowKit Go.Maps

theorem td_placed {w : World} {O : Nat → Prop} {t p b m sm rb : Nat} {s : St} {q : Pg} {Dn S : Stt} {D : Dk} {G : Gh} {Rw : Nat → Prop} {ds : List Nat} (h : TD w O t p b m sm rb s q Dn S D G Rw ds) {hh : Nat} {nd : Nd} {T : TypeId} {v : Value} {n : List (En hh)} (hv : NdV w nd T v) (hn : NodeIs G D hh nd n) (hrow : ∀ x, rowOf v x → Able O t p b m sm rb G Rw S.dropped x) (hfe : ∀ e ∈ n, FullE e) (hz : sizeN n ≤ 1900) (h0 : 0 < n.length) (hfr : S.fresh ≤ 100000) (low : ByteArray) :
    Calls Tryz.prog 129 #[.pointer (some ⟨t, 0, none⟩), .iface T v, .int .i64 ((hh + 1 : Nat) : Int), .string low] w fun e w' => ∃ v' bb, e = .returned v' ∧ rowOf v bb ∧ NewPl w O t p b m sm rb s q Dn S D G Rw ds bb hh (placedN n low) w' v' := by
  obtain ⟨bb, off2, m2, c2, e, hin⟩ := hv.in_ (by rw [← nd_some hn] at h0; cases nd <;> exact h0)
  have hb : rowOf v bb := ⟨_, _, _, e, rfl⟩
  refine (tm_placed h hin hn hfe hz (hrow bb hb) hfr low).mono ?_
  rintro e w' ⟨v', rfl, hN⟩
  exact ⟨v', bb, rfl, hb, hN⟩

/-- placed at the top, where there is one place. -/
theorem top_one {w : World} {O : Nat → Prop} {t p b m sm rb : Nat} {s : St} {q : Pg} {Dn S : Stt} {D : Dk} {G : Gh} {Rw : Nat → Prop} {ds : List Nat} (h : TD w O t p b m sm rb s q Dn S D G Rw ds) {hh : Nat} {nd : Nd} {T : TypeId} {v : Value} {n : List (En hh)} (hv : NdV w nd T v) (hn : NodeIs G D hh nd n) (hrow : ∀ x, rowOf v x → Able O t p b m sm rb G Rw S.dropped x) (hfe : ∀ e ∈ n, FullE e) (hz : sizeN n ≤ 495) (h0 : 0 < n.length) (hfr : S.fresh ≤ 100000) (hr : rootN n = tops (placedN n ByteArray.empty)) :
    Calls Tryz.prog 129 #[.pointer (some ⟨t, 0, none⟩), .iface T v, .int .i64 ((hh + 1 : Nat) : Int), .string ⟨#[]⟩] w fun e w' => ∃ g a, e = .returned (.slice (some ⟨g, 0, none⟩) 1 1) ∧ w'.cell? ⟨g, 1, none⟩ = some (.pointer (some ⟨a, 0, none⟩)) ∧ RtOut w w' O t p b m sm rb s q Dn S D G Rw ds n v (rootV (some a)) := by
  rw [show (⟨#[]⟩ : ByteArray) = ByteArray.empty from rfl]
  refine (td_placed h hv hn hrow hfe (by omega) h0 hfr ByteArray.empty).mono ?_
  rintro e w' ⟨v', bb, rfl, hb, hN⟩
  obtain ⟨G', ks, g, rfl, hg, hK, hB, hTD, hGr, hT, hnew, _, _⟩ := hN.ex
  rw [placedN_one hz] at hB hTD
  obtain ⟨k, ks, rfl⟩ : ∃ k ks', ks = k :: ks' := by
    cases ks with
    | nil => exact hB.elim
    | cons k ks => exact ⟨k, ks, rfl⟩
  have hk := hB.1
  have hks : ks = [] := by
    have := hB.2.length
    exact List.length_eq_zero_iff.1 this
  subst hks
  obtain ⟨b', off', e', _, h1⟩ := hK.at (i := 0) (by simp)
  injection e' with e'
  injection e' with e1 e2
  subst e1 e2
  exact ⟨g, k.2, rfl, h1, rt_new hr hz (lo := k.1) hk hTD hGr hT hnew hb⟩

/-- placed at the top, where there are two. -/
theorem top_two {w : World} {O : Nat → Prop} {t p b m sm rb : Nat} {s : St} {q : Pg} {Dn S : Stt} {D : Dk} {G : Gh} {Rw : Nat → Prop} {ds : List Nat} (h : TD w O t p b m sm rb s q Dn S D G Rw ds) {hh : Nat} {nd : Nd} {T : TypeId} {v : Value} {n : List (En hh)} (hv : NdV w nd T v) (hn : NodeIs G D hh nd n) (hrow : ∀ x, rowOf v x → x < w.heap.size ∧ Able O t p b m sm rb G Rw S.dropped x) (hfe : ∀ e ∈ n, FullE e) (hz : ¬ sizeN n ≤ 495) (hz2 : sizeN n ≤ 1900) (h0 : 0 < n.length) (hfr : S.fresh ≤ 100000) (hr : rootN n = tops (placedN n ByteArray.empty)) :
    Calls Tryz.prog 129 #[.pointer (some ⟨t, 0, none⟩), .iface T v, .int .i64 ((hh + 1 : Nat) : Int), .string ⟨#[]⟩] w fun e w' => ∃ g, e = .returned (.slice (some ⟨g, 0, none⟩) 2 2) ∧ TreeAt w' t p Dn { S with fresh := S.fresh + 2 } ∧ ∀ w4 a, w'.heap.size ≤ a → PlaceAt w4 a 0 (hh + 2) 0 (.iface 170 (.slice (some ⟨g, 0, none⟩) 2 2)) → TreeAt w4 t p Dn { S with fresh := S.fresh + 3 } → Turn [t] w' w4 → RtOut w w4 O t p b m sm rb s q Dn S D G Rw ds n v (rootV (some a)) := by
  rw [show (⟨#[]⟩ : ByteArray) = ByteArray.empty from rfl]
  refine (td_placed h hv hn (fun x hx => (hrow x hx).2) hfe hz2 h0 hfr ByteArray.empty).mono ?_
  rintro e w' ⟨v', bb, rfl, hb, hN⟩
  obtain ⟨G', ks, g, rfl, hg, hK, hB, hTD, hGr, hT, hnew, hgn, hlv⟩ := hN.ex
  have hlen : (placedN n ByteArray.empty).length = 2 := by
    rw [placedN_two hz rfl]
    rfl
  have hl2 : ks.length = 2 := hB.length.trans hlen
  rw [hlen] at hTD
  refine ⟨g, by rw [hl2], hTD.tm.tr, fun w4 a ha hP hTr hT4 => ?_⟩
  refine rt_two hr hz hg hK hB hTD hGr hT hnew hgn (fun hx => ?_) (fun e => ?_) ⟨fun hm => ?_, fun ho => ?_⟩ hlv hb ha (by rw [hl2]; exact hP) hTr hT4
  · rcases hx with hx | rfl
    · have := h.tm.mem.rows g hx
      omega
    · have := (hrow _ hb).1
      omega
  · have := (h.drop.lt g e).2
    omega
  · have := h.tm.lts g hm
    omega
  · have := h.tm.ob g ho
    omega

set_option maxRecDepth 100000 in
set_option maxHeartbeats 3200000 in
theorem tm_rootOf {w : World} {O : Nat → Prop} {t p b m sm rb : Nat} {s : St} {q : Pg} {Dn S : Stt} {D : Dk} {G : Gh} {Rw : Nat → Prop} {ds : List Nat} (h : TD w O t p b m sm rb s q Dn S D G Rw ds) {hh : Nat} {nd : Nd} {T : TypeId} {v : Value} {n : List (En hh)} (hv : NdV w nd T v) (hn : NodeIs G D hh nd n) (hrow : ∀ x, rowOf v x → x < w.heap.size ∧ Able O t p b m sm rb G Rw S.dropped x) (hfe : ∀ e ∈ n, FullE e) (hz2 : sizeN n ≤ 1900) (h1 : 1 ≤ hh → 1 ≤ n.length) (hfr : S.fresh ≤ 100000) (hh2 : hh ≤ 1000) :
    Calls Tryz.prog 95 #[.pointer (some ⟨t, 0, none⟩), .iface T v, .int .i64 ((hh + 1 : Nat) : Int)] w fun e w' => ∃ v', e = .returned v' ∧ RtOut w w' O t p b m sm rb s q Dn S D G Rw ds n v v' := by
  have hta := ta_ll
  have htb := ta_lb
  have htc := ta_bb
  have htd := ta_bl
  by_cases hend : (∃ (e : hh = 0), n = []) ∨ 1 ≤ hh ∧ n.length = 1
  · rcases hend with ⟨e, hn0⟩ | ⟨e, hn1⟩
    · subst e hn0
      obtain rfl : nd = .inl [] := hn
      obtain ⟨rfl, a, c, rfl, _⟩ := hv
      have HO := hide (rt_none h (.slice a 0 c))
      clear h hrow hfe hz2 h1
      go_enter Tryz.func95, Tryz.ntmps95
      go_wp2_with fail
      go_ret
      exact ⟨_, rfl, HO.out⟩
    · cases hh with
      | zero => omega
      | succ hh =>
        obtain ⟨ks, rfl, hb⟩ := hn
        obtain ⟨e0, rfl⟩ : ∃ e0, n = [e0] := List.length_eq_one_iff.1 hn1
        obtain ⟨k, rfl⟩ : ∃ k, ks = [k] := List.length_eq_one_iff.1 (hb.length.trans rfl)
        obtain ⟨rfl, a, c, rfl, hK, _⟩ := hv
        obtain ⟨b', off', rfl, _, hc⟩ := hK.at (i := 0) (by simp)
        simp only [Nat.zero_mul, Nat.add_zero, List.getElem_cons_zero] at hc
        have HO := hide (rt_one h hb.1 (.slice (some ⟨b', off', none⟩) [k].length c))
        clear h hrow hfe hz2 h1 hb hK
        generalize k.2 = a at *
        go_enter Tryz.func95, Tryz.ntmps95
        go_wp2_with fail
        go_ret
        exact ⟨_, rfl, HO.out⟩
  · have h0 : 0 < n.length := by
      rcases Nat.eq_zero_or_pos hh with e | e
      · subst e
        cases n with
        | nil => exact absurd (.inl ⟨rfl, rfl⟩) hend
        | cons => simp
      · exact h1 e
    have hr : rootN n = tops (placedN n ByteArray.empty) := by
      cases hh with
      | zero =>
        cases n with
        | nil => simp at h0
        | cons => rfl
      | succ hh =>
        match n, h0, hend with
        | [e], _, he => exact absurd (.inr ⟨by omega, rfl⟩) he
        | _ :: _ :: _, _, _ => rfl
    have hN : ∃ a c, v = .slice a n.length c ∧ (T = 137 ∨ T = 170 ∧ n.length ≠ 1) := by
      cases hh with
      | zero =>
        obtain rfl : nd = .inl n := hn
        obtain ⟨rfl, a, c, rfl, _⟩ := hv
        exact ⟨a, c, rfl, .inl rfl⟩
      | succ hh =>
        obtain ⟨ks, rfl, hb⟩ := hn
        obtain ⟨rfl, a, c, rfl, _⟩ := hv
        exact ⟨a, c, by rw [hb.length], .inr ⟨rfl, fun e => hend (.inr ⟨by omega, e⟩)⟩⟩
    obtain ⟨a, c, rfl, hT⟩ := hN
    have hn1000 : n.length ≤ 1000 := by have := len_size n; omega
    obtain ⟨lv, hlv⟩ : ∃ lv, lv = hh + 1 := ⟨_, rfl⟩
    have hlv2 : lv ≤ 1001 := by omega
    by_cases hz : sizeN n ≤ 495
    · have HPl := hide (top_one h hv hn (fun x hx => (hrow x hx).2) hfe hz h0 hfr hr)
      rw [← hlv] at HPl ⊢
      clear h hv hn hrow hfe hz h1 hr hend hz2 hlv
      generalize List.length n = N at *
      rcases hT with rfl | ⟨rfl, hN1⟩
      all_goals
        go_enter Tryz.func95, Tryz.ntmps95
        go_wp2_with fail
        with_reducible refine HPl.out.mono ?_
        rintro e w' ⟨g, a', rfl, hcell, hO⟩
        have HO := hide hO
        clear hO HPl
        go_wp2_with fail
        go_ret
        exact ⟨_, rfl, HO.out⟩
    · have HPl := hide (top_two h hv hn hrow hfe hz hz2 h0 hfr hr)
      have HPc := hide (show ∀ (w3 : World) (v3 : Value), TreeAt w3 t p Dn { S with fresh := S.fresh + 2 } → Calls Tryz.prog 130 #[.pointer (some ⟨t, 0, none⟩), .iface 170 v3, .int .i64 ((lv : Int) + 1)] w3 fun e w4 => ∃ a, e = .returned (.pointer (some ⟨a, 0, none⟩)) ∧ w3.heap.size ≤ a ∧ PlaceAt w4 a 0 (hh + 2) 0 (.iface 170 v3) ∧ TreeAt w4 t p Dn { S with fresh := S.fresh + 3 } ∧ Turn [t] w3 w4 from fun w3 v3 hTr => by
        have := place_any t p Dn { S with fresh := S.fresh + 2 } 170 v3 (hh + 2) (by show S.fresh + 2 ≤ _; omega) w3 hTr
        rw [show ((lv : Int) + 1) = ((hh + 2 : Nat) : Int) by omega]
        exact this)
      rw [← hlv] at HPl ⊢
      clear h hv hn hrow hfe hz h1 hr hend hz2 hlv
      generalize List.length n = N at *
      rcases hT with rfl | ⟨rfl, hN1⟩
      all_goals
        go_enter Tryz.func95, Tryz.ntmps95
        go_wp2_with fail
        with_reducible refine HPl.out.mono ?_
        rintro e w' ⟨g, rfl, hTr, hO⟩
        have HO := hide hO
        have HPc2 := hide (HPc.out w' (.slice (some ⟨g, 0, none⟩) 2 2) hTr)
        clear hO HPl HPc hTr
        go_wp2_with fail
        with_reducible refine HPc2.out.mono ?_
        rintro e w4 ⟨a4, rfl, ha4, hP4, hTr4, hT4⟩
        have HF := hide (HO.out w4 a4 ha4 hP4 hTr4 hT4)
        clear ha4 hP4 hTr4 hT4
        go_wp2_with fail
        go_ret
        exact ⟨_, rfl, HF.out⟩

end Go.Proofs.YthgpjkcgccdldaaGreatDoor

namespace Go.Proofs.YthgpjkcgccdldaaGreatDoor
open Go.RowKit Go.Maps

theorem TD.setRoot {w : World} {O : Nat → Prop} {t p b m sm rb : Nat} {s : St} {q : Pg} {Dn S : Stt} {D : Dk} {G : Gh} {Rw : Nat → Prop} {ds : List Nat} (h : TD w O t p b m sm rb s q Dn S D G Rw ds) (ro : Option Nat) : TD (w.setCell ⟨t, 6, none⟩ (rootV ro)) O t p b m sm rb s q Dn { S with root := ro } D G Rw ds ∧ Turn [t] w (w.setCell ⟨t, 6, none⟩ (rootV ro)) := by
  have hT : Turn [t] w (w.setCell ⟨t, 6, none⟩ (rootV ro)) := (Turn.refl [t] w).setCell (List.mem_singleton.2 rfl) 6 _
  refine ⟨⟨h.tm.state hT (fun x hx => .inl (List.mem_singleton.1 hx)) (h.tm.tr.setRoot ro), own_turn h.drop hT (fun g hg hm => ?_), h.far⟩, hT⟩
  rw [List.mem_singleton.1 hm] at hg
  exact (h.far t hg).1 (by simp)

/-- What edit leaves. -/
structure EdOut (w w' : World) (O : Nat → Prop) (t p b m sm rb : Nat) (s : St) (q : Pg) (Dn S : Stt) (D : Dk) (G : Gh) (Rw : Nat → Prop) (ds : List Nat) (pg : Nat) (fK : List Kv → List Kv) {hh : Nat} (l : List (En hh)) : Prop where
  ex : ∃ (rt : Root?) (G' : Gh) (Rw' : Nat → Prop) (r : Bool) (S' : Stt) (ds' X : List Nat) (y : Nat), RtAt G' D S'.root rt ∧ RootOk rt ∧ flatR rt = fK (flatN l) ∧ TD w' O t p b m sm rb s { q with rd := r } Dn S' D G' Rw' ds' ∧ Grown D G G' ∧ TGo t p w w' G G' Rw Rw' S.dropped S'.dropped ∧ Mvd X y S { S' with root := S.root } ds ds' ∧ (pagesR rt ++ X).Perm (pg :: pagesN l ++ List.replicate y 0) ∧ X.length ≤ 2 * hh + 1 ∧ y ≤ 2 * hh + 3

theorem edout_of {w w1 w2 : World} {O : Nat → Prop} {t p b m sm rb : Nat} {s : St} {q : Pg} {Dn S S1 : Stt} {D : Dk} {G G1 : Gh} {Rw Rw1 : Nat → Prop} {ds ds1 X : List Nat} {pg y hh : Nat} {fK : List Kv → List Kv} {l n : List (En hh)} {r1 : Bool} {v v2 : Value} (hMd : Made ByteArray.empty none n) (hfl : flatN n = fK (flatN l)) (hn1 : 1 ≤ hh → 1 ≤ n.length) (hGr1 : Grown D G G1) (hGo1 : TGo t p w w1 G G1 Rw Rw1 S.dropped S1.dropped) (hM1 : Mvd X y S S1 ds ds1) (hp1 : (pagesN n ++ X).Perm (pg :: pagesN l ++ List.replicate y 0)) (hX : X.length ≤ 2 * hh + 1) (hy : y ≤ 2 * hh) (hrow : ∀ x, rowOf v x → w.heap.size ≤ x)
    (hR : RtOut w1 w2 O t p b m sm rb s { q with rd := r1 } Dn S1 D G1 Rw1 ds1 n v v2) : ∃ ro, v2 = rootV ro ∧ EdOut w (w2.setCell ⟨t, 6, none⟩ (rootV ro)) O t p b m sm rb s q Dn S D G Rw ds pg fK l := by
  obtain ⟨ro, G2, Rw0, Rw2, y2, rfl, hRt, hTD2, hGr2, hR0, hR0', hGo2, hp2, hy2⟩ := hR.ex
  obtain ⟨hTD3, hT3⟩ := hTD2.setRoot ro
  have hs1 := hGo1.size
  obtain ⟨k1, k2⟩ := rootN_ok hMd (by
    rcases Nat.eq_zero_or_pos hh with h0 | h0
    · exact .inl h0
    · exact .inr (hn1 h0))
  have hG := (hGo1.wide hR0 fun x hx => by
    rcases hR0' x hx with h1 | h1
    · exact .inl h1
    · exact .inr (hrow x h1)).trans (hGo2.trans ⟨⟨[t], hT3, fun x hx => .inl (List.mem_singleton.1 hx)⟩, fun _ h => .inl h, fun _ h => .inl h, fun _ h => h, fun _ h => .inl h⟩)
  refine ⟨ro, rfl, rootN n, G2, Rw2, r1, _, ds1, X, y + y2, hRt, k1, k2.trans hfl, hTD3, hGr1.trans hGr2, hG, ⟨rfl, hM1.keys, hM1.changed, ?_, hM1.drop⟩, ?_, hX, by omega⟩
  · have := hM1.fresh
    show S1.fresh + y2 + X.count 0 = S.fresh + (y + y2)
    omega
  · rw [show List.replicate (y + y2) 0 = List.replicate y 0 ++ List.replicate y2 0 from List.replicate_append_replicate.symm]
    rw [List.perm_iff_count] at *
    intro x
    have e1 := hp1 x
    have e2 := hp2 x
    simp only [List.count_append, List.count_cons] at *
    omega

set_option maxRecDepth 100000 in
set_option maxHeartbeats 3200000 in
theorem tm_edit {w : World} {cf kb : Nat} {key : ByteArray} {want : Option ByteArray} {fK : List Kv → List Kv} (hE : EdK key want fK) (hC : LeafFn w cf kb key want fK) {O : Nat → Prop} {t p b m sm rb : Nat} {s : St} {Dn : Stt} {D : Dk} (hcf : cf = 68 ∨ cf = 70) (hkt : kb ≠ t ∧ kb ≠ p) {hh : Nat} {q : Pg} {S : Stt} {G : Gh} {Rw : Nat → Prop} {ds : List Nat} {a : Nat} {l : List (En hh)} {P : Pl} (hr : S.root = some a) (hkl : kb < w.heap.size) (hkG : G kb = none) (hkD : S.dropped.ownBlock ≠ some kb) (hTD : TD w O t p b m sm rb s q Dn S D G Rw ds) (hm : Means G D hh a l) (hP : G a = some P) (hw : WayIn key ByteArray.empty none l) (hget : getK (flatN l) key = want) (hds : ds.length + 2 * hh + 2 ≤ 40000) (hfr : S.fresh + 2 * hh + 2 ≤ 40000) (hcnt : (P.pg :: pagesN l).count 0 ≤ S.fresh) (hh2 : hh ≤ 1000) :
    Calls Tryz.prog 67 #[.pointer (some ⟨t, 0, none⟩), .string key, .func (.func cf) #[] #[.pointer (some ⟨kb, 0, none⟩)]] w fun e w' => e = .returned (.tuple #[]) ∧ EdOut w w' O t p b m sm rb s q Dn S D G Rw ds P.pg fK l := by
  have h6 : w.cell? ⟨t, 6, none⟩ = some (.pointer (some ⟨a, 0, none⟩)) := by have := hTD.tm.tr.now.c0; rw [hr] at this; exact this
  obtain ⟨lv, hlv⟩ : ∃ lv, lv = hh + 1 := ⟨_, rfl⟩
  have h1 : w.cell? ⟨a, 1, none⟩ = some (.int .i64 ((lv : Nat) : Int)) := by
    obtain ⟨P', hP', hl, _⟩ := hm.out
    have := hTD.tm.mem.at_ _ P' hP'
    unfold PlOk at this
    split at this
    · rw [this.c1, hl, hlv]
    · obtain ⟨_, _, _, _, hp, _⟩ := this
      rw [hp.c1, hl, hlv]
  have HH := hide (height_some t p a lv Dn S hr w hTD.tm.tr h1)
  have HEd := hide (tm_edited hE hC hcf hkt hh w q S G Rw ds a l P ByteArray.empty none rfl hkl hkG hkD hTD hm hP hw hget hds hfr hcnt)
  have HLv := hide hlv
  have HFr := hide (show S.fresh + 2 * hh + 2 ≤ 40000 ∧ hh ≤ 1000 from ⟨hfr, hh2⟩)
  have hl1 : 1 ≤ lv := by omega
  have hl2 : lv ≤ 1001 := by omega
  clear hE hC hcf hkt hr hkl hkG hkD hTD hm hP hw hget hds hfr hcnt hlv h1 hh2
  go_enter Tryz.func67, Tryz.ntmps67
  go_wp2_with fail
  refine HH.out.mono ?_
  rintro e w1 ⟨rfl, rfl⟩
  go_wp2_with fail
  with_reducible refine HEd.out.mono ?_
  rintro e w2 ⟨v2, rfl, hO2⟩
  obtain ⟨n, T, v, nd, G1, Rw1, r1, S1, ds1, X, y, rfl, hMd, hfl, hn1, hv, hi, hTD1, hGr1, hGo1, hM1, hp1, hX, hy, hrow⟩ := hO2.ex
  have hf1 := hM1.fresh
  have HR := hide (tm_rootOf hTD1 hv hi (fun x hx => (hrow x hx).2) hMd.full (by have := hMd.long; omega) hn1 (by have := HFr.out.1; omega) HFr.out.2)
  have hmx : ((lv : Nat) : Int) = max 1 ((lv : Nat) : Int) := by omega
  rw [← HLv.out, hmx] at HR
  clear hmx
  have HO := hide (fun (w3 : World) (v3 : Value) (hR : RtOut w2 w3 O t p b m sm rb s { q with rd := r1 } Dn S1 D G1 Rw1 ds1 n v v3) => And.intro (edout_of (q := q) hMd hfl hn1 hGr1 hGo1 hM1 hp1 hX hy (fun x hx => (hrow x hx).1) hR) (show w3.cell? ⟨t, 6, none⟩ ≠ none ∧ w3.frozen? ⟨t, 6, none⟩ = false by
    obtain ⟨_, _, _, _, _, _, _, hT, _⟩ := hR.ex
    exact ⟨by rw [hT.tm.tr.now.c0]; simp, hT.tm.tr.fz 6⟩))
  clear hO2 hMd hfl hn1 hv hi hTD1 hGr1 hGo1 hM1 hp1 hX hy hrow hf1 HEd HH
  go_wp2_with fail
  with_reducible refine HR.out.mono ?_
  rintro e w3 ⟨v3, rfl, hR⟩
  obtain ⟨⟨ro, rfl, hE⟩, hc6, hz6⟩ := HO.out w3 v3 hR
  obtain ⟨c6, hc6'⟩ := Option.ne_none_iff_exists'.1 hc6
  have HE := hide hE
  obtain ⟨pv, hpv⟩ : ∃ pv : Option Addr, rootV ro = .pointer pv := ⟨_, rfl⟩
  rw [hpv] at HE ⊢
  clear hE hR HO HR hc6 hpv
  go_wp2_with fail
  go_end0
  exact ⟨rfl, HE.out⟩

end Go.Proofs.YthgpjkcgccdldaaGreatDoor

namespace Go.Proofs.YthgpjkcgccdldaaGreatDoor
open Go.RowKit Go.Maps

theorem edk_put {key v : ByteArray} {want : Option ByteArray} (hk : 0 < key.size ∧ key.size ≤ 48) (hv : v.size ≤ 120) : EdK key want (fun L => putK L key v) :=
  ⟨fun _ _ _ hA hZ => putK_mid hA hZ, fun _ _ _ h1 h2 h3 h4 h5 h6 _ => made_put h1 h2 h3 h4 hk hv h5 h6⟩
theorem rises_lt {L : List (ByteArray × ByteArray)} (hs : Rises (keysOf L)) {i j : Nat} (hij : i < j) (hj : j < L.length) : klt (L[i]'(by omega)).1 L[j].1 := by
  have := hs.get hij (by rw [keysOf_length]; exact hj)
  rw [keysOf_get (show i < L.length by omega), keysOf_get hj] at this
  exact this
theorem pos_parts {L : List (ByteArray × ByteArray)} {key : ByteArray} {i : Nat} (hp : IsPos (keysOf L) key i) : (∀ x ∈ L.take i, klt x.1 key) ∧ ∀ x ∈ L.drop i, ¬ klt x.1 key := by
  obtain ⟨_, h2, h3⟩ := hp
  refine ⟨fun x hx => ?_, fun x hx => ?_⟩
  · obtain ⟨m, hm, rfl⟩ := List.mem_take_iff_getElem.1 hx
    have := h2 m (by rw [keysOf_length]; omega) (by omega)
    rwa [keysOf_get] at this
  · obtain ⟨m, hm, rfl⟩ := List.mem_drop_iff_getElem.1 hx
    have := h3 (i + m) (by rw [keysOf_length]; omega) (by omega)
    rwa [keysOf_get] at this

theorem putL_putK {L : List (ByteArray × ByteArray)} {key v : ByteArray} {i : Nat} {f : Bool} (hs : Rises (keysOf L)) (hp : IsPos (keysOf L) key i) (hf : f = true ↔ Stands L key i) : putL L i f (key, v) = putK L key v := by
  obtain ⟨h1, h2⟩ := pos_parts hp
  have e1 : L.filter (fun x => decide (klt x.1 key)) = L.take i := by
    conv => lhs; rw [← List.take_append_drop i L]
    rw [List.filter_append, filter_all fun x hx => decide_eq_true (h1 x hx), filter_none fun x hx => decide_eq_false (h2 x hx), List.append_nil]
  have e2 : L.filter (fun x => decide (klt key x.1)) = L.drop (if f = true then i + 1 else i) := by
    conv => lhs; rw [← List.take_append_drop i L]
    rw [List.filter_append, filter_none (l := L.take i) (p := fun x => decide (klt key x.1)) (fun x hx => decide_eq_false (klt_asymm (h1 x hx))), List.nil_append]
    by_cases hft : f = true
    · rw [if_pos hft]
      obtain ⟨hi, hik⟩ := hf.1 hft
      rw [List.drop_eq_getElem_cons hi, List.filter_cons, if_neg (by rw [hik]; simpa using klt_irrefl key)]
      refine filter_all fun x hx => decide_eq_true ?_
      obtain ⟨m, hm, rfl⟩ := List.mem_drop_iff_getElem.1 hx
      have := rises_lt hs (i := i) (j := i + 1 + m) (by omega) (by omega)
      rwa [hik] at this
    · rw [if_neg hft]
      refine filter_all fun x hx => decide_eq_true ?_
      rcases klt_tri x.1 key with h | h | h
      · exact absurd h (h2 x hx)
      · refine absurd ?_ hft
        refine hf.2 ?_
        obtain ⟨m, hm, rfl⟩ := List.mem_drop_iff_getElem.1 hx
        rcases Nat.eq_zero_or_pos m with h0 | h0
        · subst h0
          exact ⟨by omega, h⟩
        · have h3 := rises_lt hs (i := i) (j := i + m) (by omega) (by omega)
          rw [h] at h3
          have h4 := h2 L[i] (by rw [List.drop_eq_getElem_cons (by omega)]; exact List.mem_cons_self ..)
          exact absurd h3 h4
      · exact h
  unfold putL putK
  rw [e1, e2, List.append_assoc]
  rfl

/-- Put's closure. -/
theorem leafFn_put {w0 : World} {kb : Nat} {key v : ByteArray} {want : Option ByteArray} (h0 : w0.cell? ⟨kb, 0, none⟩ = some (.string key)) (h1 : w0.cell? ⟨kb, 1, none⟩ = some (.string v)) : LeafFn w0 68 kb key want (fun L => putK L key v) := by
  intro w1 hb b off c L hK hc hl hs _
  refine (put1_any b off c kb L key v hs (by omega) hc w1 hK ((World.cell?_of_block (a := ⟨kb, 0, none⟩) hb).trans h0) ((World.cell?_of_block (a := ⟨kb, 1, none⟩) hb).trans h1)).mono ?_
  rintro e w2 ⟨i, f, r, rfl, hp, hf, hO, hT⟩
  have he := putL_putK (v := v) hs hp hf
  rw [he] at hO
  have hne : 0 < (putK L key v).length := by
    unfold putK
    rw [List.length_append, List.length_cons]
    omega
  obtain ⟨g, cap, rfl, _, hcap, h2, h3, hK2, _⟩ := own_kvs hO hne
  refine ⟨some ⟨g, 0, none⟩, cap, rfl, hK2, by simp, hcap, hT, fun ad e => ?_⟩
  obtain rfl := Option.some.inj e
  exact ⟨h2, h3⟩

end Go.Proofs.YthgpjkcgccdldaaGreatDoor

namespace Go.Proofs.YthgpjkcgccdldaaGreatDoor
open Go.RowKit Go.Maps

/-- What the first Put leaves. -/
structure EdNil (w w' : World) (O : Nat → Prop) (t p b m sm rb : Nat) (s : St) (q : Pg) (Dn S : Stt) (D : Dk) (G : Gh) (Rw : Nat → Prop) (ds : List Nat) (k v : ByteArray) : Prop where
  ex : ∃ (rt : Root?) (G' : Gh) (Rw' : Nat → Prop) (S' : Stt) (y : Nat), RtAt G' D S'.root rt ∧ RootOk rt ∧ flatR rt = [(k, v)] ∧ TD w' O t p b m sm rb s q Dn S' D G' Rw' ds ∧ Grown D G G' ∧ TGo t p w w' G G' Rw Rw' S.dropped S'.dropped ∧ S'.keys = S.keys ∧ S'.changed = S.changed ∧ S'.fresh = S.fresh + y ∧ (pagesR rt).Perm (List.replicate y 0) ∧ y ≤ 3

theorem ednil_of {w w1 w2 : World} {O : Nat → Prop} {t p b m sm rb : Nat} {s : St} {q : Pg} {Dn S : Stt} {D : Dk} {G : Gh} {Rw : Nat → Prop} {ds : List Nat} {k v : ByteArray} {vn v2 : Value} (hk : 0 < k.size ∧ k.size ≤ 48) (hv : v.size ≤ 120) (hT : Turn [] w w1) (hrow : ∀ x, rowOf vn x → w.heap.size ≤ x)
    (hR : RtOut w1 w2 O t p b m sm rb s q Dn S D G Rw ds (hh := 0) [(k, v)] vn v2) : ∃ ro, v2 = rootV ro ∧ EdNil w (w2.setCell ⟨t, 6, none⟩ (rootV ro)) O t p b m sm rb s q Dn S D G Rw ds k v := by
  obtain ⟨ro, G2, Rw0, Rw2, y2, rfl, hRt, hTD2, hGr2, hR0, hR0', hGo2, hp2, hy2⟩ := hR.ex
  obtain ⟨hTD3, hT3⟩ := hTD2.setRoot ro
  have hMd : Made (h := 0) ByteArray.empty none [(k, v)] := made_put (l := []) (fun e he => by cases he) trivial (fun e he => by cases he) (by simp [sizeN]) hk hv (not_below k) (below_none k)
  obtain ⟨k1, k2⟩ := rootN_ok hMd (.inl rfl)
  have hG := ((TGo.refl t p w G Rw S.dropped).quiet hT).wide hR0 (fun x hx => (hR0' x hx).imp id (hrow x)) |>.trans (hGo2.trans ⟨⟨[t], hT3, fun x hx => .inl (List.mem_singleton.1 hx)⟩, fun _ h => .inl h, fun _ h => .inl h, fun _ h => h, fun _ h => .inl h⟩)
  exact ⟨ro, rfl, rootN (h := 0) [(k, v)], G2, Rw2, _, y2, hRt, k1, k2.trans (flatN_zero _), hTD3, hGr2, hG, rfl, rfl, rfl, hp2, hy2⟩

set_option maxRecDepth 100000 in
set_option maxHeartbeats 3200000 in
theorem tm_edit_nil {w : World} {kb : Nat} {k v : ByteArray} {O : Nat → Prop} {t p b m sm rb : Nat} {s : St} {Dn : Stt} {D : Dk} {q : Pg} {S : Stt} {G : Gh} {Rw : Nat → Prop} {ds : List Nat} (hr : S.root = none) (hTD : TD w O t p b m sm rb s q Dn S D G Rw ds) (hk : 0 < k.size ∧ k.size ≤ 48) (hv : v.size ≤ 120) (hfr : S.fresh ≤ 50000) (h0 : w.cell? ⟨kb, 0, none⟩ = some (.string k)) (h1 : w.cell? ⟨kb, 1, none⟩ = some (.string v)) :
    Calls Tryz.prog 67 #[.pointer (some ⟨t, 0, none⟩), .string k, .func (.func 68) #[] #[.pointer (some ⟨kb, 0, none⟩)]] w fun e w' => e = .returned (.tuple #[]) ∧ EdNil w w' O t p b m sm rb s q Dn S D G Rw ds k v := by
  have h6 : w.cell? ⟨t, 6, none⟩ = some (.pointer none) := by have := hTD.tm.tr.now.c0; rw [hr] at this; exact this
  have HC := hide (edited_nil t kb k v w h0 h1)
  have HH := hide (height_nil t p Dn S hr w hTD.tm.tr)
  have HT := hide (show TD w O t p b m sm rb s q Dn S D G Rw ds ∧ (0 < k.size ∧ k.size ≤ 48) ∧ v.size ≤ 120 ∧ S.fresh ≤ 50000 from ⟨hTD, hk, hv, hfr⟩)
  clear hr hTD hk hv hfr h0 h1
  go_enter Tryz.func67, Tryz.ntmps67
  go_wp2_with fail
  with_reducible refine HH.out.mono ?_
  rintro e w1 ⟨rfl, rfl⟩
  go_wp2_with fail
  with_reducible refine HC.out.mono ?_
  rintro e w2 ⟨i, f, g, cap, rfl, hN, hT2⟩
  have hsg := single k v i f hN.is
  have hlen : (putL [] i f (k, v)).length = 1 := by rw [hsg]; rfl
  have hkv := hN.kv
  have hcap := hN.cap
  rw [hsg] at hkv hcap
  rw [hlen]
  have hng := hN.new
  have hgl := hN.lt
  have hTD2 := HT.out.1.read (HT.out.1.tm.quiet hT2) ((TStep.refl p w1 G Rw).quiet hT2)
  have hrow : ∀ x, rowOf (.slice (some ⟨g, 0, none⟩) 1 cap) x → x = g := fun x hx => by
    obtain ⟨ad, c', cc, e, rfl⟩ := hx
    injection e with e
    injection e with e
    rw [← e]
  have HR := hide (tm_rootOf (hh := 0) (nd := .inl [(k, v)]) (T := 137) (v := .slice (some ⟨g, 0, none⟩) 1 cap) (n := [(k, v)]) hTD2 ⟨rfl, some ⟨g, 0, none⟩, cap, rfl, hkv, by simp, hcap.1, hcap.2⟩ rfl (fun x hx => by rw [hrow x hx]; exact ⟨hgl, HT.out.1.able hng⟩) (fun e he => by
    rw [List.mem_singleton.1 he]
    exact ⟨HT.out.2.1.1, HT.out.2.1.2, HT.out.2.2.1⟩) (by
    have := HT.out.2.1.2
    have := HT.out.2.2.1
    show (2 + k.size + v.size) + 0 ≤ 1900
    omega) (fun h => absurd h (by omega)) (by have := HT.out.2.2.2; omega) (by omega))
  have hmx : (((0 + 1 : Nat)) : Int) = max 1 0 := by decide
  rw [hmx] at HR
  clear hmx
  have HO := hide (fun (w3 : World) (v3 : Value) (hR : RtOut w2 w3 O t p b m sm rb s q Dn S D G Rw ds (hh := 0) [(k, v)] (.slice (some ⟨g, 0, none⟩) 1 cap) v3) => And.intro (ednil_of HT.out.2.1 HT.out.2.2.1 hT2 (fun x hx => by rw [hrow x hx]; exact hng) hR) (show w3.cell? ⟨t, 6, none⟩ ≠ none ∧ w3.frozen? ⟨t, 6, none⟩ = false by
    obtain ⟨_, _, _, _, _, _, _, hT, _⟩ := hR.ex
    exact ⟨by rw [hT.tm.tr.now.c0]; simp, hT.tm.tr.fz 6⟩))
  clear hN hT2 hsg hlen hkv hcap hng hgl hTD2 hrow HC HH
  go_wp2_with fail
  with_reducible refine HR.out.mono ?_
  rintro e w3 ⟨v3, rfl, hR⟩
  obtain ⟨⟨ro, rfl, hE⟩, hc6, hz6⟩ := HO.out w3 v3 hR
  obtain ⟨c6, hc6'⟩ := Option.ne_none_iff_exists'.1 hc6
  have HE := hide hE
  obtain ⟨pv, hpv⟩ : ∃ pv : Option Addr, rootV ro = .pointer pv := ⟨_, rfl⟩
  rw [hpv] at HE ⊢
  clear hE hR HO HR hc6 hpv
  go_wp2_with fail
  go_end0
  exact ⟨rfl, HE.out⟩

end Go.Proofs.YthgpjkcgccdldaaGreatDoor

namespace Go.Proofs.YthgpjkcgccdldaaGreatDoor
open Go.RowKit Go.Maps

/-- A root's node is on each key's way. -/
theorem RootOk.way {h : Nat} {e : En (h + 1)} (hr : RootOk (some ⟨h, e⟩)) (key : ByteArray) : WayIn key ByteArray.empty none (kidsOf e) := by
  obtain ⟨h1, h2, h3⟩ := hr h e rfl
  obtain ⟨_, f2, f3, f4⟩ := h3
  have h1' : e.1 = ByteArray.empty := h1
  refine ⟨?_, h2.2, not_below key, below_none key, f4, f3, fun h0 => ?_⟩
  · have := h2.1
    rw [h1'] at this
    exact this
  · cases h with
    | zero => omega
    | succ h => exact f2

/-- The pager was asked. -/
theorem TD.ask {w w' : World} {O : Nat → Prop} {t p b m sm rb : Nat} {s : St} {q : Pg} {Dn S : Stt} {D : Dk} {G : Gh} {Rw : Nat → Prop} {ds : List Nat} (h : TD w O t p b m sm rb s q Dn S D G Rw ds) (r : Bool) (hA : PAt w' p b m sm rb s { q with rd := r }) (hT : Turn [p] w w') : TD w' O t p b m sm rb s { q with rd := r } Dn S D G Rw ds ∧ TStep p w w' G G Rw Rw := by
  have hp : G p = none ∧ ¬ Rw p := by
    refine ⟨?_, fun hr => (h.tm.own p (.inr hr)).1 (by simp)⟩
    cases hg : G p with
    | none => rfl
    | some P => exact absurd (show p ∈ [1, t, p, b, m, sm, rb] by simp) (h.tm.own p (.inl (by rw [hg]; simp))).1
  refine ⟨⟨⟨hA, h.tm.tr.turn hT (by simp; exact h.tm.off.p), h.tm.off, Nat.lt_of_lt_of_le h.tm.rbl hT.size, h.tm.sd, h.tm.qd, h.tm.mem.turn hT (fun x hx => by rw [List.mem_singleton.1 hx]; exact hp), ⟨fun pg hh l hD => h.tm.dk.at_ pg hh l hD⟩, h.tm.own, h.tm.no, fun x hx => Nat.lt_of_lt_of_le (h.tm.ob x hx) hT.size⟩, own_turn h.drop hT (fun g hg hm => ?_), h.far⟩, ⟨⟨[p], hT, fun x hx => .inl (List.mem_singleton.1 hx)⟩, fun _ h => .inl h, fun _ h => .inl h, fun _ h => h⟩⟩
  rw [List.mem_singleton.1 hm] at hg
  exact (h.far p hg).1 (by simp)

/-- A field of the state is stored. -/
theorem TD.stored {w w' : World} {O : Nat → Prop} {t p b m sm rb : Nat} {s : St} {q : Pg} {Dn S S' : Stt} {D : Dk} {G : Gh} {Rw : Nat → Prop} {ds : List Nat} (h : TD w O t p b m sm rb s q Dn S D G Rw ds) (hT : Turn [t] w w') (hTr : TreeAt w' t p Dn S') (hd : S'.dropped = S.dropped) : TD w' O t p b m sm rb s q Dn S' D G Rw ds ∧ TGo t p w w' G G Rw Rw S.dropped S'.dropped := by
  refine ⟨⟨h.tm.state hT (fun x hx => .inl (List.mem_singleton.1 hx)) hTr, ?_, ?_⟩, ⟨⟨[t], hT, fun x hx => .inl (List.mem_singleton.1 hx)⟩, fun _ h => .inl h, fun _ h => .inl h, fun _ h => h, fun x hx => .inl (by rw [← hd]; exact hx)⟩⟩
  · rw [hd]
    refine own_turn h.drop hT fun g hg hm => ?_
    rw [List.mem_singleton.1 hm] at hg
    exact (h.far t hg).1 (by simp)
  · rw [hd]
    exact h.far

/-- Nothing of it turned. -/
theorem TD.quiet {w w' : World} {O : Nat → Prop} {t p b m sm rb : Nat} {s : St} {q : Pg} {Dn S : Stt} {D : Dk} {G : Gh} {Rw : Nat → Prop} {ds : List Nat} (h : TD w O t p b m sm rb s q Dn S D G Rw ds) (hT : Turn [] w w') : TD w' O t p b m sm rb s q Dn S D G Rw ds := h.read (h.tm.quiet hT) ((TStep.refl p w G Rw).quiet hT)

theorem rtat_none {G : Gh} {D : Dk} {ro : Option Nat} (h : RtAt G D ro none) : ro = none := by
  cases ro with
  | none => rfl
  | some a => exact h.elim
theorem rtat_some {G : Gh} {D : Dk} {ro : Option Nat} {hh : Nat} {e : En (hh + 1)} (h : RtAt G D ro (some ⟨hh, e⟩)) : ∃ a P, ro = some a ∧ G a = some P ∧ P.pg = pageOf e ∧ Means G D hh a (kidsOf e) := by
  cases ro with
  | none => exact h.elim
  | some a =>
    obtain ⟨⟨P, h1, h2⟩, h3⟩ := h
    exact ⟨a, P, rfl, h1, h2, h3⟩
theorem RtAt.grown {D : Dk} {G G' : Gh} (hg : Grown D G G') {ro : Option Nat} {rt : Root?} (h : RtAt G D ro rt) : RtAt G' D ro rt := by
  cases rt with
  | none => rw [rtat_none h]; trivial
  | some x =>
    obtain ⟨hh, e⟩ := x
    obtain ⟨a, P, rfl, h1, h2, h3⟩ := rtat_some h
    obtain ⟨P', g1, g2, _⟩ := hg.at_ a P h1
    exact ⟨⟨P', g1, g2.trans h2⟩, h3.grown hg⟩

/-- Get of any tree. -/
theorem tm_get {w : World} {O : Nat → Prop} {t p b m sm rb : Nat} {s : St} {q : Pg} {Dn S : Stt} {D : Dk} {G : Gh} {Rw : Nat → Prop} {ds : List Nat} (h : TD w O t p b m sm rb s q Dn S D G Rw ds) {rt : Root?} (hR : RtAt G D S.root rt) (hOk : RootOk rt) (key : ByteArray) :
    Calls Tryz.prog 54 #[.pointer (some ⟨t, 0, none⟩), .string key] w fun e w' => e = .returned (gotV (getK (flatR rt) key)) ∧ ∃ G' Rw' r, TD w' O t p b m sm rb s { q with rd := r } Dn S D G' Rw' ds ∧ Grown D G G' ∧ TStep p w w' G G' Rw Rw' := by
  cases rt with
  | none =>
    refine (get_nil t p Dn S (rtat_none hR) key w h.tm.tr).mono ?_
    rintro e w' ⟨rfl, hT⟩
    exact ⟨rfl, G, Rw, q.rd, h.quiet hT, Grown.refl _ _, (TStep.refl p w G Rw).quiet hT⟩
  | some x =>
    obtain ⟨hh, e⟩ := x
    obtain ⟨a, P, hro, _, _, hm⟩ := rtat_some hR
    refine get_gen t key _ w (fun u => ∃ G' Rw' r, TD u O t p b m sm rb s { q with rd := r } Dn S D G' Rw' ds ∧ Grown D G G' ∧ TStep p w u G G' Rw Rw') ?_ ((tm_leafOf h.tm key hro hm (hOk.way key).sub).mono ?_)
    · rintro u v ⟨G', Rw', r, h1, h2, h3⟩ hT
      exact ⟨G', Rw', r, h1.quiet hT, h2, h3.quiet hT⟩
    · rintro e w' ⟨v, L, G', Rw', r, rfl, h1, h2, h3, h4⟩
      exact ⟨v, L, rfl, h1, G', Rw', r, h.read h2 h4, h3, h4⟩

end Go.Proofs.YthgpjkcgccdldaaGreatDoor

namespace Go.Proofs.YthgpjkcgccdldaaGreatDoor
open Go.RowKit Go.Maps

/-- What an edit leaves of any tree. -/
structure EdR (w w' : World) (O : Nat → Prop) (t p b m sm rb : Nat) (s : St) (q : Pg) (Dn S : Stt) (D : Dk) (G : Gh) (Rw : Nat → Prop) (ds : List Nat) (fK : List Kv → List Kv) (rt : Root?) : Prop where
  ex : ∃ (rt' : Root?) (G' : Gh) (Rw' : Nat → Prop) (r : Bool) (S' : Stt) (ds' X : List Nat) (y : Nat), RtAt G' D S'.root rt' ∧ RootOk rt' ∧ flatR rt' = fK (flatR rt) ∧ TD w' O t p b m sm rb s { q with rd := r } Dn S' D G' Rw' ds' ∧ Grown D G G' ∧ TGo t p w w' G G' Rw Rw' S.dropped S'.dropped ∧ Mvd X y S { S' with root := S.root } ds ds' ∧ (pagesR rt' ++ X).Perm (pagesR rt ++ List.replicate y 0) ∧ X.length ≤ 2 * heightR rt ∧ y ≤ 2 * max 1 (heightR rt) + 1

theorem edr_some {w w' : World} {O : Nat → Prop} {t p b m sm rb : Nat} {s : St} {q : Pg} {Dn S : Stt} {D : Dk} {G : Gh} {Rw : Nat → Prop} {ds : List Nat} {fK : List Kv → List Kv} {hh pg : Nat} {e : En (hh + 1)} (hpg : pg = pageOf e) (h : EdOut w w' O t p b m sm rb s q Dn S D G Rw ds pg fK (kidsOf e)) : EdR w w' O t p b m sm rb s q Dn S D G Rw ds fK (some ⟨hh, e⟩) := by
  obtain ⟨rt, G', Rw', r, S', ds', X, y, h1, h2, h3, h4, h5, h6, h7, h8, h9, h10⟩ := h.ex
  subst hpg
  have e1 : heightR (some ⟨hh, e⟩) = hh + 1 := rfl
  exact ⟨rt, G', Rw', r, S', ds', X, y, h1, h2, h3, h4, h5, h6, h7, h8, by rw [e1]; omega, by rw [e1]; omega⟩
theorem edr_none {w w' : World} {O : Nat → Prop} {t p b m sm rb : Nat} {s : St} {q : Pg} {Dn S : Stt} {D : Dk} {G : Gh} {Rw : Nat → Prop} {ds : List Nat} {k v : ByteArray} (h : EdNil w w' O t p b m sm rb s q Dn S D G Rw ds k v) : EdR w w' O t p b m sm rb s q Dn S D G Rw ds (fun L => putK L k v) none := by
  obtain ⟨rt, G', Rw', S', y, h1, h2, h3, h4, h5, h6, h7, h8, h9, h10, h11⟩ := h.ex
  refine ⟨rt, G', Rw', q.rd, S', ds, [], y, h1, h2, h3, h4, h5, h6, ⟨rfl, h7, h8, by simpa using h9, by simp⟩, ?_, by simp, by show y ≤ 2 * max 1 0 + 1; omega⟩
  rw [List.append_nil]
  exact h10

/-- edit by Put's closure, on any tree. -/
theorem tm_edit_put {w : World} {kb : Nat} {k v : ByteArray} {O : Nat → Prop} {t p b m sm rb : Nat} {s : St} {Dn : Stt} {D : Dk} {q : Pg} {S : Stt} {G : Gh} {Rw : Nat → Prop} {ds : List Nat} {rt : Root?} (hTD : TD w O t p b m sm rb s q Dn S D G Rw ds) (hR : RtAt G D S.root rt) (hOk : RootOk rt) (hk : 0 < k.size ∧ k.size ≤ 48) (hv : v.size ≤ 120) (hb : ds.length ≤ 30000 ∧ S.fresh ≤ 30000 ∧ heightR rt ≤ 100) (hcnt : (pagesR rt).count 0 ≤ S.fresh) (hkt : kb ≠ t ∧ kb ≠ p) (hkG : G kb = none) (hkD : S.dropped.ownBlock ≠ some kb) (h0 : w.cell? ⟨kb, 0, none⟩ = some (.string k)) (h1 : w.cell? ⟨kb, 1, none⟩ = some (.string v)) :
    Calls Tryz.prog 67 #[.pointer (some ⟨t, 0, none⟩), .string k, .func (.func 68) #[] #[.pointer (some ⟨kb, 0, none⟩)]] w fun e w' => e = .returned (.tuple #[]) ∧ EdR w w' O t p b m sm rb s q Dn S D G Rw ds (fun L => putK L k v) rt := by
  cases rt with
  | none =>
    refine (tm_edit_nil (rtat_none hR) hTD hk hv (by omega) h0 h1).mono ?_
    rintro e w' ⟨rfl, h⟩
    exact ⟨rfl, edr_none h⟩
  | some x =>
    obtain ⟨hh, e⟩ := x
    obtain ⟨a, P, hro, hP, hpg, hm⟩ := rtat_some hR
    have e1 : heightR (some ⟨hh, e⟩) = hh + 1 := rfl
    rw [e1] at hb
    refine (tm_edit (edk_put hk hv) (leafFn_put (want := getK (flatN (kidsOf e)) k) h0 h1) (.inl rfl) hkt hro (lt_of_cell h0) hkG hkD hTD hm hP (hOk.way k) rfl (by omega) (by omega) (by rw [hpg]; exact hcnt) (by omega)).mono ?_
    rintro e' w' ⟨rfl, h⟩
    exact ⟨rfl, edr_some hpg h⟩

/-- What Put or Del leaves. -/
structure ChOut (w w' : World) (O : Nat → Prop) (t p b m sm rb : Nat) (s : St) (q : Pg) (Dn S : Stt) (D : Dk) (G : Gh) (Rw : Nat → Prop) (ds : List Nat) (rt : Root?) (l' : List Kv) (ks : Nat) : Prop where
  ex : ∃ (rt' : Root?) (G' : Gh) (Rw' : Nat → Prop) (r : Bool) (S' : Stt) (ds' X : List Nat) (y : Nat), RtAt G' D S'.root rt' ∧ RootOk rt' ∧ flatR rt' = l' ∧ TD w' O t p b m sm rb s { q with rd := r } Dn S' D G' Rw' ds' ∧ Grown D G G' ∧ TGo t p w w' G G' Rw Rw' S.dropped S'.dropped ∧ S'.keys = ks ∧ S'.changed = true ∧ S'.fresh + X.count 0 = S.fresh + y ∧ ds' = ds ++ X.filter (fun x => decide (x ≠ 0)) ∧ (pagesR rt' ++ X).Perm (pagesR rt ++ List.replicate y 0) ∧ X.length ≤ 2 * heightR rt ∧ y ≤ 2 * max 1 (heightR rt) + 1

theorem chout_of {w w8 w9 : World} {O : Nat → Prop} {t p b m sm rb : Nat} {s : St} {q : Pg} {Dn S : Stt} {D : Dk} {G G8 : Gh} {Rw Rw8 : Nat → Prop} {ds : List Nat} {rt : Root?} {fK : List Kv → List Kv} {ks : Nat} {r8 : Bool} (hG : Grown D G G8) (hGo : TGo t p w w8 G G8 Rw Rw8 S.dropped S.dropped) (hE : EdR w8 w9 O t p b m sm rb s { q with rd := r8 } Dn { S with changed := true, keys := ks } D G8 Rw8 ds fK rt) : ChOut w w9 O t p b m sm rb s q Dn S D G Rw ds rt (fK (flatR rt)) ks := by
  obtain ⟨rt', G', Rw', r, S', ds', X, y, h1, h2, h3, h4, h5, h6, h7, h8, h9, h10⟩ := hE.ex
  exact ⟨rt', G', Rw', r, S', ds', X, y, h1, h2, h3, h4, hG.trans h5, hGo.trans h6, h7.keys, h7.changed, h7.fresh, h7.drop, h8, h9, h10⟩
theorem chout_same {w w4 : World} {O : Nat → Prop} {t p b m sm rb : Nat} {s : St} {q : Pg} {Dn S : Stt} {D : Dk} {G G4 : Gh} {Rw Rw4 : Nat → Prop} {ds : List Nat} {rt : Root?} {r4 : Bool} (hR : RtAt G D S.root rt) (hOk : RootOk rt) (hG : Grown D G G4) (hGo : TGo t p w w4 G G4 Rw Rw4 S.dropped S.dropped) (hT : TD w4 O t p b m sm rb s { q with rd := r4 } Dn { S with changed := true } D G4 Rw4 ds) : ChOut w w4 O t p b m sm rb s q Dn S D G Rw ds rt (flatR rt) S.keys :=
  ⟨rt, G4, Rw4, r4, { S with changed := true }, ds, [], 0, hR.grown hG, hOk, rfl, hT, hG, hGo, rfl, rfl, rfl, by simp, by simp, by simp, by omega⟩

theorem putK_same {L : List Kv} {k v : ByteArray} (hs : (L.map Prod.fst).Pairwise klt) (h : getK L k = some v) : putK L k v = L := by
  unfold getK at h
  cases hf : L.find? (fun x => decide (x.1 = k)) with
  | none => rw [hf] at h; cases h
  | some x =>
    rw [hf] at h
    have hx : x.2 = v := Option.some.inj h
    obtain ⟨i, hi, e⟩ := List.mem_iff_getElem.1 (List.mem_of_find?_eq_some hf)
    have hk := List.find?_some hf
    have hk' : x.1 = k := by simpa using hk
    have hp := List.pairwise_iff_getElem.1 hs
    have hlt : ∀ m j (hm : m < j) (hj : j < L.length), klt (L[m]'(by omega)).1 L[j].1 := fun m j hm hj => by
      have := hp m j (by rw [List.length_map]; omega) (by rw [List.length_map]; exact hj) hm
      simpa using this
    have e3 : L[i] = (k, v) := by rw [e, ← hk', ← hx]
    unfold putK
    have g1 : ∀ y ∈ L.take i, klt y.1 k := fun y hy => by
      obtain ⟨m, hm, rfl⟩ := List.mem_take_iff_getElem.1 hy
      have := hlt m i (by omega) hi
      rw [e3] at this
      exact this
    have g2 : ∀ y ∈ L.drop i, ¬ klt y.1 k := fun y hy => by
      obtain ⟨m, hm, rfl⟩ := List.mem_drop_iff_getElem.1 hy
      rcases Nat.eq_zero_or_pos m with h0 | h0
      · subst h0
        have : L[i + 0] = (k, v) := e3
        rw [this]
        exact klt_irrefl _
      · have := hlt i (i + m) (by omega) (by omega)
        rw [e3] at this
        exact klt_asymm this
    have g3 : ∀ y ∈ L.drop (i + 1), klt k y.1 := fun y hy => by
      obtain ⟨m, hm, rfl⟩ := List.mem_drop_iff_getElem.1 hy
      have := hlt i (i + 1 + m) (by omega) (by omega)
      rw [e3] at this
      exact this
    have g4 : ∀ y ∈ L.take (i + 1), ¬ klt k y.1 := fun y hy => by
      obtain ⟨m, hm, rfl⟩ := List.mem_take_iff_getElem.1 hy
      by_cases h0 : m = i
      · subst h0
        rw [e3]
        exact klt_irrefl _
      · have := hlt m i (by omega) hi
        rw [e3] at this
        exact klt_asymm this
    have e1 : L.filter (fun x => decide (klt x.1 k)) = L.take i := by
      conv => lhs; rw [← List.take_append_drop i L]
      rw [List.filter_append, filter_all fun y hy => decide_eq_true (g1 y hy), filter_none fun y hy => decide_eq_false (g2 y hy), List.append_nil]
    have e2 : L.filter (fun x => decide (klt k x.1)) = L.drop (i + 1) := by
      conv => lhs; rw [← List.take_append_drop (i + 1) L]
      rw [List.filter_append, filter_none (l := L.take (i + 1)) (p := fun x => decide (klt k x.1)) (fun y hy => decide_eq_false (g4 y hy)), filter_all fun y hy => decide_eq_true (g3 y hy), List.nil_append]
    rw [e1, e2, ← e3, ← List.drop_eq_getElem_cons hi, List.take_append_drop]

end Go.Proofs.YthgpjkcgccdldaaGreatDoor

namespace Go.Proofs.YthgpjkcgccdldaaGreatDoor
open Go.RowKit Go.Maps

/-- A block that is new. -/
theorem TD.newBlock {w : World} {O : Nat → Prop} {t p b m sm rb : Nat} {s : St} {q : Pg} {Dn S : Stt} {D : Dk} {G : Gh} {Rw : Nat → Prop} {ds : List Nat} (h : TD w O t p b m sm rb s q Dn S D G Rw ds) {x : Nat} (hx : w.heap.size ≤ x) : (x ≠ t ∧ x ≠ p) ∧ G x = none ∧ S.dropped.ownBlock ≠ some x := by
  have h1 := h.tm.lts t (by simp)
  have h2 := h.tm.lts p (by simp)
  refine ⟨⟨by omega, by omega⟩, ?_, fun e => ?_⟩
  · cases hg : G x with
    | none => rfl
    | some P => have := h.tm.mem.lt (a := x) (by rw [hg]; simp); omega
  · have := (h.drop.lt x e).2
    omega

set_option maxRecDepth 100000 in
set_option maxHeartbeats 6400000 in
theorem tm_put {w : World} {O : Nat → Prop} {t p b m sm rb : Nat} {s : St} {q : Pg} {Dn S : Stt} {D : Dk} {G : Gh} {Rw : Nat → Prop} {ds : List Nat} (h : TD w O t p b m sm rb s q Dn S D G Rw ds) {rt : Root?} (hR : RtAt G D S.root rt) (hOk : RootOk rt) (k v : ByteArray) (hk1 : 0 < k.size) (hk : k.size ≤ 48) (hv : v.size ≤ 120) (hl : S.fresh ≤ q.left s.n) (hks : S.keys ≤ 1000000) (hds : ds.length ≤ 30000) (hcnt : (pagesR rt).count 0 ≤ S.fresh) (hht : heightR rt ≤ 100) (ks : Nat) (hks2 : ks = S.keys + if (getK (flatR rt) k).isSome then 0 else 1) :
    Calls Tryz.prog 42 #[.pointer (some ⟨t, 0, none⟩), .string k, .string v] w fun e w' => e = .returned (.int .i64 0) ∧ ChOut w w' O t p b m sm rb s q Dn S D G Rw ds rt (putK (flatR rt) k v) ks := by
  have HKs := hide hks2
  have HC := hide (tdead_any t p b m sm rb s q Dn S h.tm.sd h.tm.qd w h.tm.pa h.tm.tr)
  have hk0 : k.toList.isEmpty = false := by rw [toList_empty]; exact decide_eq_false (by omega)
  have hlle := left_le q s.n
  have hfr : S.fresh ≤ 30000 := by omega
  have H := hide h
  have HR := hide hR
  have HOk := hide hOk
  have HB : Hid ((ds.length ≤ 30000 ∧ S.fresh ≤ 30000 ∧ heightR rt ≤ 100) ∧ (pagesR rt).count 0 ≤ S.fresh ∧ 0 < k.size ∧ k.size ≤ 48 ∧ v.size ≤ 120) := ⟨⟨hds, hfr, hht⟩, hcnt, hk1, hk, hv⟩
  have hpt := h.tm.off.p
  have HSame : Hid (∀ val, getK (flatR rt) k = some val → val = v → putK (flatR rt) k v = flatR rt) := fun val h1 h2 => putK_same hOk.rises (by rw [h1, h2])
  clear h hR hOk hds hcnt hht hks2
  go_enter Tryz.func42, Tryz.ntmps42
  go_wp2_with fail
  with_reducible refine HC.out.mono ?_
  rintro e w1 ⟨rfl, ⟨r, hA1⟩, hT1⟩
  obtain ⟨hD1, hS1⟩ := H.out.ask r hA1 hT1
  have H1 := hide hD1
  have HLf := hide (tleft_any t p b m sm rb s { q with rd := r } Dn S H.out.tm.sd hpt (by omega) w1 hA1 hD1.tm.tr)
  change Hid (Calls Tryz.prog 66 _ w1 fun e w' => e = .returned (.int .i64 ((q.left s.n : Nat) - (S.fresh : Nat) : Int)) ∧ PAt w' p b m sm rb s { q with rd := true } ∧ Turn [p] w1 w') at HLf
  generalize q.left s.n = lf at *
  have HS1 := hide hS1
  clear hA1 hT1 hD1 hS1
  go_wp2_with fail
  with_reducible refine HLf.out.mono ?_
  rintro e w2 ⟨rfl, hA2, hT2⟩
  obtain ⟨hD2, hS2⟩ := H1.out.ask true hA2 hT2
  have H2 : Hid (TD w2 O t p b m sm rb s { q with rd := true } Dn S D G Rw ds) := hD2
  have HS2 := hide (HS1.out.trans hS2)
  have h8 := hD2.tm.tr.now.c2
  have f8 := hD2.tm.tr.fz 8
  have hnl : ¬ ((lf : Int) - (S.fresh : Int) < 0) := by omega
  clear hA2 hT2 hD2 hS2
  go_wp2_with fail
  have hTs3 : Turn [t] w2 (w2.setCell ⟨t, 8, none⟩ (.bool true)) := (Turn.refl [t] w2).setCell (List.mem_singleton.2 rfl) 8 _
  obtain ⟨hD3, hG3⟩ := H2.out.stored hTs3 (H2.out.tm.tr.setChanged true) rfl
  have H3 : Hid (TD (w2.setCell ⟨t, 8, none⟩ (.bool true)) O t p b m sm rb s { q with rd := true } Dn { S with changed := true } D G Rw ds) := hD3
  have HG3 : Hid (TGo t p w (w2.setCell ⟨t, 8, none⟩ (.bool true)) G G Rw Rw S.dropped S.dropped) := (HS2.out.go S.dropped).trans hG3
  generalize w2.setCell ⟨t, 8, none⟩ (.bool true) = w3 at *
  clear hTs3 h8 f8 hD3 hG3
  have HGt := hide (tm_get (rt := rt) H3.out HR.out HOk.out k)
  rcases hg : getK (flatR rt) k with _ | val
  · rw [hg] at HGt
    change Hid (Calls Tryz.prog 54 _ w3 fun e w' => e = .returned (.tuple #[.string ⟨#[]⟩, .bool false]) ∧ _) at HGt
    have HGk := hide hg
    clear hg
    with_reducible refine HGt.out.mono ?_
    rintro e w4 ⟨rfl, G4, Rw4, r4, hD4, hG4, hS4⟩
    have H4 := hide hD4
    have HG4 := hide hG4
    have HGo4 := hide (HG3.out.trans (hS4.go S.dropped))
    have h7 := hD4.tm.tr.now.c1
    have f7 := hD4.tm.tr.fz 7
    clear hD4 hG4 hS4 HGt
    go_wp2_with fail
    have hTs5 : Turn [t] w4 (w4.setCell ⟨t, 7, none⟩ (.int .i64 ((S.keys : Int) + 1))) := (Turn.refl [t] w4).setCell (List.mem_singleton.2 rfl) 7 _
    have hTr5 := H4.out.tm.tr.setKeys (S.keys + 1)
    rw [show ((S.keys + 1 : Nat) : Int) = (S.keys : Int) + 1 by omega] at hTr5
    obtain ⟨hD5, hG5⟩ := H4.out.stored hTs5 hTr5 rfl
    have H5 : Hid (TD (w4.setCell ⟨t, 7, none⟩ (.int .i64 ((S.keys : Int) + 1))) O t p b m sm rb s { q with rd := r4 } Dn { S with changed := true, keys := S.keys + 1 } D G4 Rw4 ds) := hD5
    have HGo5 : Hid (TGo t p w (w4.setCell ⟨t, 7, none⟩ (.int .i64 ((S.keys : Int) + 1))) G G4 Rw Rw4 S.dropped S.dropped) := HGo4.out.trans hG5
    generalize w4.setCell ⟨t, 7, none⟩ (.int .i64 ((S.keys : Int) + 1)) = w5 at *
    clear hTs5 h7 f7 hTr5 hD5 hG5
    refine (sclone_any k w5 (by omega)).mono ?_
    rintro e w6 ⟨rfl, hT6⟩
    have H6 := hide (H5.out.quiet hT6)
    have HGo6 := hide (HGo5.out.quiet hT6)
    clear hT6
    go_wp2_with fail
    refine (sclone_any v w6 (by omega)).mono ?_
    rintro e w7 ⟨rfl, hT7⟩
    have hT78 : Turn [] w6 (w7.alloc (.cells #[.string k, .string v] 55)) := hT7.alloc _
    have H8 := hide (H6.out.quiet hT78)
    have HGo8 := hide (HGo6.out.quiet hT78)
    obtain ⟨n1, n2, n3⟩ := (H6.out.quiet hT7).newBlock (Nat.le_refl w7.heap.size)
    have HCe := hide (tm_edit_put (kb := w7.heap.size) H8.out (HR.out.grown HG4.out) HOk.out ⟨HB.out.2.2.1, HB.out.2.2.2.1⟩ HB.out.2.2.2.2 HB.out.1 HB.out.2.1 n1 n2 n3 (World.cell?_alloc_at _ _ _ _ rfl) (World.cell?_alloc_at _ _ _ _ rfl))
    have hmf : ∀ (fn : Fn) (first cap : Array Value) (w : World), (Instr.makeFunc fn first cap).run Tryz.prog w = .ok (.func fn first cap) w := fun _ _ _ _ => rfl
    clear hT7 hT78 n1 n2 n3
    go_wp2_with fail
    with_reducible refine HCe.out.mono ?_
    rintro e w9 ⟨rfl, hE⟩
    have HE := hide (chout_of HG4.out HGo8.out hE)
    clear hE
    go_wp2_with fail
    go_ret
    refine ⟨rfl, ?_⟩
    rw [HKs.out, HGk.out]
    exact HE.out
  · rw [hg] at HGt
    change Hid (Calls Tryz.prog 54 _ w3 fun e w' => e = .returned (.tuple #[.string val, .bool true]) ∧ _) at HGt
    have HGk := hide hg
    clear hg
    with_reducible refine HGt.out.mono ?_
    rintro e w4 ⟨rfl, G4, Rw4, r4, hD4, hG4, hS4⟩
    have H4 := hide hD4
    have HG4 := hide hG4
    have HGo4 := hide (HG3.out.trans (hS4.go S.dropped))
    clear hD4 hG4 hS4 HGt
    by_cases hvv : val = v
    · have hvb : (val.toList == v.toList) = true := by rw [eq_str]; exact decide_eq_true hvv
      have HVV := hide hvv
      clear hvv
      go_wp2_with fail
      go_ret
      refine ⟨rfl, ?_⟩
      rw [HSame.out val HGk.out HVV.out, HKs.out, HGk.out]
      exact chout_same HR.out HOk.out HG4.out HGo4.out H4.out
    · have hvb : (val.toList == v.toList) = false := by rw [eq_str]; exact decide_eq_false hvv
      have H5 : Hid (TD w4 O t p b m sm rb s { q with rd := r4 } Dn { S with changed := true, keys := S.keys } D G4 Rw4 ds) := H4.out
      clear hvv H4
      go_wp2_with fail
      refine (sclone_any k w4 (by omega)).mono ?_
      rintro e w6 ⟨rfl, hT6⟩
      have H6 := hide (H5.out.quiet hT6)
      have HGo6 := hide (HGo4.out.quiet hT6)
      clear hT6
      go_wp2_with fail
      refine (sclone_any v w6 (by omega)).mono ?_
      rintro e w7 ⟨rfl, hT7⟩
      have hT78 : Turn [] w6 (w7.alloc (.cells #[.string k, .string v] 55)) := hT7.alloc _
      have H8 := hide (H6.out.quiet hT78)
      have HGo8 := hide (HGo6.out.quiet hT78)
      obtain ⟨n1, n2, n3⟩ := (H6.out.quiet hT7).newBlock (Nat.le_refl w7.heap.size)
      have HCe := hide (tm_edit_put (kb := w7.heap.size) H8.out (HR.out.grown HG4.out) HOk.out ⟨HB.out.2.2.1, HB.out.2.2.2.1⟩ HB.out.2.2.2.2 HB.out.1 HB.out.2.1 n1 n2 n3 (World.cell?_alloc_at _ _ _ _ rfl) (World.cell?_alloc_at _ _ _ _ rfl))
      have hmf : ∀ (fn : Fn) (first cap : Array Value) (w : World), (Instr.makeFunc fn first cap).run Tryz.prog w = .ok (.func fn first cap) w := fun _ _ _ _ => rfl
      clear hT7 hT78 n1 n2 n3
      go_wp2_with fail
      with_reducible refine HCe.out.mono ?_
      rintro e w9 ⟨rfl, hE⟩
      have HE := hide (chout_of HG4.out HGo8.out hE)
      clear hE
      go_wp2_with fail
      go_ret
      refine ⟨rfl, ?_⟩
      rw [HKs.out, HGk.out]
      exact HE.out

end Go.Proofs.YthgpjkcgccdldaaGreatDoor

namespace Go.Proofs.YthgpjkcgccdldaaGreatDoor
open Go.RowKit Go.Maps

/-- The root's bytes. -/
def rootB (rt : Root?) : List Nat :=
  match rt with
  | none => []
  | some ⟨h, e⟩ => rootBytes (pageOf e) (h + 1) (flatN (kidsOf e)).length
/-- All of a tree is on the disk. -/
def RtDisk (D : Dk) (rt : Root?) : Prop := ∀ h e, rt = some ⟨h, e⟩ → OnDisk D h (pageOf e) (kidsOf e)

/-- A tree with all that it stands on, between calls: rd what is committed, rt what it has. -/
structure TG (w : World) (O : Nat → Prop) (t p b m sm rb : Nat) (s : St) (q : Pg) (Dn S : Stt) (D : Dk) (G : Gh) (Rw : Nat → Prop) (ds : List Nat) (rd rt : Root?) : Prop where
  td : TD w O t p b m sm rb s q Dn S D G Rw ds
  done : RtAt G D Dn.root rd
  now : RtAt G D S.root rt
  okd : RootOk rd
  ok : RootOk rt
  dkeys : Dn.keys = (flatR rd).length
  dch : Dn.changed = false
  dfr : Dn.fresh = 0
  ddr : Dn.dropped = .slice none 0 0
  keys : S.keys = (flatR rt).length
  fresh : S.fresh = (pagesR rt).count 0
  pages : ((pagesR rt).filter (fun x => decide (x ≠ 0)) ++ ds).Perm (pagesR rd)
  nodup : (pagesR rd).Nodup
  disk : RtDisk D rd
  sl : s.left < 0
  qu : q.u = 0
  qs : ∀ k, q.si k = 0
  qK : ∀ k, q.K k = true ↔ k ∈ pagesR rd
  root : q.root = rootB rd

theorem freed_same {x y : Nat} {q : Pg} (h : x ≠ y) : (q.freed x).si y = q.si y ∧ (q.freed x).K = q.K := by
  unfold Pg.freed
  split
  · exact ⟨by show setB q.si x 0 y = q.si y; unfold setB; rw [if_neg (Ne.symm h)], rfl⟩
  · exact ⟨by show setB q.si x 2 y = q.si y; unfold setB; rw [if_neg (Ne.symm h)], rfl⟩
theorem freed_K (q : Pg) (x : Nat) : (q.freed x).K = q.K := by unfold Pg.freed; split <;> rfl
theorem freed_root (q : Pg) (x : Nat) : (q.freed x).c = q.c := by unfold Pg.freed; split <;> rfl
theorem freeds_K (dr : List Nat) : ∀ (q : Pg), (dr.foldl Pg.freed q).K = q.K := by
  induction dr with
  | nil => intro q; rfl
  | cons x xs ih => intro q; rw [List.foldl_cons, ih, freed_K]
theorem freeds_si (dr : List Nat) : ∀ (q : Pg) (y : Nat), y ∉ dr → (dr.foldl Pg.freed q).si y = q.si y := by
  induction dr with
  | nil => intro q y _; rfl
  | cons x xs ih =>
    intro q y hy
    rw [List.mem_cons, not_or] at hy
    rw [List.foldl_cons, ih _ y hy.2, (freed_same (Ne.symm hy.1)).1]
theorem freeds_gone (dr : List Nat) : ∀ (q : Pg), dr.Nodup → (∀ x ∈ dr, q.si x = 0) → ∀ y ∈ dr, (dr.foldl Pg.freed q).si y = 2 := by
  induction dr with
  | nil => intro q _ _ y hy; cases hy
  | cons x xs ih =>
    intro q hn hs y hy
    obtain ⟨n1, n2⟩ := List.nodup_cons.1 hn
    rw [List.foldl_cons]
    rcases List.mem_cons.1 hy with rfl | hy
    · rw [freeds_si xs _ y n1]
      unfold Pg.freed
      rw [if_neg (by rw [hs y (List.mem_cons_self ..)]; omega)]
      show setB q.si y 2 y = 2
      unfold setB
      rw [if_pos rfl]
    · refine ih _ n2 (fun z hz => ?_) y hy
      rw [(freed_same (fun e => n1 (by rw [e]; exact hz))).1]
      exact hs z (List.mem_cons_of_mem _ hz)

/-- The disk has less, but all of a tree. -/
theorem Means.restrict {G : Gh} {D D' : Dk} : {h a pg : Nat} → {l : List (En h)} → Means G D h a l → (∃ P, G a = some P ∧ P.pg = pg) → OnDisk D h pg l → (∀ n ∈ pagesAt pg l, D' n = D n) → Means G D' h a l := by
  intro h
  induction h with
  | zero =>
    intro a pg l hm hp hd hk
    obtain ⟨P, h1, h2, h3, h4, h5⟩ := hm.out
    obtain ⟨P', g1, g2⟩ := hp
    obtain rfl : P = P' := by rw [h1] at g1; exact Option.some.inj g1
    rw [← g2] at hd hk
    exact Means.of P h1 h2 (fun _ => hd.keep hk) h4 h5
  | succ h ih =>
    intro a pg l hm hp hd hk
    obtain ⟨P, h1, h2, h3, h4, h5⟩ := hm.out
    obtain ⟨P', g1, g2⟩ := hp
    obtain rfl : P = P' := by rw [h1] at g1; exact Option.some.inj g1
    rw [← g2] at hd hk
    refine Means.of P h1 h2 (fun _ => hd.keep hk) h4 fun nd hn => ?_
    obtain ⟨ks, rfl, hb⟩ := h5 nd hn
    refine ⟨ks, rfl, hb.mono fun k _ x hx hkx => ?_⟩
    obtain ⟨k1, k2, k3⟩ := hkx
    refine ⟨k1, k2, ih k3 k2 (hd.below x hx) fun n hn2 => hk n (List.mem_cons_of_mem _ ?_)⟩
    rw [pagesN_succ]
    exact List.mem_flatMap.2 ⟨x, hx, hn2⟩

/-- A row of pages, cell by cell. -/
theorem drop_cells {w : World} {v : Value} {l : List Nat} (h : DropAt w v l) : ∃ da dc, v = .slice da l.length dc ∧ ∀ i (hi : i < l.length), ∃ g, da = some ⟨g, 0, none⟩ ∧ w.cell? ⟨g, 0 + i, none⟩ = some (.int .i64 (l[i] : Nat)) ∧ v.ownBlock = some g := by
  obtain ⟨_, ⟨h1, h2⟩ | ⟨g, cap, cur, rfl, hb, hg, hnc, hm, hsz, htk⟩⟩ := h
  · have hl : l = [] := List.eq_nil_of_length_eq_zero (by omega)
    subst hl
    exact ⟨none, 0, h1, fun i hi => by cases hi⟩
  · refine ⟨some ⟨g, 0, none⟩, cap, rfl, fun i hi => ⟨g, rfl, ?_, rfl⟩⟩
    have h1 : cur.toList[i]? = some (.int .i64 (l[i] : Nat)) := by
      have := congrArg (fun l : List Value => l[i]?) htk
      unfold pgV at this
      rw [List.getElem?_take] at this
      simp [hi] at this
      simpa using this
    unfold World.cell?
    simp only [hg]
    simpa using h1

/-- Nothing of O has turned, nor the table. -/
def KeepO (O : Nat → Prop) (w w' : World) : Prop := ∃ X, Turn X w w' ∧ ∀ x ∈ X, ¬ O x ∧ x ≠ 1
theorem KeepO.refl (O : Nat → Prop) (w : World) : KeepO O w w := ⟨[], Turn.refl _ _, by simp⟩
theorem KeepO.trans {O : Nat → Prop} {u v w : World} (h : KeepO O u v) (k : KeepO O v w) : KeepO O u w := by
  obtain ⟨X, h1, h2⟩ := h
  obtain ⟨Y, k1, k2⟩ := k
  refine ⟨X ++ Y, (h1.mono (by intro x hx; simp [hx])).trans (k1.mono (by intro x hx; simp [hx])), fun x hx => ?_⟩
  rcases List.mem_append.1 hx with h | h
  · exact h2 x h
  · exact k2 x h
theorem KeepO.size {O : Nat → Prop} {w w' : World} (h : KeepO O w w') : w.heap.size ≤ w'.heap.size := by obtain ⟨_, h, _⟩ := h; exact h.size
theorem KeepO.of0 {O : Nat → Prop} {w w' : World} (h : Turn [] w w') : KeepO O w w' := ⟨[], h, by simp⟩
theorem TGo.keepO {w w' : World} {O : Nat → Prop} {t p b m sm rb : Nat} {s : St} {q : Pg} {Dn S : Stt} {D : Dk} {G G' : Gh} {Rw Rw' : Nat → Prop} {ds : List Nat} {dv' : Value} (hg : TGo t p w w' G G' Rw Rw' S.dropped dv') (h : TD w O t p b m sm rb s q Dn S D G Rw ds) : KeepO O w w' := by
  obtain ⟨X, hT, hX⟩ := hg.turn
  refine ⟨X, hT, fun x hx => ?_⟩
  rcases hX x hx with rfl | rfl | e | e
  · exact ⟨h.tm.no _ (by simp), h.tm.off.one⟩
  · exact ⟨h.tm.no _ (by simp), by have := h.tm.pa.pos; omega⟩
  · have := h.tm.own x (.inl e)
    exact ⟨this.2, (not7 this.1).1⟩
  · have := h.far x e
    exact ⟨this.2.1, (not7 this.1).1⟩

/-- How high a tree can be. -/
theorem RootOk.height {rt : Root?} (h : RootOk rt) (hk : (flatR rt).length ≤ 1000000) : heightR rt ≤ 20 := by
  rcases h.low with ⟨h1, _⟩ | ⟨h1, h2⟩
  · omega
  · refine Classical.byContradiction fun hc => ?_
    have : 2 ^ 20 ≤ 2 ^ (heightR rt - 1) := Nat.pow_le_pow_right (by omega) (by omega)
    omega

end Go.Proofs.YthgpjkcgccdldaaGreatDoor

namespace Go.Proofs.YthgpjkcgccdldaaGreatDoor
open Go.RowKit Go.Maps

/-- What write leaves of the root. -/
structure WrR (w3 : World) (O : Nat → Prop) (t p b m sm rb : Nat) (s : St) (q : Pg) (Dn S : Stt) (D : Dk) (G : Gh) (Rw : Nat → Prop) (ds : List Nat) (rt : Root?) (s3 : St) (q3 : Pg) (rt' : Root?) (D' : Dk) (G' : Gh) (ns : List Nat) : Prop where
  at_ : RtAt G' D' S.root rt'
  ok : RootOk rt'
  flat : flatR rt' = flatR rt
  ht : heightR rt' = heightR rt
  disk : RtDisk D' rt'
  more : ∀ n x, D n = some x → D' n = some x
  pages : (pagesR rt').Perm ((pagesR rt).filter (fun x => decide (x ≠ 0)) ++ ns)
  cnt : ns.length = (pagesR rt).count 0
  als : Als s.n q ns q3
  k : s3.k = s.k + ns.length
  n : s3.n = s.n
  left : s3.left < 0
  tm : TM w3 O t p b m sm rb s3 q3 Dn S D' G' Rw
  drop : DropAt w3 S.dropped ds
  newG : ∀ x, G x = none → G' x = none

theorem pagesR_some {h : Nat} (e : En (h + 1)) : pagesR (some ⟨h, e⟩) = pagesAt (pageOf e) (kidsOf e) := rfl

theorem tm_write_root {w2 : World} {O : Nat → Prop} {t p b m sm rb : Nat} {s : St} {q : Pg} {Dn S : Stt} {D : Dk} {G : Gh} {Rw : Nat → Prop} {ds : List Nat} (h : TD w2 O t p b m sm rb s q Dn S D G Rw ds) {rt : Root?} (hR : RtAt G D S.root rt) (hOk : RootOk rt) (hkeys : (flatR rt).length ≤ 1000000) (hroom : (pagesR rt).count 0 ≤ q.left s.n) (hu : q.u + (pagesR rt).count 0 ≤ 900000) (hk : s.k + (pagesR rt).count 0 ≤ 900000) (hl : s.left < 0) :
    Calls Tryz.prog 101 #[.pointer (some ⟨t, 0, none⟩), rootV S.root] w2 fun e w3 => e = .returned (.int .i64 0) ∧ ∃ s3 q3 rt' D' G' ns, WrR w3 O t p b m sm rb s q Dn S D G Rw ds rt s3 q3 rt' D' G' ns ∧ ∃ X, Turn X w2 w3 ∧ ∀ x ∈ X, x = p ∨ x = b ∨ x = m ∨ x = sm ∨ G x ≠ none := by
  cases rt with
  | none =>
    have hr := rtat_none hR
    rw [hr]
    refine (write_nil t w2).mono ?_
    rintro e w3 ⟨rfl, rfl⟩
    exact ⟨rfl, s, q, none, D, G, [], ⟨by rw [hr]; trivial, hOk, rfl, rfl, (fun _ _ h1 => by cases h1), fun _ _ h => h, List.Perm.refl _, rfl, rfl, rfl, rfl, hl, h.tm, h.drop, fun _ h => h⟩, [], Turn.refl _ _, by simp⟩
  | some x =>
    obtain ⟨hh, e⟩ := x
    obtain ⟨a, P, hro, hP, hpg, hm⟩ := rtat_some hR
    obtain ⟨h1, h2, h3⟩ := hOk hh e rfl
    obtain ⟨_, f2, f3, f4⟩ := full_at h3
    have hht := hOk.height hkeys
    have e1 : heightR (some ⟨hh, e⟩) = hh + 1 := rfl
    rw [e1] at hht
    rw [pagesR_some] at hroom hu hk
    have hw : WIn s q (kidsOf e) P.pg := by
      rw [hpg]
      exact ⟨f4, Nat.lt_of_lt_of_le (by cases hh <;> simp [minN]) f2, f3, hOk.rises, by omega, hroom, hu, hk, hl⟩
    rw [hro]
    refine (tm_write hh w2 s q D G a (kidsOf e) P h.tm hm hP hw).mono ?_
    rintro e' w3 ⟨rfl, ho⟩
    rw [hpg] at ho
    obtain ⟨l', pg', ns, s3, q3, D', G', o1, o2, ⟨P', o3, o3'⟩, o4, o5, o6, o7, o8, o9, o10, o11, o12, o13, X, hX, hX1⟩ := ho.ex
    obtain ⟨e2, he2⟩ : ∃ e2 : En (hh + 1), e2 = ((e.key, pg', l') : ByteArray × Nat × List (En hh)) := ⟨_, rfl⟩
    have ek : e2.key = e.key := by rw [he2]; rfl
    have ep : pageOf e2 = pg' := by rw [he2]; rfl
    have ed : kidsOf e2 = l' := by rw [he2]; rfl
    have hlike : LikeE (hh + 1) e e2 := ⟨ek.symm, by rw [ed]; exact o1⟩
    refine ⟨rfl, s3, q3, some ⟨hh, e2⟩, D', G', ns, ⟨?_, fun h' e' he => ?_, ?_, rfl, fun h' e' he => ?_, o6, ?_, ?_, o9, o10, o11, o12, o13, ?_, fun x hx => o5.none_ x hx⟩, X, hX, hX1⟩
    · rw [hro]
      exact ⟨⟨P', o3, by rw [ep]; exact o3'⟩, by rw [ed]; exact o2⟩
    · cases he
      exact ⟨ek.trans h1, hlike.ord h2, hlike.full h3⟩
    · show flatN (kidsOf e2) = flatN (kidsOf e)
      rw [ed]
      exact (LikeN.flat o1).symm
    · cases he
      rw [ep, ed]
      exact o4
    · rw [pagesR_some, pagesR_some, ep, ed]
      exact o7
    · rw [pagesR_some]
      exact o8
    · refine own_turn h.drop hX fun g hg hm => ?_
      obtain ⟨g1, _, g3, _⟩ := h.far g hg
      have := not7 g1
      rcases hX1 g hm with e | e | e | e | e
      · exact this.2.1 e
      · exact this.2.2.1 e
      · exact this.2.2.2.1 e
      · exact this.2.2.2.2.1 e
      · exact e g3

/-- What a Commit leaves. -/
theorem tg_of_commit {w w3 w' : World} {O : Nat → Prop} {t p b m sm rb sm' rb' : Nat} {s s3 s' : St} {q q3 : Pg} {Dn S : Stt} {D D' : Dk} {G G' : Gh} {Rw : Nat → Prop} {ds ns : List Nat} {rd rt rt' : Root?} (h : TG w O t p b m sm rb s q Dn S D G Rw ds rd rt) (hW : WrR w3 O t p b m sm rb s { q with rd := true } Dn S D G Rw ds rt s3 q3 rt' D' G' ns) (hsd : s'.dead = false) (hn : s'.n = s.n) (hl : s'.left < 0) (hf : ∀ k, fp s.n ≤ k → s'.f k = s3.f k) (hsm : w.heap.size ≤ sm') (hrb : w.heap.size ≤ rb') (hrl : rb' < w'.heap.size) (hTr : TreeAt w' t p ⟨S.root, S.keys, false, 0, .slice none 0 0⟩ ⟨S.root, S.keys, false, 0, .slice none 0 0⟩) (hA : PAt w' p b m sm' rb' s' ((ds.foldl Pg.freed q3).committed (rootB rt'))) (hT : Turn [t, p, b, m, sm] w3 w') (hs3 : w.heap.size ≤ w3.heap.size) :
    ∃ D2, TG w' O t p b m sm' rb' s' ((ds.foldl Pg.freed q3).committed (rootB rt')) ⟨S.root, S.keys, false, 0, .slice none 0 0⟩ ⟨S.root, S.keys, false, 0, .slice none 0 0⟩ D2 G' Rw [] rt' rt' := by
  have hA3 := hW.als.is
  have hsi3 : ∀ x, x ∉ ns → q3.si x = 0 := fun x hx => (hA3.old x hx).trans (h.qs x)
  have hnd := h.pages.nodup_iff.2 h.nodup
  obtain ⟨nd1, nd2, nd3⟩ := List.nodup_append.1 hnd
  have hnew : ∀ x ∈ ns, x ∉ pagesR rd := fun x hx hm => by
    have h1 := (hA3.new x hx).2.2.2.1
    have h2 := (h.qK x).2 hm
    rw [show ({ q with rd := true } : Pg).K x = q.K x from rfl, h2] at h1
    cases h1
  have hold : ∀ x, x ∈ (pagesR rt).filter (fun x => decide (x ≠ 0)) ++ ds ↔ x ∈ pagesR rd := fun x => h.pages.mem_iff
  have hdn : ∀ x ∈ ds, x ∉ ns := fun x hx hm => hnew x hm ((hold x).1 (List.mem_append_right _ hx))
  have hrt : ∀ x, x ∈ pagesR rt' ↔ x ∈ (pagesR rt).filter (fun x => decide (x ≠ 0)) ∨ x ∈ ns := fun x => by rw [hW.pages.mem_iff, List.mem_append]
  have hdr : ∀ x ∈ pagesR rt', x ∉ ds := fun x hx hm => by
    rcases (hrt x).1 hx with h1 | h1
    · exact nd3 x h1 x hm rfl
    · exact hdn x hm h1
  have hK : ∀ x, (ds.foldl Pg.freed q3).there x = true ↔ x ∈ pagesR rt' := fun x => by
    by_cases hx : x ∈ ds
    · have h1 := freeds_gone ds q3 nd2 (fun y hy => hsi3 y (hdn y hy)) x hx
      unfold Pg.there
      rw [h1]
      simp
      exact fun h2 => hdr x h2 hx
    · have e : (ds.foldl Pg.freed q3).there x = q3.there x := by
        unfold Pg.there
        rw [freeds_K, freeds_si ds q3 x hx]
      rw [e, hrt]
      by_cases hm : x ∈ ns
      · exact ⟨fun _ => .inr hm, fun _ => (hA3.there_new hm).1⟩
      · rw [hA3.there_old hm]
        have e2 : ({ q with rd := true } : Pg).there x = q.K x := by
          unfold Pg.there
          rw [show ({ q with rd := true } : Pg).si x = q.si x from rfl, h.qs x]
          simp
        rw [e2, h.qK x, ← hold x, List.mem_append]
        exact ⟨fun h => h.elim .inl (fun h => absurd h hx), fun h => h.elim .inl (fun h => absurd h hm)⟩
  have hthere : ∀ x ∈ pagesR rt', (ds.foldl Pg.freed q3).there x = q3.there x := fun x hx => by
    unfold Pg.there
    rw [freeds_K, freeds_si ds q3 x (hdr x hx)]
  have hndr : (pagesR rt').Nodup := by
    rw [hW.pages.nodup_iff, List.nodup_append]
    refine ⟨nd1, hA3.nodup, fun x hx y hy e => ?_⟩
    rw [← e] at hy
    exact hnew x hy ((hold x).1 (List.mem_append_left _ hx))
  obtain ⟨D2, hD2⟩ : ∃ D2 : Dk, D2 = fun n => if n ∈ pagesR rt' then D' n else none := ⟨_, rfl⟩
  have hDi : ∀ n ∈ pagesR rt', D2 n = D' n := fun n hn => by rw [hD2]; exact if_pos hn
  have hdisk : RtDisk D2 rt' := fun h' e he => (hW.disk h' e he).keep fun n hn => hDi n (by rw [he, pagesR_some]; exact hn)
  have hat : RtAt G' D2 S.root rt' := by
    cases hr : rt' with
    | none =>
      have := hW.at_
      rw [hr] at this
      rw [rtat_none this]
      trivial
    | some x =>
      obtain ⟨hh, e⟩ := x
      have := hW.at_
      rw [hr] at this
      obtain ⟨a, P, hro, hP, hpg, hm⟩ := rtat_some this
      rw [hro]
      exact ⟨⟨P, hP, hpg⟩, hm.restrict ⟨P, hP, hpg⟩ (hW.disk hh e hr) fun n hn => hDi n (by rw [hr, pagesR_some]; exact hn)⟩
  have hcount : (pagesR rt').count 0 = 0 ∧ (pagesR rt').filter (fun x => decide (x ≠ 0)) = pagesR rt' := by
    cases hr : rt' with
    | none => exact ⟨rfl, rfl⟩
    | some x =>
      obtain ⟨hh, e⟩ := x
      exact ondisk_count (hW.disk hh e hr)
  have hlt := h.td.tm.lts
  have hGlt : ∀ x, (G' x ≠ none ∨ Rw x) → (G x ≠ none ∨ Rw x) := fun x hx => hx.imp (fun h1 h2 => h1 (hW.newG x h2)) id
  have hxlt : ∀ x, (G x ≠ none ∨ Rw x) → x < w.heap.size := fun x hx => hx.elim h.td.tm.mem.lt (h.td.tm.mem.rows x)
  have hoff := h.td.tm.off
  have e1 := hlt 1 (by simp)
  have e2 := hlt t (by simp)
  have e3 := hlt p (by simp)
  have e4 := hlt b (by simp)
  have e5 := hlt m (by simp)
  have hsz := hT.size
  have hkl : S.keys = (flatR rt').length := by rw [hW.flat]; exact h.keys
  refine ⟨D2, ⟨⟨⟨hA, hTr, ⟨hoff.one, hoff.p, hoff.b, hoff.m, by omega, by omega⟩, hrl, hsd, ?_, ?_, ⟨fun pg h' l' hD => ?_⟩, fun x hx => ?_, fun x hx ho => ?_, fun x hx => Nat.lt_of_lt_of_le (h.td.tm.ob x hx) (Nat.le_trans hs3 hsz)⟩, ?_, fun g hg => by cases hg⟩, hat, hat, hW.ok, hW.ok, hkl, rfl, rfl, rfl, hkl, hcount.1.symm, ?_, hndr, hdisk, hl, rfl, fun _ => rfl, hK, rfl⟩⟩
  · show (ds.foldl Pg.freed q3).dead = false
    rw [freeds_dead]
    exact hW.tm.qd
  · refine hW.tm.mem.turn hT fun x hx => ?_
    have hx7 : x ∈ [1, t, p, b, m, sm, rb] := by simp at hx ⊢; omega
    refine ⟨?_, fun hr => (hW.tm.own x (.inr hr)).1 hx7⟩
    cases hg : G' x with
    | none => rfl
    | some P => exact absurd hx7 (hW.tm.own x (.inl (by rw [hg]; simp))).1
  · have hm : pg ∈ pagesR rt' := by
      refine Classical.byContradiction fun hc => ?_
      rw [hD2] at hD
      simp [hc] at hD
    rw [hDi pg hm] at hD
    obtain ⟨g1, g2, g3⟩ := hW.tm.dk.at_ pg h' l' hD
    obtain ⟨n, e, r1, r2, r3⟩ := Pg.there_range g1
    obtain rfl : pg = n := by omega
    rw [hW.n] at r1
    have r1' := r1
    rw [← hn] at r1'
    refine ⟨?_, (hf pg (by omega)).trans g2, g3⟩
    unfold Pg.thereI
    rw [Int.toNat_natCast]
    have hKm : ((ds.foldl Pg.freed q3).committed (rootB rt')).there pg = true := by
      show ((ds.foldl Pg.freed q3).there pg || (0 == 1)) && !(0 == 2) = true
      rw [(hK pg).2 hm]
      rfl
    rw [hKm]
    rw [hW.n] at r2
    simp
    omega
  · obtain ⟨g1, g2⟩ := h.td.tm.own x (hGlt x hx)
    have := hxlt x (hGlt x hx)
    refine ⟨fun hm => ?_, g2⟩
    simp at hm g1
    omega
  · have hno : x < w.heap.size := h.td.tm.ob x ho
    refine h.td.tm.no x ?_ ho
    simp at hx ⊢
    omega
  · exact World.ownsRow_nil _ _ _ _
  · rw [hcount.2, List.append_nil]

end Go.Proofs.YthgpjkcgccdldaaGreatDoor

namespace Go.Proofs.YthgpjkcgccdldaaGreatDoor
open Go.RowKit Go.Maps

theorem pages_row {h : Nat} (hE : ∀ e : En (h + 1), FullE e → (pagesAt (pageOf e) (kidsOf e)).length + 1 ≤ 2 * (flatN (kidsOf e)).length) : ∀ {l : List (En (h + 1))}, (∀ e ∈ l, FullE e) → (pagesN l).length + l.length ≤ 2 * (flatN l).length
  | [], _ => by simp [pagesN, flatN]
  | e :: l, hf => by
    have h1 := hE e (hf e (List.mem_cons_self ..))
    have h2 := pages_row hE (l := l) fun x hx => hf x (List.mem_cons_of_mem _ hx)
    have e1 : pagesN (e :: l) = pagesAt (pageOf e) (kidsOf e) ++ pagesN l := rfl
    have e2 : flatN (e :: l) = flatN (kidsOf e) ++ flatN l := rfl
    rw [e1, e2, List.length_append, List.length_append, List.length_cons]
    omega
theorem pages_len : ∀ {h : Nat} (e : En (h + 1)), FullE e → (pagesAt (pageOf e) (kidsOf e)).length + 1 ≤ 2 * (flatN (kidsOf e)).length
  | 0, e, hf => by
    obtain ⟨_, f2, _, _⟩ := full_at hf
    have e1 : pagesN (kidsOf e) = [] := by
      generalize kidsOf e = l
      induction l with
      | nil => rfl
      | cons x l ih => exact ih
    have e2 : (flatN (kidsOf e)).length = (kidsOf e).length := by rw [flatN_zero]; rfl
    have f2' : 1 ≤ (kidsOf e).length := f2
    unfold pagesAt
    rw [List.length_cons, e1, e2]
    simp
    omega
  | h + 1, e, hf => by
    obtain ⟨_, f2, _, f4⟩ := full_at hf
    have f2' : 2 ≤ (kidsOf e).length := f2
    have := pages_row (fun e => pages_len e) f4
    unfold pagesAt
    rw [List.length_cons]
    omega
theorem RootOk.pages {rt : Root?} (h : RootOk rt) : (pagesR rt).length ≤ 2 * (flatR rt).length := by
  cases rt with
  | none => exact Nat.zero_le _
  | some x =>
    obtain ⟨hh, e⟩ := x
    have := pages_len e (h hh e rfl).2.2
    rw [pagesR_some]
    show _ ≤ 2 * (flatN (kidsOf e)).length
    omega
theorem count_le (l : List Nat) : l.count 0 ≤ l.length := List.count_le_length

theorem rootB_lt {rt : Root?} {D : Dk} {s : St} {q : Pg} (hD : DkOk s q D) (hn : s.n ≤ 16384) (hd : RtDisk D rt) (hh : heightR rt ≤ 20) (hk : (flatR rt).length ≤ 1000000) : (rootB rt).length ≤ 64 ∧ ∀ x ∈ rootB rt, x < 256 := by
  cases rt with
  | none => exact ⟨by simp [rootB], by simp [rootB]⟩
  | some x =>
    obtain ⟨h, e⟩ := x
    have h1 := hD.pages (hd h e rfl)
    have h2 : h + 1 ≤ 20 := hh
    have h3 : (flatN (kidsOf e)).length ≤ 1000000 := hk
    refine ⟨by simp [rootB, rootBytes, be4], fun x hx => ?_⟩
    unfold rootB rootBytes at hx
    rcases List.mem_append.1 hx with h | h
    · rcases List.mem_append.1 h with h | h
      · exact be4_lt _ (by omega) x h
      · rw [List.mem_singleton.1 h]
        omega
    · exact be4_lt _ (by omega) x h

/-- What is asked of the writes of a tree, ahead of what is let go. -/
theorem wrote_of {w w3 : World} {O : Nat → Prop} {t p b m sm rb : Nat} {s s3 : St} {q q3 : Pg} {Dn S : Stt} {D D' : Dk} {G G' : Gh} {Rw : Nat → Prop} {ds ns : List Nat} {rd rt rt' : Root?} (h : TG w O t p b m sm rb s q Dn S D G Rw ds rd rt) (hW : WrR w3 O t p b m sm rb s { q with rd := true } Dn S D G Rw ds rt s3 q3 rt' D' G' ns) (_hch : S.changed = true) (hkeys : (flatR rt).length ≤ 100000) (hkd : (flatR rd).length ≤ 100000) (hk : s.k ≤ 600000) (hfar : ∀ g, S.dropped.ownBlock = some g → g ≠ p ∧ g ≠ sm) {da : Option Addr} {dc : Nat} (hdr : S.dropped = .slice da ds.length dc) : Wrote w3 p sm s.n s3 q3 (rootB rt') ds da S := by
  have hA3 := hW.als.is
  have hnd := h.pages.nodup_iff.2 h.nodup
  obtain ⟨nd1, nd2, nd3⟩ := List.nodup_append.1 hnd
  have hp1 := h.ok.pages
  have hp2 := h.okd.pages
  have hdl : ds.length ≤ 200000 := by
    have := h.pages.length_eq
    rw [List.length_append] at this
    omega
  have hnl : ns.length ≤ 200000 := by
    rw [hW.cnt]
    have := count_le (pagesR rt)
    omega
  have hht := hW.ok.height (by rw [hW.flat]; omega)
  have hn16 := hW.tm.pa.laid.n16
  obtain ⟨r1, r2⟩ := rootB_lt hW.tm.dk (by omega) hW.disk hht (by rw [hW.flat]; omega)
  refine ⟨hW.tm.sd, hW.tm.qd, by have := hW.k; omega, hW.left, hW.n, r1, r2, ?_, fun i hi => ?_, fun i hi => ?_, fun w4 hT4 => ?_⟩
  · have := hA3.u
    rw [show ({ q with rd := true } : Pg).u = q.u from rfl, h.qu] at this
    omega
  · obtain ⟨da', dc', e, hc⟩ := drop_cells hW.drop
    obtain ⟨g, g1, g2, g3⟩ := hc i hi
    rw [hdr] at e
    injection e with e1 e2 e3
    refine ⟨g, 0, by rw [e1]; exact g1, g2, hfar g g3⟩
  · have hx : ds[i] ∈ ds := List.getElem_mem hi
    have hxr : ds[i] ∈ pagesR rd := h.pages.mem_iff.1 (List.mem_append_right _ hx)
    have hKx := (h.qK _).2 hxr
    obtain ⟨k1, k2⟩ := h.td.tm.pa.laid.kr _ hKx
    have hns : ds[i] ∉ ns := fun hm => by
      have := (hA3.new _ hm).2.2.2.1
      rw [show ({ q with rd := true } : Pg).K ds[i] = q.K ds[i] from rfl, hKx] at this
      cases this
    have hnt : ds[i] ∉ ds.take i := fun hm => by
      obtain ⟨j, hj, e⟩ := List.mem_take_iff_getElem.1 hm
      have hp := List.pairwise_iff_getElem.1 nd2 j i (by omega) hi (by omega)
      exact hp e
    unfold Pg.thereI
    rw [Int.toNat_natCast]
    have ht : ((ds.take i).foldl Pg.freed q3).there ds[i] = true := by
      unfold Pg.there
      rw [freeds_K, freeds_si _ _ _ hnt, hA3.K, hA3.old _ hns, show ({ q with rd := true } : Pg).K ds[i] = q.K ds[i] from rfl, show ({ q with rd := true } : Pg).si ds[i] = q.si ds[i] from rfl, hKx, h.qs]
      rfl
    rw [ht]
    simp
    omega
  · have hone : S.dropped.oneCell' = true := by rw [hdr]; rfl
    have hka : S.keys = (flatR rt').length := by rw [hW.flat]; exact h.keys
    have hkb : S.keys ≤ 1000000 := by rw [h.keys]; omega
    cases hr : rt' with
    | none =>
      have hat := hW.at_
      rw [hr] at hat
      rw [rtat_none hat]
      refine (bytes_none S.keys _ _ _ rfl rfl hone w4).mono ?_
      rintro e w' ⟨rfl, hT⟩
      exact ⟨none, 0, rfl, fun _ => rfl, .inl rfl, by simp, hT⟩
    | some x =>
      obtain ⟨hh, e⟩ := x
      have hat := hW.at_
      rw [hr] at hat hht hka
      obtain ⟨a, P, hro, hP, hpg, hm⟩ := rtat_some hat
      obtain ⟨P', h1, hlv, _⟩ := hm.out
      obtain rfl : P = P' := by rw [hP] at h1; exact Option.some.inj h1
      have hna := not7 (hW.tm.own a (.inl (by rw [hP]; simp))).1
      have hcell : ∀ o v, w3.cell? ⟨a, o, none⟩ = some v → w4.cell? ⟨a, o, none⟩ = some v := fun o v hc => (hT4.cb (lt_of_cell hc) (by simp; exact ⟨hna.2.1, hna.2.2.2.2.1⟩)).trans hc
      have hpl : w3.cell? ⟨a, 0, none⟩ = some (.int .i64 (pageOf e : Nat)) ∧ w3.cell? ⟨a, 1, none⟩ = some (.int .i64 ((hh + 1 : Nat) : Int)) := by
        have := hW.tm.mem.at_ a P hP
        rw [← hpg, ← hlv]
        unfold PlOk at this
        split at this
        · exact ⟨this.c0, this.c1⟩
        · obtain ⟨_, _, _, _, hp, _⟩ := this
          exact ⟨hp.c0, hp.c1⟩
      rw [hro]
      have h20 : hh + 1 ≤ 20 := hht
      have hpn := hW.tm.dk.pages (hW.disk hh e hr)
      refine (bytes_some a (pageOf e) (hh + 1) S.keys _ _ _ rfl rfl hone (by omega) (by omega) hkb w4 (hcell 0 _ hpl.1) (hcell 1 _ hpl.2)).mono ?_
      rintro e' w' ⟨v, rfl, hO, hT⟩
      obtain ⟨a2, c2, rfl, hn0, hB, hx⟩ := OwnB.bytes hO
      have ek : rootBytes (pageOf e) (hh + 1) S.keys = rootB (some ⟨hh, e⟩) := by rw [hka]; rfl
      rw [ek] at hB
      exact ⟨a2, c2, by rw [ek], hn0, hB, fun x hx' => (hx x hx').1, hT⟩

set_option maxRecDepth 100000 in
theorem tg_commit {w : World} {O : Nat → Prop} {t p b m sm rb : Nat} {s : St} {q : Pg} {Dn S : Stt} {D : Dk} {G : Gh} {Rw : Nat → Prop} {ds : List Nat} {rd rt : Root?} (h : TG w O t p b m sm rb s q Dn S D G Rw ds rd rt) (hch : S.changed = true) (hroom : S.fresh ≤ q.left s.n) (hkeys : (flatR rt).length ≤ 40000) (hkd : (flatR rd).length ≤ 40000) (hk : s.k ≤ 600000) :
    Calls Tryz.prog 72 #[.pointer (some ⟨t, 0, none⟩)] w fun e w' => e = .returned (.int .i64 0) ∧ ∃ sm' rb' s' q' D' G' rt', TG w' O t p b m sm' rb' s' q' ⟨S.root, S.keys, false, 0, .slice none 0 0⟩ ⟨S.root, S.keys, false, 0, .slice none 0 0⟩ D' G' Rw [] rt' rt' ∧ flatR rt' = flatR rt ∧ heightR rt' = heightR rt ∧ s'.k = s.k + S.fresh + mbs s.n + 1 ∧ s'.n = s.n ∧ q'.c = q.c + 1 ∧ KeepO O w w' := by
  have hlle := left_le q s.n
  obtain ⟨da, dc, hdr, _⟩ := drop_cells h.td.drop
  have hp2 := h.okd.pages
  have hp1 := h.ok.pages
  have hcl := count_le (pagesR rt)
  have hdl : ds.length ≤ 100000 := by
    have := h.pages.length_eq
    rw [List.length_append] at this
    omega
  have hGt : ∀ x ∈ [1, t, p, b, m, sm, rb], G x = none ∧ ¬ Rw x := fun x hx => by
    refine ⟨?_, fun hr => (h.td.tm.own x (.inr hr)).1 hx⟩
    cases hg : G x with
    | none => rfl
    | some P => exact absurd hx (h.td.tm.own x (.inl (by rw [hg]; simp))).1
  have hfar : ∀ g, S.dropped.ownBlock = some g → g ≠ p ∧ g ≠ sm := fun g hg => by
    have := not7 (h.td.far g hg).1
    exact ⟨this.2.1, this.2.2.2.2.1⟩
  have hfk : S.fresh ≤ 80000 := by rw [h.fresh]; omega
  have hks : S.keys ≤ 1000000 := by rw [h.keys]; omega
  refine (commit_genF t p b m sm rb s q Dn S h.td.tm.sd h.td.tm.qd h.td.tm.off (by omega) hks hroom hch ([p, b, m, sm] ++ (List.range w.heap.size).filter (fun x => (G x).isSome)) ds da dc hdl hdr (fun hm => ?_) (fun w3 s3 q3 root => ∃ rt' D' G' ns, WrR w3 O t p b m sm rb s { q with rd := true } Dn S D G Rw ds rt s3 q3 rt' D' G' ns ∧ root = rootB rt') w h.td.tm.rbl h.td.tm.pa h.td.tm.tr (fun w2 hA2 hT2 hT => ?_)).mono ?_
  · rcases List.mem_append.1 hm with hm | hm
    · have := h.td.tm.off
      simp at hm
      rcases hm with e | e | e | e
      · exact this.p e
      · exact this.b e
      · exact this.m e
      · exact this.sm e
    · have := (List.mem_filter.1 hm).2
      rw [(hGt t (by simp)).1] at this
      cases this
  · obtain ⟨hD2, hS2⟩ := h.td.ask true hA2 hT
    refine (tm_write_root hD2 h.now h.ok (by omega) (by rw [← h.fresh]; exact hroom) (by show q.u + _ ≤ _; rw [h.qu]; omega) (by omega) h.sl).mono ?_
    rintro e w3 ⟨rfl, s3, q3, rt', D', G', ns, hW, X, hX, hX1⟩
    refine ⟨rfl, s3, q3, rootB rt', wrote_of h hW hch (by omega) (by omega) hk hfar hdr, ⟨rt', D', G', ns, hW, rfl⟩, hW.tm.tr, hW.tm.pa, hX.mono fun x hx => ?_⟩
    rcases hX1 x hx with e | e | e | e | e
    · simp [e]
    · simp [e]
    · simp [e]
    · simp [e]
    · refine List.mem_append_right _ (List.mem_filter.2 ⟨List.mem_range.2 (h.td.tm.mem.lt e), ?_⟩)
      exact Option.isSome_iff_ne_none.2 e
  · rintro e w' ⟨rfl, w3, s3, q3, root, s', sm', rb', ⟨rt', D', G', ns, hW, rfl⟩, k1, k2, k3, k4, k5, k6, k7, k8, k9, k10, k11, k12, k13⟩
    obtain ⟨D2, hTG⟩ := tg_of_commit h hW k2 k3 k5 k6 k7 k8 k9 k10 k11 k12 k1
    refine ⟨rfl, sm', rb', s', _, D2, G', rt', hTG, hW.flat, hW.ht, ?_, k3, ?_, _, k13, fun x hx => ?_⟩
    · rw [k4, hW.k, hW.cnt, ← h.fresh]
    · show (ds.foldl Pg.freed q3).c + 1 = q.c + 1
      have : ∀ (dr : List Nat) (q : Pg), (dr.foldl Pg.freed q).c = q.c := by
        intro dr
        induction dr with
        | nil => intro q; rfl
        | cons x xs ih => intro q; rw [List.foldl_cons, ih, freed_root]
      rw [this, hW.als.is.c]
    · have hno := h.td.tm.no
      have hpos := h.td.tm.pa.pos
      have hoff := h.td.tm.off
      have h5 : x ∈ [t, p, b, m, sm] → ¬ O x ∧ x ≠ 1 := fun hx => ⟨hno x (by simp at hx ⊢; omega), by
        have := hoff.one
        simp at hx
        omega⟩
      rcases List.mem_append.1 hx with hx | hx
      · rcases List.mem_append.1 hx with hx | hx
        · exact h5 (List.mem_cons_of_mem _ hx)
        · have := (List.mem_filter.1 hx).2
          have hg := h.td.tm.own x (.inl (Option.isSome_iff_ne_none.1 this))
          exact ⟨hg.2, (not7 hg.1).1⟩
      · exact h5 hx

end Go.Proofs.YthgpjkcgccdldaaGreatDoor

namespace Go.Proofs.YthgpjkcgccdldaaGreatDoor
open Go.RowKit Go.Maps

set_option maxRecDepth 100000 in
set_option maxHeartbeats 1600000 in
theorem abort_any (t p keys : Nat) (ro : Option Nat) (S : Stt) (w : World) (hT : TreeAt w t p ⟨ro, keys, false, 0, .slice none 0 0⟩ S) : Calls Tryz.prog 48 #[.pointer (some ⟨t, 0, none⟩)] w fun e w' => e = .returned (.tuple #[]) ∧ TreeAt w' t p ⟨ro, keys, false, 0, .slice none 0 0⟩ ⟨ro, keys, false, 0, .slice none 0 0⟩ ∧ Turn [t] w w' := by
  obtain ⟨ra, hrv⟩ : ∃ ra, Value.pointer ra = rootV ro := ⟨_, rfl⟩
  have hd1 : w.cell? ⟨t, 1, none⟩ = some (.pointer ra) := by rw [hrv]; exact hT.done.c0
  have hd2 : w.cell? ⟨t, 2, none⟩ = some (.int .i64 (keys : Nat)) := hT.done.c1
  have hd3 : w.cell? ⟨t, 3, none⟩ = some (.bool false) := hT.done.c2
  have hd4 : w.cell? ⟨t, 4, none⟩ = some (.int .i64 0) := hT.done.c3
  have hd5 : w.cell? ⟨t, 5, none⟩ = some (.slice none 0 0) := hT.done.c4
  have hd6 : w.cell? ⟨t, 6, none⟩ = some (rootV S.root) := hT.now.c0
  have hd7 : w.cell? ⟨t, 7, none⟩ = some (.int .i64 (S.keys : Nat)) := hT.now.c1
  have hd8 : w.cell? ⟨t, 8, none⟩ = some (.bool S.changed) := hT.now.c2
  have hd9 : w.cell? ⟨t, 9, none⟩ = some (.int .i64 (S.fresh : Nat)) := hT.now.c3
  have hd10 : w.cell? ⟨t, 10, none⟩ = some S.dropped := hT.now.c4
  have hf6 := hT.fz 6
  have hf7 := hT.fz 7
  have hf8 := hT.fz 8
  have hf9 := hT.fz 9
  have hf10 := hT.fz 10
  have HT := hide hT
  have HRV := hide hrv
  clear hT hrv
  go_enter Tryz.func48, Tryz.ntmps48
  go_wp2_with fail
  go_end0
  have ht : t ∈ [t] := List.mem_singleton.2 rfl
  rw [HRV.out]
  exact ⟨rfl, ((((HT.out.setRoot ro).setKeys keys).setChanged false).setFresh 0).setDropped (.slice none 0 0), (((((Turn.refl [t] w).setCell ht _ _).setCell ht _ _).setCell ht _ _).setCell ht _ _).setCell ht _ _⟩

set_option maxRecDepth 100000 in
set_option maxHeartbeats 1600000 in
theorem commit_clean (t p b m sm rb : Nat) (s : St) (q : Pg) (D S : Stt) (hd : s.dead = false) (hq : q.dead = false) (hO : Off t p b m sm rb) (hch : S.changed = false) (w : World) (hA : PAt w p b m sm rb s q) (hT : TreeAt w t p D S) :
    Calls Tryz.prog 72 #[.pointer (some ⟨t, 0, none⟩)] w fun e w' => e = .returned (.int .i64 0) ∧ (∃ r, PAt w' p b m sm rb s { q with rd := r }) ∧ Turn [p] w w' := by
  have HC := hide (tdead_any t p b m sm rb s q D S hd hq w hA hT)
  have HT := hide hT
  clear hA hT
  go_enter Tryz.func72, Tryz.ntmps72
  go_wp2_with fail
  with_reducible refine HC.out.mono ?_
  rintro e w1 ⟨rfl, hA1, hT1⟩
  have h8 := (HT.out.turn hT1 (by simp; exact hO.p)).now.c2
  rw [hch] at h8
  have HA1 := hide hA1
  have HT1 := hide hT1
  clear hA1 hT1
  go_wp2_with fail
  go_ret
  exact ⟨rfl, HA1.out, HT1.out⟩

end Go.Proofs.YthgpjkcgccdldaaGreatDoor

namespace Go.Proofs.YthgpjkcgccdldaaGreatDoor
open Go.RowKit Go.Maps

theorem getK_mem {l : List Kv} {k v : ByteArray} (h : getK l k = some v) : (k, v) ∈ l := by
  unfold getK at h
  cases hf : l.find? (fun x => decide (x.1 = k)) with
  | none => rw [hf] at h; cases h
  | some x =>
    rw [hf] at h
    have h1 := List.find?_some hf
    have h2 := List.mem_of_find?_eq_some hf
    have e1 : x.1 = k := by simpa using h1
    have e2 : x.2 = v := Option.some.inj h
    rw [← e1, ← e2]
    exact h2
theorem getK_not {l : List Kv} {k : ByteArray} (h : getK l k = none) : ∀ x ∈ l, x.1 ≠ k := by
  unfold getK at h
  cases hf : l.find? (fun x => decide (x.1 = k)) with
  | none =>
    rw [List.find?_eq_none] at hf
    intro x hx
    simpa using hf x hx
  | some x => rw [hf] at h; cases h

theorem part3 {l : List Kv} {k : ByteArray} : l.length = (l.filter fun x => decide (klt x.1 k)).length + (l.filter fun x => decide (x.1 = k)).length + (l.filter fun x => decide (klt k x.1)).length := by
  induction l with
  | nil => rfl
  | cons x l ih =>
    rw [List.length_cons, List.filter_cons, List.filter_cons, List.filter_cons]
    rcases klt_tri x.1 k with h | h | h
    · have h2 : ¬ x.1 = k := klt_ne h
      have h3 : ¬ klt k x.1 := klt_asymm h
      simp [h, h2, h3]
      omega
    · have h2 : ¬ klt x.1 k := by rw [h]; exact klt_irrefl _
      have h3 : ¬ klt k x.1 := by rw [h]; exact klt_irrefl _
      simp [h]
      simp [klt_irrefl]
      omega
    · have h2 : ¬ x.1 = k := (klt_ne h).symm
      have h3 : ¬ klt x.1 k := klt_asymm h
      simp [h, h2, h3]
      omega
theorem eq_count {l : List Kv} {k : ByteArray} (hs : (l.map Prod.fst).Pairwise klt) : (l.filter fun x => decide (x.1 = k)).length = if (getK l k).isSome then 1 else 0 := by
  induction l with
  | nil => rfl
  | cons x l ih =>
    rw [List.map_cons, List.pairwise_cons] at hs
    rw [List.filter_cons]
    by_cases h : x.1 = k
    · have hno : l.filter (fun x => decide (x.1 = k)) = [] := List.filter_eq_nil_iff.2 fun y hy => by
        have := hs.1 y.1 (List.mem_map.2 ⟨y, hy, rfl⟩)
        rw [h] at this
        simpa using (klt_ne this).symm
      rw [hno]
      simp [h, getK]
    · have := ih hs.2
      have e : getK (x :: l) k = getK l k := by
        unfold getK
        rw [List.find?_cons]
        simp [h]
      rw [e, ← this]
      simp [h]
theorem putK_len {l : List Kv} {k v : ByteArray} (hs : (l.map Prod.fst).Pairwise klt) : (putK l k v).length = l.length + if (getK l k).isSome then 0 else 1 := by
  have h1 := part3 (l := l) (k := k)
  have h2 := eq_count (k := k) hs
  have h3 : (putK l k v).length = (l.filter fun x => decide (klt x.1 k)).length + ((l.filter fun x => decide (klt k x.1)).length + 1) := by
    unfold putK
    rw [List.length_append, List.length_cons]
  rw [h3]
  by_cases h : (getK l k).isSome = true
  · rw [if_pos h] at h2 ⊢
    omega
  · rw [if_neg h] at h2 ⊢
    omega
theorem delK_len {l : List Kv} {k v : ByteArray} (hs : (l.map Prod.fst).Pairwise klt) (h : getK l k = some v) : (delK l k).length + 1 = l.length := by
  have h2 := eq_count (k := k) hs
  rw [h] at h2
  simp at h2
  unfold delK
  have h3 : l.length = (l.filter fun x => decide (x.1 = k)).length + (l.filter fun x => decide (x.1 ≠ k)).length := by
    clear h2 h hs
    induction l with
    | nil => rfl
    | cons x l ih =>
      rw [List.length_cons, List.filter_cons, List.filter_cons]
      by_cases h : x.1 = k
      · simp [h]
        have ih' := ih
        simp at ih'
        omega
      · simp [h]
        have ih' := ih
        simp at ih'
        omega
  omega

/-- Behind a Put or a Del. -/
theorem tg_of_change {w w' : World} {O : Nat → Prop} {t p b m sm rb : Nat} {s : St} {q : Pg} {Dn S : Stt} {D : Dk} {G : Gh} {Rw : Nat → Prop} {ds : List Nat} {rd rt : Root?} {l' : List Kv} {ks : Nat} (h : TG w O t p b m sm rb s q Dn S D G Rw ds rd rt) (hks : ks = l'.length) (ho : ChOut w w' O t p b m sm rb s q Dn S D G Rw ds rt l' ks) :
    ∃ rt' G' Rw' r S' ds', TG w' O t p b m sm rb s { q with rd := r } Dn S' D G' Rw' ds' rd rt' ∧ flatR rt' = l' ∧ S'.changed = true ∧ S'.fresh ≤ S.fresh + (2 * max 1 (heightR rt) + 1) ∧ KeepO O w w' := by
  obtain ⟨rt', G', Rw', r, S', ds', X, y, h1, h2, h3, h4, h5, h6, h7, h8, h9, h10, h11, h12, h13⟩ := ho.ex
  have hc : (pagesR rt').count 0 + X.count 0 = (pagesR rt).count 0 + y := by
    have := (List.perm_iff_count.1 h11) 0
    rw [List.count_append, List.count_append] at this
    simpa using this
  have hf := h.fresh
  refine ⟨rt', G', Rw', r, S', ds', ⟨h4, h.done.grown h5, h1, h.okd, h2, h.dkeys, h.dch, h.dfr, h.ddr, by rw [h7, h3, hks], by omega, ?_, h.nodup, h.disk, h.sl, h.qu, h.qs, h.qK, h.root⟩, h3, h8, by omega, h6.keepO h.td⟩
  refine List.Perm.trans ?_ h.pages
  have hz : (List.replicate y 0).filter (fun x => decide (x ≠ 0)) = [] := List.filter_eq_nil_iff.2 fun x hx => by
    rw [List.eq_of_mem_replicate hx]
    simp
  have hp := h11.filter (fun x => decide (x ≠ 0))
  rw [List.filter_append, List.filter_append, hz, List.append_nil] at hp
  rw [h10]
  rw [List.perm_iff_count] at *
  intro x
  have c1 := hp x
  simp only [List.count_append] at *
  omega

/-- Put of what may be, where there is room. -/
theorem tg_put {w : World} {O : Nat → Prop} {t p b m sm rb : Nat} {s : St} {q : Pg} {Dn S : Stt} {D : Dk} {G : Gh} {Rw : Nat → Prop} {ds : List Nat} {rd rt : Root?} (h : TG w O t p b m sm rb s q Dn S D G Rw ds rd rt) (k v : ByteArray) (hk1 : 0 < k.size) (hk : k.size ≤ 48) (hv : v.size ≤ 120) (hl : S.fresh ≤ q.left s.n) (hn : (flatR rt).length ≤ 15000) (hnd : (flatR rd).length ≤ 15000) :
    Calls Tryz.prog 42 #[.pointer (some ⟨t, 0, none⟩), .string k, .string v] w fun e w' => e = .returned (.int .i64 0) ∧ ∃ rt' G' Rw' r S' ds', TG w' O t p b m sm rb s { q with rd := r } Dn S' D G' Rw' ds' rd rt' ∧ flatR rt' = putK (flatR rt) k v ∧ S'.changed = true ∧ S'.fresh ≤ S.fresh + (2 * max 1 (heightR rt) + 1) ∧ KeepO O w w' := by
  have hp := h.okd.pages
  have hds : ds.length ≤ 30000 := by
    have := h.pages.length_eq
    rw [List.length_append] at this
    omega
  have hht := h.ok.height (by omega)
  refine (tm_put h.td h.now h.ok k v hk1 hk hv hl (by rw [h.keys]; omega) hds (by rw [h.fresh]; exact Nat.le_refl _) (by omega) _ rfl).mono ?_
  rintro e w' ⟨rfl, ho⟩
  exact ⟨rfl, tg_of_change h (by rw [putK_len h.ok.rises, h.keys]) ho⟩

/-- The pager was asked, or places were read. -/
theorem TG.seen {w w' : World} {O : Nat → Prop} {t p b m sm rb : Nat} {s : St} {q : Pg} {Dn S : Stt} {D : Dk} {G G' : Gh} {Rw Rw' : Nat → Prop} {ds : List Nat} {rd rt : Root?} (h : TG w O t p b m sm rb s q Dn S D G Rw ds rd rt) (r : Bool) (hD : TD w' O t p b m sm rb s { q with rd := r } Dn S D G' Rw' ds) (hG : Grown D G G') : TG w' O t p b m sm rb s { q with rd := r } Dn S D G' Rw' ds rd rt :=
  ⟨hD, h.done.grown hG, h.now.grown hG, h.okd, h.ok, h.dkeys, h.dch, h.dfr, h.ddr, h.keys, h.fresh, h.pages, h.nodup, h.disk, h.sl, h.qu, h.qs, h.qK, h.root⟩
theorem TG.ask {w w' : World} {O : Nat → Prop} {t p b m sm rb : Nat} {s : St} {q : Pg} {Dn S : Stt} {D : Dk} {G : Gh} {Rw : Nat → Prop} {ds : List Nat} {rd rt : Root?} (h : TG w O t p b m sm rb s q Dn S D G Rw ds rd rt) (r : Bool) (hA : PAt w' p b m sm rb s { q with rd := r }) (hT : Turn [p] w w') : TG w' O t p b m sm rb s { q with rd := r } Dn S D G Rw ds rd rt ∧ KeepO O w w' := by
  obtain ⟨h1, h2⟩ := h.td.ask r hA hT
  exact ⟨h.seen r h1 (Grown.refl _ _), (h2.go S.dropped).keepO h.td⟩
theorem TG.quiet {w w' : World} {O : Nat → Prop} {t p b m sm rb : Nat} {s : St} {q : Pg} {Dn S : Stt} {D : Dk} {G : Gh} {Rw : Nat → Prop} {ds : List Nat} {rd rt : Root?} (h : TG w O t p b m sm rb s q Dn S D G Rw ds rd rt) (hT : Turn [] w w') : TG w' O t p b m sm rb s q Dn S D G Rw ds rd rt := h.seen q.rd (h.td.quiet hT) (Grown.refl _ _)

/-- What is committed has its pages all. -/
theorem RtDisk.count {D : Dk} {rt : Root?} (h : RtDisk D rt) : (pagesR rt).count 0 = 0 ∧ (pagesR rt).filter (fun x => decide (x ≠ 0)) = pagesR rt := by
  cases rt with
  | none => exact ⟨rfl, rfl⟩
  | some x =>
    obtain ⟨hh, e⟩ := x
    exact ondisk_count (h hh e rfl)

/-- Abort. -/
theorem tg_abort {w : World} {O : Nat → Prop} {t p b m sm rb : Nat} {s : St} {q : Pg} {Dn S : Stt} {D : Dk} {G : Gh} {Rw : Nat → Prop} {ds : List Nat} {rd rt : Root?} (h : TG w O t p b m sm rb s q Dn S D G Rw ds rd rt) :
    Calls Tryz.prog 48 #[.pointer (some ⟨t, 0, none⟩)] w fun e w' => e = .returned (.tuple #[]) ∧ TG w' O t p b m sm rb s q Dn Dn D G Rw [] rd rd ∧ KeepO O w w' := by
  have hDn : Dn = ⟨Dn.root, Dn.keys, false, 0, .slice none 0 0⟩ := by
    have h1 := h.dch
    have h2 := h.dfr
    have h3 := h.ddr
    obtain ⟨a, b, c, d, e⟩ := Dn
    simp at h1 h2 h3
    subst h1 h2 h3
    rfl
  have hTr := h.td.tm.tr
  rw [hDn] at hTr
  refine (abort_any t p Dn.keys Dn.root S w hTr).mono ?_
  rintro e w' ⟨rfl, hTr', hT⟩
  rw [← hDn] at hTr'
  have hTM := h.td.tm.state hT (fun x hx => .inl (List.mem_singleton.1 hx)) hTr'
  obtain ⟨c1, c2⟩ := h.disk.count
  refine ⟨rfl, ⟨⟨hTM, by rw [h.ddr]; exact World.ownsRow_nil _ _ _ _, fun g hg => by rw [h.ddr] at hg; cases hg⟩, h.done, h.done, h.okd, h.okd, h.dkeys, h.dch, h.dfr, h.ddr, h.dkeys, by rw [h.dfr, c1], by rw [c2, List.append_nil], h.nodup, h.disk, h.sl, h.qu, h.qs, h.qK, h.root⟩, [t], hT, fun x hx => ?_⟩
  rw [List.mem_singleton.1 hx]
  exact ⟨h.td.tm.no t (by simp), h.td.tm.off.one⟩

end Go.Proofs.YthgpjkcgccdldaaGreatDoor
