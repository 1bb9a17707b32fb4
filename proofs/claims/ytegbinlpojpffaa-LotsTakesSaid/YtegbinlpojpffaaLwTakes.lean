/-
  LotsTakes, walked.
-/
import Derived.Test.YtegbinlpojpffaaLHead
import Derived.Test.YtegbinlpojpffaaLChk2
import Derived.Test.YtegbinlpojpffaaLLeft
import Derived.Test.YtegbinlpojpffaaLTakesQ
import Derived.Deep.RegionHeld
import Derived.Deep.RegionHeld3
import Derived.Deep.CutRange
namespace Go.Proofs.Ytegbinlpojpffaa
open Go.RowKit Go.Maps Lo

set_option maxRecDepth 100000 in
set_option maxHeartbeats 16000000 in
theorem takes_any (a : Option Addr) (cap : Nat) (l : List Lt) (n0 now : Int) (w : World) (hlen : l.length ≤ 9223372036854775807) (hL : LotsAt w a l) :
    Calls Try.prog 5 #[.slice a l.length cap, .int .i64 n0, .int .i64 now] w fun e w' => e = .returned (.bool true) ∧ Turn [] w w' := by
  have HL := hide hL
  clear hL
  go_enter Try.func5, Try.ntmps5
  go_wp2_with fail
  refine (known_any w).mono ?_
  rintro e w1 ⟨rfl, hT1⟩
  have HT1 := hide hT1
  clear hT1
  go_wp2_with fail
  refine (within_any _ _ _ (by omega) (by omega)).mono ?_
  rintro e w1 ⟨rfl, rfl⟩
  obtain ⟨t, ht⟩ : ∃ t, t = now % 100000 := ⟨_, rfl⟩
  rw [← ht]
  have ht1 : 0 ≤ t ∧ t < 100000 := by omega
  clear ht
  go_wp2_with fail
  refine (goodAt_any a cap l t w1 hlen (HL.out.turn0 HT1.out) (by omega) (by omega)).mono ?_
  rintro e w2 ⟨ga, gc, G, rfl, hG, hT2⟩
  have HG := hide hG
  have HT2 := hide (HT1.out.trans hT2)
  have hGl := hG.good.len
  have hGc := hG.cap
  have HBd : Hid (Bds 1000000000000 G) := (hG.good.bd ht1.1 (by omega)).mono (by omega)
  clear hG hT2 HT1 HL
  go_wp2_with fail
  refine (within_any _ _ _ (by omega) (by omega)).mono ?_
  rintro e w2 ⟨rfl, rfl⟩
  obtain ⟨n, hn⟩ : ∃ n, n = n0 % 20000 := ⟨_, rfl⟩
  rw [← hn]
  have hn1 : 0 ≤ n ∧ n < 20000 := by omega
  clear hn
  go_wp2_with fail
  refine (left_any ga gc G t _ (by omega) HBd.out HG.out.lots).mono ?_
  rintro e w3 ⟨rfl, hT3⟩
  have HT3 := hide (HT2.out.trans hT3)
  have HG3 := hide (HG.out.turn0 hT3)
  clear hT3 HT2 HG
  have hlfb : 0 ≤ lf t G ∧ lf t G ≤ 100000000000000 := ⟨lf_nonneg (good_rest HG3.out.good), by have := lf_bd (by omega) t G HBd.out; omega⟩
  go_wp2_with fail
  refine (take_any ga gc G n t _ HG3.out.good.rises (by omega) (HG3.out.good.bh (by omega) (by omega)) HG3.out.lots HG3.out.nil (by omega) (by omega)).mono ?_
  rintro e w4 ⟨is, g1, A, P, x, pa, pc, hTd, htk, rfl, hA1, hA2, hA3, hA4, hPt, hpn, hP14, hpc1, hpc2, hpx, hT4⟩
  have HK : Hid (Tkn G is n A P x) := by
    have h := tkn_of is G n hn1.1 (fun i hi => ⟨((hTd.mem i).1 hi).1, can_rest ((hTd.mem i).1 hi).2⟩) (turned_nodup hTd)
    rw [htk] at h
    exact h
  have HTd := hide hTd
  have hxb := HK.out.lack
  have HLk := hide (lack_of HG3.out.good hTd hn1.1 HK.out htk)
  have HAl : Hid (A.length = G.length) := hA1
  have HA4 := hide hA4
  have HPt := hide hPt
  have HT4 := hide (HT3.out.trans hT4)
  have HG4 := hide (HG3.out.turn0 hT4)
  have HAb : Hid (Bds 1000000000000 A) := fun z hz => by
    obtain ⟨i, hi, rfl⟩ := List.getElem_of_mem hz
    rw [← getD_get hi]
    have hi' : i < G.length := by rw [← hA1]; exact hi
    have s := (pend_of HG3.out.good hTd HK.out).same i hi'
    have c := held_of HG3.out.good hTd HK.out hi'
    obtain ⟨h1, h2, h3, h4, h5, h6, h7, h8⟩ := HG3.out.good.bd ht1.1 (by omega) _ (List.getElem_mem hi')
    have hr := ((HG3.out.good.bd ht1.1 (by omega)) _ (List.getElem_mem hi')).rest
    rw [← getD_get hi'] at h1 h2 h3 h4 h5 h6 h7 h8 hr
    exact ⟨by omega, by omega, by omega, by omega, by omega, by omega, by omega, by omega⟩
  have HCk := hide (take_chk (show t ≤ 200000 by omega) HG3.out.good hTd HK.out)
  have HChk := fun w h => hide (check_any (some ⟨g1, 0, none⟩) G.length A w (by rw [HAl.out]; omega) h)
  simp only [HAl.out, HCk.out] at HChk
  have HLf := fun w h => hide (left_any (some ⟨g1, 0, none⟩) G.length A t w (by rw [HAl.out]; omega) HAb.out h)
  simp only [HAl.out] at HLf
  rw [HLk.out.2] at HLf
  have hlk := HLk.out.1
  clear hTd htk hA4 hT4 HT3 HG3 hA2 hA1 hA3 hPt HCk HAb hpx hpn
  generalize lf t G = v at *
  have HLx := hide hlk
  clear hlk
  go_upto_region 8 with fail
  go_cut [63] from 15 to 63 (fun u wx => u = .bool false ∧ Turn [] w4 wx)
  case first =>
    go_wp2_with fail
    refine (HChk _ HA4.out.at).out.mono ?_
    rintro e w5 ⟨rfl, hT5⟩
    have HT5 := hide hT5
    have HA5 := hide (HA4.out.turn hT5 (by simp))
    clear hT5 HT4 HG4 HA4 HPt HChk HLk
    rcases Int.lt_or_le v n with hvn | hvn
    · obtain rfl : x = n - v := by rw [HLx.out]; omega
      go_wp2_with fail
      refine (HLf _ HA5.out.at).out.mono ?_
      rintro e w6 ⟨rfl, hT6⟩
      have HT6 := hide (HT5.out.trans hT6)
      clear hT6 HT5 HA5 HLf
      go_wp2_with fail
      go_meet
      case rel => exact ⟨rfl, HT6.out⟩
    · obtain rfl : x = 0 := by rw [HLx.out]; omega
      go_wp2_with fail
      refine (HLf _ HA5.out.at).out.mono ?_
      rintro e w6 ⟨rfl, hT6⟩
      have HT6 := hide (HT5.out.trans hT6)
      clear hT6 HT5 HA5 HLf
      go_wp2_with fail
      go_meet
      case rel => exact ⟨rfl, HT6.out⟩
  case rest =>
    obtain ⟨rfl, hT6⟩ := hcut
    have HT6 := hide (HT4.out.trans hT6)
    have HG6 := hide (HG4.out.turn0 hT6)
    have HA6 := hide (HA4.out.turn hT6 (by simp))
    have HP6 := hide (HPt.out.turn0 hT6)
    have hmb : 0 ≤ n - x ∧ n - x ≤ v := by have := HLx.out; omega
    clear hT6 HT4 HG4 HA4 HPt HLf HChk HLk
    go_wp2_with fail
    go_loopw [11, 12, 13] (fun u q i wr => ∃ (j : Nat) (sm la : Int), j ≤ P.length ∧ u = .int .i64 sm ∧ q = .int .i64 la ∧ i = .int .i64 j ∧ 0 ≤ sm ∧ sm ≤ 10000 * j ∧ Hid (sm = sumP (P.take j)) ∧ Hid (la = if 0 < j then (G.getD (is.getD (j - 1) 0) Lt.nil).un else 0) ∧ Hid (GoodAt t l w1.heap.size ga gc G wr) ∧ Hid (OwnL wr g1 A) ∧ Hid (PartsAt wr pa P) ∧ Turn [] w wr) (fun _ _ i _ => P.length - (intOf i).toNat)
    case atStart => exact ⟨0, 0, 0, Nat.zero_le _, rfl, rfl, rfl, by omega, by omega, hide rfl, hide rfl, HG6, HA6, HP6, HT6.out⟩
    case round =>
      obtain ⟨j, sm, la, hj, rfl, rfl, rfl, hsm0, hsm1, HSm, HLa, HGr, HAr, HPr, hT⟩ := hrel
      have HT := hide hT
      clear hT HG6 HA6 HP6 HT6
      by_cases hlt : j < P.length
      · obtain ⟨pb, po, rfl, d0, d1⟩ := HPr.out.at hlt
        have hpb := lt_of_cell d0
        have hpt := HK.out.part j hlt
        obtain ⟨hil, hat, hvl, hlast⟩ := part_at HGr.out.good HTd.out HK.out hlt
        have hA := HAr.out.lots (is.getD j 0) (by rw [HAl.out]; exact hil)
        have hhere := HK.out.here j hlt
        have hGd := HGr.out.good.at hil
        have hBz := HBd.out.at hil
        obtain ⟨b, off, rfl, hz⟩ := HGr.out.lots.at hil
        have HSt := hide (sumP_take hlt)
        have hlast2 : la ≤ (G.getD (is.getD j 0) Lt.nil).un := by
          rw [HLa.out]
          split
          · exact hlast (by assumption)
          · have := hGd.un; have := hGd.fr; omega
        have HLn : Hid (∀ u, u = (G.getD (is.getD j 0) Lt.nil).un → u = if 0 < j + 1 then (G.getD (is.getD (j + 1 - 1) 0) Lt.nil).un else 0) := fun u hu => by rw [hu, if_pos (by omega), Nat.add_sub_cancel]
        have HAt := fun w h => hide (rat_any (some ⟨b, off, none⟩) gc G (P.getD j (0, 0)).1 w (by omega) h)
        rw [hat] at HAt
        rw [hhere] at hA
        clear hat hhere hlast HLa
        generalize is.getD j 0 = i at *
        generalize G.getD i Lt.nil = z at *
        generalize P.getD j (0, 0) = pq at *
        obtain ⟨pid, pn⟩ := pq
        simp only at d0 d1 hpt HSt hA HAt
        obtain ⟨hp0, hp1, hp2, hp3⟩ := hpt
        clear hp0
        have HZ := hide hz
        have hb := hz.lt
        have hg1 := HAr.out.lt
        simp only [Nat.zero_add] at hA
        obtain ⟨f0, f1, f2, f3, f4, f5, f6, f7, f8⟩ := hA
        simp only [hold] at f0 f1 f2 f3 f4 f5 f6 f7 f8
        obtain ⟨c0, c1, c2, c3, c4, c5, c6, c7, c8⟩ := hz
        have HRz := fun w => hide (rrest_any z w (hBz.q (by omega)))
        have HVz := fun w => hide (rvalid_any z t w)
        rw [hvl] at HVz
        have hzr := hBz.rest
        have hzh := hBz.he
        have hzh0 := hGd.he
        have hpnb : pn ≤ 10000 := by
          have := hGd.gr; have := hGd.co; have := hGd.ex; have := hGd.ro; have := hGd.he
          unfold rest at hp2
          omega
        have HSn : Hid (sm + pn = sumP (P.take (j + 1))) := by rw [Hid, HSm.out, HSt.out]
        have HU := hide (HLn.out z.un rfl)
        clear HSm HSt HLn hvl
        generalize rest z = r at *
        go_wp2_with fail
        refine (HAt _ HGr.out.lots).out.mono ?_
        rintro e wr ⟨rfl, rfl⟩
        clear HAt
        have HXd := hide (HZ.out.turn ((Turn.refl [] wr).drew) (by simp))
        have hw9 : IntKind.i64.wrap (((j : Nat) : Int) + 1) = ((j : Nat) : Int) + 1 := by rw [IntKind.wrap_i64]; omega
        have HZh := hide hzh0
        clear hzh0
        go_upto_region 15 with fail
        go_cut [137] from 64 to 192 (fun u wx => u = .bool false ∧ Turn [] wr wx)
        case first =>
          have HAll : Hid (∀ w', Turn [] wr w' → w'.cell? ⟨pb, po + j * 2 + 1, none⟩ = some (.int .i64 pn) ∧ w'.cell? ⟨b, off + i * 9, none⟩ = some (.int .i64 z.id) ∧ w'.cell? ⟨b, off + i * 9 + 1, none⟩ = some (.int .i64 z.kd) ∧ w'.cell? ⟨b, off + i * 9 + 2, none⟩ = some (.int .i64 z.fr) ∧ w'.cell? ⟨b, off + i * 9 + 3, none⟩ = some (.int .i64 z.un) ∧ w'.cell? ⟨b, off + i * 9 + 4, none⟩ = some (.int .i64 z.gr) ∧ w'.cell? ⟨b, off + i * 9 + 5, none⟩ = some (.int .i64 z.co) ∧ w'.cell? ⟨b, off + i * 9 + 6, none⟩ = some (.int .i64 z.he) ∧ w'.cell? ⟨b, off + i * 9 + 7, none⟩ = some (.int .i64 z.ex) ∧ w'.cell? ⟨b, off + i * 9 + 8, none⟩ = some (.int .i64 z.ro)) := fun w' hT =>
            have k := HZ.out.turn hT (by simp)
            ⟨(hT.cell (p := ⟨pb, po + j * 2 + 1, none⟩) hpb (by simp)).trans d1, k.id, k.kd, k.fr, k.un, k.gr, k.co, k.he, k.ex, k.ro⟩
          have hD1 : decide (pn < 1) = false := by simp; omega
          have hD2 : decide (r < pn) = false := by simp; omega
          have hD4 : decide (z.un < la) = false := by simp; omega
          clear f0 f1 f2 f3 f4 f5 f6 f7 f8 HK HTd HGr HAr HPr HBd HAl hGd hBz HSn HU HXd
          by_cases hlast3 : j + 1 < P.length
          · obtain rfl : r = pn := (hp3 hlast3).symm
            have hgd : decide (((j : Nat) : Int) + 1 < P.length) = true := by simp; omega
            refine wp_region_noPanic ?_
            go_region_held (fun w' => w'.cell? ⟨pb, po + j * 2 + 1, none⟩ = some (.int .i64 r) ∧ w'.cell? ⟨b, off + i * 9, none⟩ = some (.int .i64 z.id) ∧ w'.cell? ⟨b, off + i * 9 + 1, none⟩ = some (.int .i64 z.kd) ∧ w'.cell? ⟨b, off + i * 9 + 2, none⟩ = some (.int .i64 z.fr) ∧ w'.cell? ⟨b, off + i * 9 + 3, none⟩ = some (.int .i64 z.un) ∧ w'.cell? ⟨b, off + i * 9 + 4, none⟩ = some (.int .i64 z.gr) ∧ w'.cell? ⟨b, off + i * 9 + 5, none⟩ = some (.int .i64 z.co) ∧ w'.cell? ⟨b, off + i * 9 + 6, none⟩ = some (.int .i64 z.he) ∧ w'.cell? ⟨b, off + i * 9 + 7, none⟩ = some (.int .i64 z.ex) ∧ w'.cell? ⟨b, off + i * 9 + 8, none⟩ = some (.int .i64 z.ro)) (first | assumption | exact HAll.out _ (Turn.refl [] _) | exact HAll.out _ (Turn.refl [] _).drew | exact HAll.out _ HT5.out | exact HAll.out _ HT6.out | exact HAll.out _ HT7.out)
              (first
              | (go_at_call 25; refine (HVz _).out.mono ?_; rintro e w6 ⟨rfl, hT6⟩; have HT6 := hide (HT5.out.trans hT6); clear hT6)
              | (go_at_call 13; with_reducible refine (HRz wr.drew).out.mono ?_; rintro e w5 ⟨rfl, hT5⟩; have HT5 := hide (((Turn.refl [] wr).drew).trans hT5); clear hT5)
              | (go_at_call 13; with_reducible refine (HRz w6).out.mono ?_; rintro e w7 ⟨rfl, hT7⟩; have HT7 := hide (HT6.out.trans hT7); clear hT7))
            all_goals
              refine NoPanic.normal ?_
              go_wp2_with fail
              go_meet
              case rel => exact ⟨rfl, HT7.out⟩
          · have hgd : decide (((j : Nat) : Int) + 1 < P.length) = false := by simp; omega
            refine wp_region_noPanic ?_
            refine wp_region_held_drew (S := (fun w' => w'.cell? ⟨pb, po + j * 2 + 1, none⟩ = some (.int .i64 pn) ∧ w'.cell? ⟨b, off + i * 9, none⟩ = some (.int .i64 z.id) ∧ w'.cell? ⟨b, off + i * 9 + 1, none⟩ = some (.int .i64 z.kd) ∧ w'.cell? ⟨b, off + i * 9 + 2, none⟩ = some (.int .i64 z.fr) ∧ w'.cell? ⟨b, off + i * 9 + 3, none⟩ = some (.int .i64 z.un) ∧ w'.cell? ⟨b, off + i * 9 + 4, none⟩ = some (.int .i64 z.gr) ∧ w'.cell? ⟨b, off + i * 9 + 5, none⟩ = some (.int .i64 z.co) ∧ w'.cell? ⟨b, off + i * 9 + 6, none⟩ = some (.int .i64 z.he) ∧ w'.cell? ⟨b, off + i * 9 + 7, none⟩ = some (.int .i64 z.ex) ∧ w'.cell? ⟨b, off + i * 9 + 8, none⟩ = some (.int .i64 z.ro))) (by kernel_rfl) (HAll.out _ (Turn.refl [] wr).drew) (fun hHeld => ?_)
            refine' wpAnyH_take (i := 0) (oi := { dst := some 77, op := Op.move (Operand.tmp 14), type := 3, pos := "law.go:131", after := #[], guard := none }) (v := _) rfl (by kernel_rfl) (by kernel_rfl) (by kernel_rfl) (fun _ _ _ h => h) (Or.inl ⟨by rfl, ?_⟩) (by assumption) ?_
            rotate_left
            · intro w hSw; (try dsimp only at hSw); go_simp <;> with_reducible rfl
            simp only [Act.put, List.setIfInBounds_toArray, List.set_cons_zero, List.set_cons_succ]
            refine' wpAnyH_take (i := 1) (oi := { dst := some 78, op := Op.binOp BinOp.lss 3 (Operand.tmp 77) (Operand.const (Value.int IntKind.i64 0)) 3, type := 4, pos := "law.go:131", after := #[{ on := 0, ground := Ground.data }], guard := none }) (v := _) rfl (by kernel_rfl) (by kernel_rfl) (by kernel_rfl) (fun _ _ _ h => h) (Or.inl ⟨by rfl, ?_⟩) (by assumption) ?_
            rotate_left
            · intro w hSw; (try dsimp only at hSw); go_simp <;> with_reducible rfl
            simp only [Act.put, List.setIfInBounds_toArray, List.set_cons_zero, List.set_cons_succ]
            refine' wpAnyH_take (i := 2) (oi := { dst := some 79, op := Op.move (Operand.tmp 78), type := 4, pos := "law.go:131", after := #[{ on := 1, ground := Ground.data }], guard := none }) (v := _) rfl (by kernel_rfl) (by kernel_rfl) (by kernel_rfl) (fun _ _ _ h => h) (Or.inl ⟨by rfl, ?_⟩) (by assumption) ?_
            rotate_left
            · intro w hSw; (try dsimp only at hSw); go_simp <;> with_reducible rfl
            simp only [Act.put, List.setIfInBounds_toArray, List.set_cons_zero, List.set_cons_succ]
            refine' wpAnyH_take (i := 3) (oi := { dst := some 80, op := Op.move (Operand.tmp 9), type := 38, pos := "law.go:131", after := #[{ on := 2, ground := Ground.guard }], guard := some (2, false) }) (v := _) rfl (by kernel_rfl) (by kernel_rfl) (by kernel_rfl) (fun _ _ _ h => h) (Or.inl ⟨by rfl, ?_⟩) (by assumption) ?_
            rotate_left
            · intro w hSw; (try dsimp only at hSw); go_simp <;> with_reducible rfl
            simp only [Act.put, List.setIfInBounds_toArray, List.set_cons_zero, List.set_cons_succ]
            refine' wpAnyH_take (i := 4) (oi := { dst := some 81, op := Op.move (Operand.tmp 13), type := 3, pos := "law.go:131", after := #[{ on := 2, ground := Ground.guard }], guard := some (2, false) }) (v := _) rfl (by kernel_rfl) (by kernel_rfl) (by kernel_rfl) (fun _ _ _ h => h) (Or.inl ⟨by rfl, ?_⟩) (by assumption) ?_
            rotate_left
            · intro w hSw; (try dsimp only at hSw); go_simp <;> with_reducible rfl
            simp only [Act.put, List.setIfInBounds_toArray, List.set_cons_zero, List.set_cons_succ]
            refine' wpAnyH_take (i := 5) (oi := { dst := some 82, op := Op.indexAddr 38 (Operand.tmp 80) (Operand.tmp 81), type := 0, pos := "law.go:131", after := #[{ on := 3, ground := Ground.data }, { on := 4, ground := Ground.data }, { on := 2, ground := Ground.guard }], guard := some (2, false) }) (v := _) rfl (by kernel_rfl) (by kernel_rfl) (by kernel_rfl) (fun _ _ _ h => h) (Or.inl ⟨by rfl, ?_⟩) (by assumption) ?_
            rotate_left
            · intro w hSw; (try dsimp only at hSw); go_simp <;> with_reducible rfl
            simp only [Act.put, List.setIfInBounds_toArray, List.set_cons_zero, List.set_cons_succ]
            refine' wpAnyH_take (i := 6) (oi := { dst := some 83, op := Op.fieldAddr 47 (Operand.tmp 82) 1, type := 0, pos := "law.go:131", after := #[{ on := 5, ground := Ground.data }, { on := 2, ground := Ground.guard }], guard := some (2, false) }) (v := _) rfl (by kernel_rfl) (by kernel_rfl) (by kernel_rfl) (fun _ _ _ h => h) (Or.inl ⟨by rfl, ?_⟩) (by assumption) ?_
            rotate_left
            · intro w hSw; (try dsimp only at hSw); go_simp <;> with_reducible rfl
            simp only [Act.put, List.setIfInBounds_toArray, List.set_cons_zero, List.set_cons_succ]
            refine' wpAnyH_take (i := 7) (oi := { dst := some 84, op := Op.load 3 (Operand.tmp 83), type := 3, pos := "law.go:131", after := #[{ on := 6, ground := Ground.data }, { on := 2, ground := Ground.guard }], guard := some (2, false) }) (v := _) rfl (by kernel_rfl) (by kernel_rfl) (by kernel_rfl) (fun _ _ _ h => h) (Or.inl ⟨by rfl, ?_⟩) (by assumption) ?_
            rotate_left
            · intro w hSw; (try dsimp only at hSw); go_simp <;> with_reducible rfl
            simp only [Act.put, List.setIfInBounds_toArray, List.set_cons_zero, List.set_cons_succ]
            refine' wpAnyH_take (i := 8) (oi := { dst := some 85, op := Op.binOp BinOp.lss 3 (Operand.tmp 84) (Operand.const (Value.int IntKind.i64 1)) 3, type := 4, pos := "law.go:131", after := #[{ on := 7, ground := Ground.data }, { on := 2, ground := Ground.guard }], guard := some (2, false) }) (v := _) rfl (by kernel_rfl) (by kernel_rfl) (by kernel_rfl) (fun _ _ _ h => h) (Or.inl ⟨by rfl, ?_⟩) (by assumption) ?_
            rotate_left
            · intro w hSw; (try dsimp only at hSw); go_simp <;> with_reducible rfl
            simp only [Act.put, List.setIfInBounds_toArray, List.set_cons_zero, List.set_cons_succ]
            refine' wpAnyH_take (i := 9) (oi := { dst := some 86, op := Op.pick (Operand.tmp 79) (Operand.const (Value.bool true)) (Operand.tmp 85), type := 4, pos := "law.go:131", after := #[{ on := 2, ground := Ground.data }, { on := 8, ground := Ground.data }], guard := none }) (v := _) rfl (by kernel_rfl) (by kernel_rfl) (by kernel_rfl) (fun _ _ _ h => h) (Or.inl ⟨by rfl, ?_⟩) (by assumption) ?_
            rotate_left
            · intro w hSw; (try dsimp only at hSw); go_simp <;> with_reducible rfl
            simp only [Act.put, List.setIfInBounds_toArray, List.set_cons_zero, List.set_cons_succ]
            refine' wpAnyH_take (i := 10) (oi := { dst := some 87, op := Op.move (Operand.tmp 86), type := 4, pos := "law.go:131", after := #[{ on := 9, ground := Ground.data }, { on := 2, ground := Ground.chain }], guard := none }) (v := _) rfl (by kernel_rfl) (by kernel_rfl) (by kernel_rfl) (fun _ _ _ h => h) (Or.inl ⟨by rfl, ?_⟩) (by assumption) ?_
            rotate_left
            · intro w hSw; (try dsimp only at hSw); go_simp <;> with_reducible rfl
            simp only [Act.put, List.setIfInBounds_toArray, List.set_cons_zero, List.set_cons_succ]
            refine' wpAnyH_take (i := 11) (oi := { dst := some 88, op := Op.move (Operand.tmp 9), type := 38, pos := "law.go:131", after := #[{ on := 10, ground := Ground.guard }], guard := some (10, false) }) (v := _) rfl (by kernel_rfl) (by kernel_rfl) (by kernel_rfl) (fun _ _ _ h => h) (Or.inl ⟨by rfl, ?_⟩) (by assumption) ?_
            rotate_left
            · intro w hSw; (try dsimp only at hSw); go_simp <;> with_reducible rfl
            simp only [Act.put, List.setIfInBounds_toArray, List.set_cons_zero, List.set_cons_succ]
            refine' wpAnyH_take (i := 12) (oi := { dst := some 89, op := Op.move (Operand.tmp 13), type := 3, pos := "law.go:131", after := #[{ on := 10, ground := Ground.guard }], guard := some (10, false) }) (v := _) rfl (by kernel_rfl) (by kernel_rfl) (by kernel_rfl) (fun _ _ _ h => h) (Or.inl ⟨by rfl, ?_⟩) (by assumption) ?_
            rotate_left
            · intro w hSw; (try dsimp only at hSw); go_simp <;> with_reducible rfl
            simp only [Act.put, List.setIfInBounds_toArray, List.set_cons_zero, List.set_cons_succ]
            refine' wpAnyH_take (i := 13) (oi := { dst := some 90, op := Op.indexAddr 38 (Operand.tmp 88) (Operand.tmp 89), type := 0, pos := "law.go:131", after := #[{ on := 11, ground := Ground.data }, { on := 12, ground := Ground.data }, { on := 10, ground := Ground.guard }], guard := some (10, false) }) (v := _) rfl (by kernel_rfl) (by kernel_rfl) (by kernel_rfl) (fun _ _ _ h => h) (Or.inl ⟨by rfl, ?_⟩) (by assumption) ?_
            rotate_left
            · intro w hSw; (try dsimp only at hSw); go_simp <;> with_reducible rfl
            simp only [Act.put, List.setIfInBounds_toArray, List.set_cons_zero, List.set_cons_succ]
            refine' wpAnyH_take (i := 14) (oi := { dst := some 91, op := Op.fieldAddr 47 (Operand.tmp 90) 1, type := 0, pos := "law.go:131", after := #[{ on := 13, ground := Ground.data }, { on := 10, ground := Ground.guard }], guard := some (10, false) }) (v := _) rfl (by kernel_rfl) (by kernel_rfl) (by kernel_rfl) (fun _ _ _ h => h) (Or.inl ⟨by rfl, ?_⟩) (by assumption) ?_
            rotate_left
            · intro w hSw; (try dsimp only at hSw); go_simp <;> with_reducible rfl
            simp only [Act.put, List.setIfInBounds_toArray, List.set_cons_zero, List.set_cons_succ]
            refine' wpAnyH_take (i := 15) (oi := { dst := some 92, op := Op.load 3 (Operand.tmp 91), type := 3, pos := "law.go:131", after := #[{ on := 14, ground := Ground.data }, { on := 10, ground := Ground.guard }], guard := some (10, false) }) (v := _) rfl (by kernel_rfl) (by kernel_rfl) (by kernel_rfl) (fun _ _ _ h => h) (Or.inl ⟨by rfl, ?_⟩) (by assumption) ?_
            rotate_left
            · intro w hSw; (try dsimp only at hSw); go_simp <;> with_reducible rfl
            simp only [Act.put, List.setIfInBounds_toArray, List.set_cons_zero, List.set_cons_succ]
            refine' wpAnyH_take (i := 16) (oi := { dst := some 93, op := Op.move (Operand.tmp 0), type := 22, pos := "law.go:131", after := #[{ on := 10, ground := Ground.guard }], guard := some (10, false) }) (v := _) rfl (by kernel_rfl) (by kernel_rfl) (by kernel_rfl) (fun _ _ _ h => h) (Or.inl ⟨by rfl, ?_⟩) (by assumption) ?_
            rotate_left
            · intro w hSw; (try dsimp only at hSw); go_simp <;> with_reducible rfl
            simp only [Act.put, List.setIfInBounds_toArray, List.set_cons_zero, List.set_cons_succ]
            refine' wpAnyH_take (i := 17) (oi := { dst := some 94, op := Op.move (Operand.tmp 14), type := 3, pos := "law.go:131", after := #[{ on := 10, ground := Ground.guard }], guard := some (10, false) }) (v := _) rfl (by kernel_rfl) (by kernel_rfl) (by kernel_rfl) (fun _ _ _ h => h) (Or.inl ⟨by rfl, ?_⟩) (by assumption) ?_
            rotate_left
            · intro w hSw; (try dsimp only at hSw); go_simp <;> with_reducible rfl
            simp only [Act.put, List.setIfInBounds_toArray, List.set_cons_zero, List.set_cons_succ]
            refine' wpAnyH_take (i := 18) (oi := { dst := some 95, op := Op.indexAddr 22 (Operand.tmp 93) (Operand.tmp 94), type := 0, pos := "law.go:131", after := #[{ on := 16, ground := Ground.data }, { on := 17, ground := Ground.data }, { on := 10, ground := Ground.guard }], guard := some (10, false) }) (v := _) rfl (by kernel_rfl) (by kernel_rfl) (by kernel_rfl) (fun _ _ _ h => h) (Or.inl ⟨by rfl, ?_⟩) (by assumption) ?_
            rotate_left
            · intro w hSw; (try dsimp only at hSw); go_simp <;> with_reducible rfl
            simp only [Act.put, List.setIfInBounds_toArray, List.set_cons_zero, List.set_cons_succ]
            refine' wpAnyH_take (i := 19) (oi := { dst := some 96, op := Op.load 29 (Operand.tmp 95), type := 29, pos := "law.go:131", after := #[{ on := 18, ground := Ground.data }, { on := 10, ground := Ground.guard }], guard := some (10, false) }) (v := _) rfl (by kernel_rfl) (by kernel_rfl) (by kernel_rfl) (fun _ _ _ h => h) (Or.inl ⟨by rfl, ?_⟩) (by assumption) ?_
            rotate_left
            · intro w hSw; (try dsimp only at hSw); go_simp <;> with_reducible rfl
            simp only [Act.put, List.setIfInBounds_toArray, List.set_cons_zero, List.set_cons_succ]
            refine wpAnyH_ready (rs := [20]) (by kernel_rfl) (by simp) ?_
            refine AllReadyH.cons rfl (fun K hK => ?_) AllReadyH.nil
            go_simp
            go_wp2_with (first | (go_at_call 13; refine (HRz wr.drew).out.mono ?_; rintro e w5 ⟨rfl, hT5⟩; have HT5 := hide (((Turn.refl [] wr).drew).trans hT5); clear hT5) | fail)
            refine hK.out _ _ ?_ (fun hHeld => ?_)
            · exact HAll.out _ HT5.out
            clear hK K
            refine' wpAnyH_take (i := 21) (oi := { dst := some 98, op := Op.binOp BinOp.gtr 3 (Operand.tmp 92) (Operand.tmp 97) 3, type := 4, pos := "law.go:131", after := #[{ on := 15, ground := Ground.data }, { on := 20, ground := Ground.data }, { on := 10, ground := Ground.guard }], guard := some (10, false) }) (v := _) rfl (by kernel_rfl) (by kernel_rfl) (by kernel_rfl) (fun _ _ _ h => h) (Or.inl ⟨by rfl, ?_⟩) (by assumption) ?_
            rotate_left
            · intro w hSw; (try dsimp only at hSw); go_simp <;> with_reducible rfl
            simp only [Act.put, List.setIfInBounds_toArray, List.set_cons_zero, List.set_cons_succ]
            refine' wpAnyH_take (i := 22) (oi := { dst := some 99, op := Op.pick (Operand.tmp 87) (Operand.const (Value.bool true)) (Operand.tmp 98), type := 4, pos := "law.go:131", after := #[{ on := 10, ground := Ground.data }, { on := 21, ground := Ground.data }], guard := none }) (v := _) rfl (by kernel_rfl) (by kernel_rfl) (by kernel_rfl) (fun _ _ _ h => h) (Or.inl ⟨by rfl, ?_⟩) (by assumption) ?_
            rotate_left
            · intro w hSw; (try dsimp only at hSw); go_simp <;> with_reducible rfl
            simp only [Act.put, List.setIfInBounds_toArray, List.set_cons_zero, List.set_cons_succ]
            refine' wpAnyH_take (i := 23) (oi := { dst := some 100, op := Op.move (Operand.tmp 99), type := 4, pos := "law.go:131", after := #[{ on := 22, ground := Ground.data }, { on := 20, ground := Ground.chain }], guard := none }) (v := _) rfl (by kernel_rfl) (by kernel_rfl) (by kernel_rfl) (fun _ _ _ h => h) (Or.inl ⟨by rfl, ?_⟩) (by assumption) ?_
            rotate_left
            · intro w hSw; (try dsimp only at hSw); go_simp <;> with_reducible rfl
            simp only [Act.put, List.setIfInBounds_toArray, List.set_cons_zero, List.set_cons_succ]
            refine' wpAnyH_take (i := 24) (oi := { dst := some 101, op := Op.move (Operand.tmp 0), type := 22, pos := "law.go:131", after := #[{ on := 23, ground := Ground.guard }], guard := some (23, false) }) (v := _) rfl (by kernel_rfl) (by kernel_rfl) (by kernel_rfl) (fun _ _ _ h => h) (Or.inl ⟨by rfl, ?_⟩) (by assumption) ?_
            rotate_left
            · intro w hSw; (try dsimp only at hSw); go_simp <;> with_reducible rfl
            simp only [Act.put, List.setIfInBounds_toArray, List.set_cons_zero, List.set_cons_succ]
            refine' wpAnyH_take (i := 25) (oi := { dst := some 102, op := Op.move (Operand.tmp 14), type := 3, pos := "law.go:131", after := #[{ on := 23, ground := Ground.guard }], guard := some (23, false) }) (v := _) rfl (by kernel_rfl) (by kernel_rfl) (by kernel_rfl) (fun _ _ _ h => h) (Or.inl ⟨by rfl, ?_⟩) (by assumption) ?_
            rotate_left
            · intro w hSw; (try dsimp only at hSw); go_simp <;> with_reducible rfl
            simp only [Act.put, List.setIfInBounds_toArray, List.set_cons_zero, List.set_cons_succ]
            refine' wpAnyH_take (i := 26) (oi := { dst := some 103, op := Op.indexAddr 22 (Operand.tmp 101) (Operand.tmp 102), type := 0, pos := "law.go:131", after := #[{ on := 24, ground := Ground.data }, { on := 25, ground := Ground.data }, { on := 23, ground := Ground.guard }], guard := some (23, false) }) (v := _) rfl (by kernel_rfl) (by kernel_rfl) (by kernel_rfl) (fun _ _ _ h => h) (Or.inl ⟨by rfl, ?_⟩) (by assumption) ?_
            rotate_left
            · intro w hSw; (try dsimp only at hSw); go_simp <;> with_reducible rfl
            simp only [Act.put, List.setIfInBounds_toArray, List.set_cons_zero, List.set_cons_succ]
            refine' wpAnyH_take (i := 27) (oi := { dst := some 104, op := Op.load 29 (Operand.tmp 103), type := 29, pos := "law.go:131", after := #[{ on := 26, ground := Ground.data }, { on := 23, ground := Ground.guard }], guard := some (23, false) }) (v := _) rfl (by kernel_rfl) (by kernel_rfl) (by kernel_rfl) (fun _ _ _ h => h) (Or.inl ⟨by rfl, ?_⟩) (by assumption) ?_
            rotate_left
            · intro w hSw; (try dsimp only at hSw); go_simp <;> with_reducible rfl
            simp only [Act.put, List.setIfInBounds_toArray, List.set_cons_zero, List.set_cons_succ]
            refine' wpAnyH_take (i := 28) (oi := { dst := some 105, op := Op.move (Operand.tmp 2), type := 3, pos := "law.go:131", after := #[{ on := 23, ground := Ground.guard }], guard := some (23, false) }) (v := _) rfl (by kernel_rfl) (by kernel_rfl) (by kernel_rfl) (fun _ _ _ h => h) (Or.inl ⟨by rfl, ?_⟩) (by assumption) ?_
            rotate_left
            · intro w hSw; (try dsimp only at hSw); go_simp <;> with_reducible rfl
            simp only [Act.put, List.setIfInBounds_toArray, List.set_cons_zero, List.set_cons_succ]
            refine wpAnyH_ready (rs := [29]) (by kernel_rfl) (by simp) ?_
            refine AllReadyH.cons rfl (fun K hK => ?_) AllReadyH.nil
            go_simp
            go_wp2_with (first | (go_at_call 25; refine (HVz _).out.mono ?_; rintro e w6 ⟨rfl, hT6⟩; have HT6 := hide (HT5.out.trans hT6); clear hT6) | fail)
            refine hK.out _ _ ?_ (fun hHeld => ?_)
            · exact HAll.out _ HT6.out
            clear hK K
            refine' wpAnyH_take (i := 30) (oi := { dst := some 107, op := Op.unOp UnOp.not 4 (Operand.tmp 106), type := 4, pos := "law.go:131", after := #[{ on := 29, ground := Ground.data }, { on := 23, ground := Ground.guard }], guard := some (23, false) }) (v := _) rfl (by kernel_rfl) (by kernel_rfl) (by kernel_rfl) (fun _ _ _ h => h) (Or.inl ⟨by rfl, ?_⟩) (by assumption) ?_
            rotate_left
            · intro w hSw; (try dsimp only at hSw); go_simp <;> with_reducible rfl
            simp only [Act.put, List.setIfInBounds_toArray, List.set_cons_zero, List.set_cons_succ]
            refine' wpAnyH_take (i := 31) (oi := { dst := some 108, op := Op.pick (Operand.tmp 100) (Operand.const (Value.bool true)) (Operand.tmp 107), type := 4, pos := "law.go:131", after := #[{ on := 23, ground := Ground.data }, { on := 30, ground := Ground.data }], guard := none }) (v := _) rfl (by kernel_rfl) (by kernel_rfl) (by kernel_rfl) (fun _ _ _ h => h) (Or.inl ⟨by rfl, ?_⟩) (by assumption) ?_
            rotate_left
            · intro w hSw; (try dsimp only at hSw); go_simp <;> with_reducible rfl
            simp only [Act.put, List.setIfInBounds_toArray, List.set_cons_zero, List.set_cons_succ]
            refine' wpAnyH_take (i := 32) (oi := { dst := some 109, op := Op.move (Operand.tmp 108), type := 4, pos := "law.go:131", after := #[{ on := 31, ground := Ground.data }, { on := 29, ground := Ground.chain }], guard := none }) (v := _) rfl (by kernel_rfl) (by kernel_rfl) (by kernel_rfl) (fun _ _ _ h => h) (Or.inl ⟨by rfl, ?_⟩) (by assumption) ?_
            rotate_left
            · intro w hSw; (try dsimp only at hSw); go_simp <;> with_reducible rfl
            simp only [Act.put, List.setIfInBounds_toArray, List.set_cons_zero, List.set_cons_succ]
            refine' wpAnyH_take (i := 33) (oi := { dst := some 110, op := Op.move (Operand.tmp 0), type := 22, pos := "law.go:131", after := #[{ on := 32, ground := Ground.guard }], guard := some (32, false) }) (v := _) rfl (by kernel_rfl) (by kernel_rfl) (by kernel_rfl) (fun _ _ _ h => h) (Or.inl ⟨by rfl, ?_⟩) (by assumption) ?_
            rotate_left
            · intro w hSw; (try dsimp only at hSw); go_simp <;> with_reducible rfl
            simp only [Act.put, List.setIfInBounds_toArray, List.set_cons_zero, List.set_cons_succ]
            refine' wpAnyH_take (i := 34) (oi := { dst := some 111, op := Op.move (Operand.tmp 14), type := 3, pos := "law.go:131", after := #[{ on := 32, ground := Ground.guard }], guard := some (32, false) }) (v := _) rfl (by kernel_rfl) (by kernel_rfl) (by kernel_rfl) (fun _ _ _ h => h) (Or.inl ⟨by rfl, ?_⟩) (by assumption) ?_
            rotate_left
            · intro w hSw; (try dsimp only at hSw); go_simp <;> with_reducible rfl
            simp only [Act.put, List.setIfInBounds_toArray, List.set_cons_zero, List.set_cons_succ]
            refine' wpAnyH_take (i := 35) (oi := { dst := some 112, op := Op.indexAddr 22 (Operand.tmp 110) (Operand.tmp 111), type := 0, pos := "law.go:131", after := #[{ on := 33, ground := Ground.data }, { on := 34, ground := Ground.data }, { on := 32, ground := Ground.guard }], guard := some (32, false) }) (v := _) rfl (by kernel_rfl) (by kernel_rfl) (by kernel_rfl) (fun _ _ _ h => h) (Or.inl ⟨by rfl, ?_⟩) (by assumption) ?_
            rotate_left
            · intro w hSw; (try dsimp only at hSw); go_simp <;> with_reducible rfl
            simp only [Act.put, List.setIfInBounds_toArray, List.set_cons_zero, List.set_cons_succ]
            refine' wpAnyH_take (i := 36) (oi := { dst := some 113, op := Op.fieldAddr 29 (Operand.tmp 112) 3, type := 0, pos := "law.go:131", after := #[{ on := 35, ground := Ground.data }, { on := 32, ground := Ground.guard }], guard := some (32, false) }) (v := _) rfl (by kernel_rfl) (by kernel_rfl) (by kernel_rfl) (fun _ _ _ h => h) (Or.inl ⟨by rfl, ?_⟩) (by assumption) ?_
            rotate_left
            · intro w hSw; (try dsimp only at hSw); go_simp <;> with_reducible rfl
            simp only [Act.put, List.setIfInBounds_toArray, List.set_cons_zero, List.set_cons_succ]
            refine' wpAnyH_take (i := 37) (oi := { dst := some 114, op := Op.load 3 (Operand.tmp 113), type := 3, pos := "law.go:131", after := #[{ on := 36, ground := Ground.data }, { on := 32, ground := Ground.guard }], guard := some (32, false) }) (v := _) rfl (by kernel_rfl) (by kernel_rfl) (by kernel_rfl) (fun _ _ _ h => h) (Or.inl ⟨by rfl, ?_⟩) (by assumption) ?_
            rotate_left
            · intro w hSw; (try dsimp only at hSw); go_simp <;> with_reducible rfl
            simp only [Act.put, List.setIfInBounds_toArray, List.set_cons_zero, List.set_cons_succ]
            refine' wpAnyH_take (i := 38) (oi := { dst := some 115, op := Op.move (Operand.tmp 12), type := 3, pos := "law.go:131", after := #[{ on := 32, ground := Ground.guard }], guard := some (32, false) }) (v := _) rfl (by kernel_rfl) (by kernel_rfl) (by kernel_rfl) (fun _ _ _ h => h) (Or.inl ⟨by rfl, ?_⟩) (by assumption) ?_
            rotate_left
            · intro w hSw; (try dsimp only at hSw); go_simp <;> with_reducible rfl
            simp only [Act.put, List.setIfInBounds_toArray, List.set_cons_zero, List.set_cons_succ]
            refine' wpAnyH_take (i := 39) (oi := { dst := some 116, op := Op.binOp BinOp.lss 3 (Operand.tmp 114) (Operand.tmp 115) 3, type := 4, pos := "law.go:131", after := #[{ on := 37, ground := Ground.data }, { on := 38, ground := Ground.data }, { on := 32, ground := Ground.guard }], guard := some (32, false) }) (v := _) rfl (by kernel_rfl) (by kernel_rfl) (by kernel_rfl) (fun _ _ _ h => h) (Or.inl ⟨by rfl, ?_⟩) (by assumption) ?_
            rotate_left
            · intro w hSw; (try dsimp only at hSw); go_simp <;> with_reducible rfl
            simp only [Act.put, List.setIfInBounds_toArray, List.set_cons_zero, List.set_cons_succ]
            refine' wpAnyH_take (i := 40) (oi := { dst := some 117, op := Op.pick (Operand.tmp 109) (Operand.const (Value.bool true)) (Operand.tmp 116), type := 4, pos := "law.go:131", after := #[{ on := 32, ground := Ground.data }, { on := 39, ground := Ground.data }], guard := none }) (v := _) rfl (by kernel_rfl) (by kernel_rfl) (by kernel_rfl) (fun _ _ _ h => h) (Or.inl ⟨by rfl, ?_⟩) (by assumption) ?_
            rotate_left
            · intro w hSw; (try dsimp only at hSw); go_simp <;> with_reducible rfl
            simp only [Act.put, List.setIfInBounds_toArray, List.set_cons_zero, List.set_cons_succ]
            refine' wpAnyH_take (i := 41) (oi := { dst := some 118, op := Op.move (Operand.tmp 117), type := 4, pos := "law.go:131", after := #[{ on := 40, ground := Ground.data }, { on := 32, ground := Ground.chain }], guard := none }) (v := _) rfl (by kernel_rfl) (by kernel_rfl) (by kernel_rfl) (fun _ _ _ h => h) (Or.inl ⟨by rfl, ?_⟩) (by assumption) ?_
            rotate_left
            · intro w hSw; (try dsimp only at hSw); go_simp <;> with_reducible rfl
            simp only [Act.put, List.setIfInBounds_toArray, List.set_cons_zero, List.set_cons_succ]
            refine' wpAnyH_take (i := 42) (oi := { dst := some 119, op := Op.move (Operand.tmp 13), type := 3, pos := "law.go:131", after := #[{ on := 41, ground := Ground.guard }], guard := some (41, false) }) (v := _) rfl (by kernel_rfl) (by kernel_rfl) (by kernel_rfl) (fun _ _ _ h => h) (Or.inl ⟨by rfl, ?_⟩) (by assumption) ?_
            rotate_left
            · intro w hSw; (try dsimp only at hSw); go_simp <;> with_reducible rfl
            simp only [Act.put, List.setIfInBounds_toArray, List.set_cons_zero, List.set_cons_succ]
            refine' wpAnyH_take (i := 43) (oi := { dst := some 120, op := Op.binOp BinOp.add 3 (Operand.tmp 119) (Operand.const (Value.int IntKind.i64 1)) 3, type := 3, pos := "law.go:131", after := #[{ on := 42, ground := Ground.data }, { on := 41, ground := Ground.guard }], guard := some (41, false) }) (v := _) rfl (by kernel_rfl) (by kernel_rfl) (by kernel_rfl) (fun _ _ _ h => h) (Or.inl ⟨by rfl, ?_⟩) (by assumption) ?_
            rotate_left
            · intro w hSw; (try dsimp only at hSw); go_simp <;> with_reducible rfl
            simp only [Act.put, List.setIfInBounds_toArray, List.set_cons_zero, List.set_cons_succ]
            refine' wpAnyH_take (i := 44) (oi := { dst := some 121, op := Op.move (Operand.tmp 9), type := 38, pos := "law.go:131", after := #[{ on := 41, ground := Ground.guard }], guard := some (41, false) }) (v := _) rfl (by kernel_rfl) (by kernel_rfl) (by kernel_rfl) (fun _ _ _ h => h) (Or.inl ⟨by rfl, ?_⟩) (by assumption) ?_
            rotate_left
            · intro w hSw; (try dsimp only at hSw); go_simp <;> with_reducible rfl
            simp only [Act.put, List.setIfInBounds_toArray, List.set_cons_zero, List.set_cons_succ]
            refine' wpAnyH_take (i := 45) (oi := { dst := some 122, op := Op.call { callee := Callee.builtin Builtin.len, args := #[Operand.tmp 121], argTypes := #[38] }, type := 3, pos := "law.go:131", after := #[{ on := 44, ground := Ground.data }, { on := 41, ground := Ground.guard }], guard := some (41, false) }) (v := _) rfl (by kernel_rfl) (by kernel_rfl) (by kernel_rfl) (fun _ _ _ h => h) (Or.inl ⟨by rfl, ?_⟩) (by assumption) ?_
            rotate_left
            · intro w hSw; (try dsimp only at hSw); go_simp <;> with_reducible rfl
            simp only [Act.put, List.setIfInBounds_toArray, List.set_cons_zero, List.set_cons_succ]
            refine' wpAnyH_take (i := 46) (oi := { dst := some 123, op := Op.binOp BinOp.lss 3 (Operand.tmp 120) (Operand.tmp 122) 3, type := 4, pos := "law.go:131", after := #[{ on := 43, ground := Ground.data }, { on := 45, ground := Ground.data }, { on := 41, ground := Ground.guard }], guard := some (41, false) }) (v := _) rfl (by kernel_rfl) (by kernel_rfl) (by kernel_rfl) (fun _ _ _ h => h) (Or.inl ⟨by rfl, ?_⟩) (by assumption) ?_
            rotate_left
            · intro w hSw; (try dsimp only at hSw); go_simp <;> with_reducible rfl
            simp only [Act.put, List.setIfInBounds_toArray, List.set_cons_zero, List.set_cons_succ]
            refine' wpAnyH_take (i := 47) (oi := { dst := some 124, op := Op.move (Operand.tmp 123), type := 4, pos := "law.go:131", after := #[{ on := 46, ground := Ground.data }, { on := 41, ground := Ground.chain }, { on := 41, ground := Ground.guard }], guard := some (41, false) }) (v := _) rfl (by kernel_rfl) (by kernel_rfl) (by kernel_rfl) (fun _ _ _ h => h) (Or.inl ⟨by rfl, ?_⟩) (by assumption) ?_
            rotate_left
            · intro w hSw; (try dsimp only at hSw); go_simp <;> with_reducible rfl
            simp only [Act.put, List.setIfInBounds_toArray, List.set_cons_zero, List.set_cons_succ]
            refine wpAnyH_take (i := 48) (oi := { dst := some 125, op := Op.move (Operand.tmp 9), type := 38, pos := "law.go:131", after := #[{ on := 47, ground := Ground.guard }], guard := some (47, true) }) (v := undef) rfl (by kernel_rfl) (by kernel_rfl) (by kernel_rfl) (fun _ _ _ h => h) (Or.inr ⟨by rfl, rfl⟩) (by assumption) ?_
            simp only [Act.put, List.setIfInBounds_toArray, List.set_cons_zero, List.set_cons_succ]
            refine wpAnyH_take (i := 49) (oi := { dst := some 126, op := Op.move (Operand.tmp 13), type := 3, pos := "law.go:131", after := #[{ on := 47, ground := Ground.guard }], guard := some (47, true) }) (v := undef) rfl (by kernel_rfl) (by kernel_rfl) (by kernel_rfl) (fun _ _ _ h => h) (Or.inr ⟨by rfl, rfl⟩) (by assumption) ?_
            simp only [Act.put, List.setIfInBounds_toArray, List.set_cons_zero, List.set_cons_succ]
            refine wpAnyH_take (i := 50) (oi := { dst := some 127, op := Op.indexAddr 38 (Operand.tmp 125) (Operand.tmp 126), type := 0, pos := "law.go:131", after := #[{ on := 48, ground := Ground.data }, { on := 49, ground := Ground.data }, { on := 47, ground := Ground.guard }], guard := some (47, true) }) (v := undef) rfl (by kernel_rfl) (by kernel_rfl) (by kernel_rfl) (fun _ _ _ h => h) (Or.inr ⟨by rfl, rfl⟩) (by assumption) ?_
            simp only [Act.put, List.setIfInBounds_toArray, List.set_cons_zero, List.set_cons_succ]
            refine wpAnyH_take (i := 51) (oi := { dst := some 128, op := Op.fieldAddr 47 (Operand.tmp 127) 1, type := 0, pos := "law.go:131", after := #[{ on := 50, ground := Ground.data }, { on := 47, ground := Ground.guard }], guard := some (47, true) }) (v := undef) rfl (by kernel_rfl) (by kernel_rfl) (by kernel_rfl) (fun _ _ _ h => h) (Or.inr ⟨by rfl, rfl⟩) (by assumption) ?_
            simp only [Act.put, List.setIfInBounds_toArray, List.set_cons_zero, List.set_cons_succ]
            refine wpAnyH_take (i := 52) (oi := { dst := some 129, op := Op.load 3 (Operand.tmp 128), type := 3, pos := "law.go:131", after := #[{ on := 51, ground := Ground.data }, { on := 47, ground := Ground.guard }], guard := some (47, true) }) (v := undef) rfl (by kernel_rfl) (by kernel_rfl) (by kernel_rfl) (fun _ _ _ h => h) (Or.inr ⟨by rfl, rfl⟩) (by assumption) ?_
            simp only [Act.put, List.setIfInBounds_toArray, List.set_cons_zero, List.set_cons_succ]
            refine wpAnyH_take (i := 53) (oi := { dst := some 130, op := Op.move (Operand.tmp 0), type := 22, pos := "law.go:131", after := #[{ on := 47, ground := Ground.guard }], guard := some (47, true) }) (v := undef) rfl (by kernel_rfl) (by kernel_rfl) (by kernel_rfl) (fun _ _ _ h => h) (Or.inr ⟨by rfl, rfl⟩) (by assumption) ?_
            simp only [Act.put, List.setIfInBounds_toArray, List.set_cons_zero, List.set_cons_succ]
            refine wpAnyH_take (i := 54) (oi := { dst := some 131, op := Op.move (Operand.tmp 14), type := 3, pos := "law.go:131", after := #[{ on := 47, ground := Ground.guard }], guard := some (47, true) }) (v := undef) rfl (by kernel_rfl) (by kernel_rfl) (by kernel_rfl) (fun _ _ _ h => h) (Or.inr ⟨by rfl, rfl⟩) (by assumption) ?_
            simp only [Act.put, List.setIfInBounds_toArray, List.set_cons_zero, List.set_cons_succ]
            refine wpAnyH_take (i := 55) (oi := { dst := some 132, op := Op.indexAddr 22 (Operand.tmp 130) (Operand.tmp 131), type := 0, pos := "law.go:131", after := #[{ on := 53, ground := Ground.data }, { on := 54, ground := Ground.data }, { on := 47, ground := Ground.guard }], guard := some (47, true) }) (v := undef) rfl (by kernel_rfl) (by kernel_rfl) (by kernel_rfl) (fun _ _ _ h => h) (Or.inr ⟨by rfl, rfl⟩) (by assumption) ?_
            simp only [Act.put, List.setIfInBounds_toArray, List.set_cons_zero, List.set_cons_succ]
            refine wpAnyH_take (i := 56) (oi := { dst := some 133, op := Op.load 29 (Operand.tmp 132), type := 29, pos := "law.go:131", after := #[{ on := 55, ground := Ground.data }, { on := 47, ground := Ground.guard }], guard := some (47, true) }) (v := undef) rfl (by kernel_rfl) (by kernel_rfl) (by kernel_rfl) (fun _ _ _ h => h) (Or.inr ⟨by rfl, rfl⟩) (by assumption) ?_
            simp only [Act.put, List.setIfInBounds_toArray, List.set_cons_zero, List.set_cons_succ]
            refine wpAnyH_take (i := 57) (oi := { dst := some 134, op := Op.call { callee := Callee.value (Operand.func 13), args := #[Operand.tmp 133], argTypes := #[29] }, type := 3, pos := "law.go:131", after := #[{ on := 56, ground := Ground.data }, { on := 47, ground := Ground.chain }, { on := 47, ground := Ground.guard }], guard := some (47, true) }) (v := undef) rfl (by kernel_rfl) (by kernel_rfl) (by kernel_rfl) (fun _ _ _ h => h) (Or.inr ⟨by rfl, rfl⟩) (by assumption) ?_
            simp only [Act.put, List.setIfInBounds_toArray, List.set_cons_zero, List.set_cons_succ]
            refine wpAnyH_take (i := 58) (oi := { dst := some 135, op := Op.binOp BinOp.neq 3 (Operand.tmp 129) (Operand.tmp 134) 3, type := 4, pos := "law.go:131", after := #[{ on := 52, ground := Ground.data }, { on := 57, ground := Ground.data }, { on := 47, ground := Ground.guard }], guard := some (47, true) }) (v := undef) rfl (by kernel_rfl) (by kernel_rfl) (by kernel_rfl) (fun _ _ _ h => h) (Or.inr ⟨by rfl, rfl⟩) (by assumption) ?_
            simp only [Act.put, List.setIfInBounds_toArray, List.set_cons_zero, List.set_cons_succ]
            refine' wpAnyH_take (i := 59) (oi := { dst := some 136, op := Op.pick (Operand.tmp 124) (Operand.tmp 135) (Operand.const (Value.bool false)), type := 4, pos := "law.go:131", after := #[{ on := 47, ground := Ground.data }, { on := 58, ground := Ground.data }, { on := 41, ground := Ground.guard }], guard := some (41, false) }) (v := _) rfl (by kernel_rfl) (by kernel_rfl) (by kernel_rfl) (fun _ _ _ h => h) (Or.inl ⟨by rfl, ?_⟩) (by assumption) ?_
            rotate_left
            · intro w hSw; (try dsimp only at hSw); go_simp <;> with_reducible rfl
            simp only [Act.put, List.setIfInBounds_toArray, List.set_cons_zero, List.set_cons_succ]
            refine' wpAnyH_take (i := 60) (oi := { dst := some 137, op := Op.pick (Operand.tmp 118) (Operand.const (Value.bool true)) (Operand.tmp 136), type := 4, pos := "law.go:131", after := #[{ on := 41, ground := Ground.data }, { on := 59, ground := Ground.data }], guard := none }) (v := _) rfl (by kernel_rfl) (by kernel_rfl) (by kernel_rfl) (fun _ _ _ h => h) (Or.inl ⟨by rfl, ?_⟩) (by assumption) ?_
            rotate_left
            · intro w hSw; (try dsimp only at hSw); go_simp <;> with_reducible rfl
            simp only [Act.put, List.setIfInBounds_toArray, List.set_cons_zero, List.set_cons_succ]
            refine wpAnyH_done (by kernel_rfl) ?_ _
            refine NoPanic.normal ?_
            go_wp2_with fail
            go_meet
            case rel => exact ⟨rfl, HT6.out⟩
        case rest =>
          obtain ⟨rfl, hTc⟩ := hcut
          have HTc := hide hTc
          have hz' := HZ.out.turn hTc (by simp)
          have e1 := (hTc.cell (p := ⟨pb, po + j * 2 + 1, none⟩) hpb (by simp)).trans d1
          have g4 := (hTc.cell (p := ⟨g1, i * 9 + 4, none⟩) hg1 (by simp)).trans f4
          have g5 := (hTc.cell (p := ⟨g1, i * 9 + 5, none⟩) hg1 (by simp)).trans f5
          have g6 := (hTc.cell (p := ⟨g1, i * 9 + 6, none⟩) hg1 (by simp)).trans f6
          have HGc := hide (HGr.out.turn0 hTc)
          have HAc := hide (HAr.out.turn hTc (by simp))
          have HPc := hide (HPr.out.turn0 hTc)
          have hb' := hz'.lt
          have hpb' := lt_of_cell e1
          have hg1' := lt_of_cell g4
          have hwh : IntKind.i64.wrap (z.he + pn) = z.he + pn := by rw [IntKind.wrap_i64]; have := HZh.out; omega
          have hsp : 0 ≤ sm + pn ∧ sm + pn ≤ 10000 * (j + 1) := by omega
          obtain ⟨x0, x1, x2, x3, x4, x5, x6, x7, x8⟩ := hz'
          clear hTc d0 d1 c0 c1 c2 c3 c4 c5 c6 c7 c8 f0 f1 f2 f3 f4 f5 f6 f7 f8 HGr HAr HPr HXd hp1 hp2 hp3 HRz HVz hlast2 hw9
          go_wp2_with fail
          go_quiet (fail)
          have HTq := hide ((HT.out.trans HTc.out).drewN nq)
          have HGq := hide (HGc.out.turn0 ((Turn.refl [] wc).drewN nq))
          have HAq := hide (HAc.out.turn ((Turn.refl [] wc).drewN nq) (by simp))
          have HPq := hide (HPc.out.turn0 ((Turn.refl [] wc).drewN nq))
          generalize wc.drewN nq = wq at *
          clear x0 x1 x2 x3 x4 x5 x6 x7 x8 e1 g4 g5 g6 HT HTc HGc HAc HPc
          go_wp2_with fail
          go_roundw
          case rel => exact ⟨j + 1, sm + pn, z.un, by omega, rfl, rfl, by go_num, hsp.1, by have := hsp.2; simp; omega, HSn, HU, HGq, HAq, HPq, HTq.out⟩
          case measure => simp [intOf]; omega
      · obtain rfl : j = P.length := by omega
        have HE : Hid (sm = n - x) := by
          unfold Hid
          rw [HSm.out, List.take_of_length_le (Nat.le_refl _), HK.out.sum]
        have hE := HE.out
        subst hE
        clear HSm HLa HE
        go_wp2_with fail
        go_ret
        exact ⟨rfl, HT.out⟩

end Go.Proofs.Ytegbinlpojpffaa
