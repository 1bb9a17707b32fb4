/-
  An account, parsed, walked.
-/
import Derived.Test.YtghgkjollafeiaaAc
import Derived.Deep.CutRange
import Derived.Deep.CutBlock
namespace Go.Proofs.Ytghgkjollafeiaa
open Go.RowKit

set_option maxRecDepth 100000 in
set_option maxHeartbeats 6400000 in
theorem paccount {w : World} {b g : Nat} {s : Sx} (rb : Nat) (hp : Ps w b g s) (hb : rb ≠ b) (hg : rb ≠ g) (hgl : g < w.heap.size) (hf : ∀ o, w.frozen? ⟨rb, o, none⟩ = false) (hA : AccAt w rb noT noT noT (nz 9) (nz 3) (.slice none 0 0) (nz 2) (.slice none 0 0) (.slice none 0 0)) :
    Calls Try.prog 29 #[.agg #[ifc .pr b], .pointer (some ⟨rb, 0, none⟩)] w fun r w' => r = .returned (.tuple #[]) ∧ Ps w' b g (FA s).1 ∧ PStep b rb 0 20 w w' ∧ AccG w.heap.size w' rb (FA s).2 := by
  have hrl : rb < w.heap.size := lt_of_cell hA.nm
  have hbl := hp.lt
  have hK0 : Keep (fun _ => True) w (w.alloc (.cells #[ifc .pr b] 77)) := (Keep.refl _ w).alloc _
  have hs0 : (w.alloc (.cells #[ifc .pr b] 77)).heap.size = w.heap.size + 1 := by simp
  have hk0 : (w.alloc (.cells #[ifc .pr b] 77)).cell? ⟨w.heap.size, 0, none⟩ = some (ifc .pr b) := World.cell?_alloc_at _ _ _ _ rfl
  have HP0 := hide (hp.keep (hK0.less (fun _ _ _ => trivial)))
  have HF0 : Hid (∀ o, (w.alloc (.cells #[ifc .pr b] 77)).frozen? ⟨rb, o, none⟩ = false) := fun o => (hK0.fz hrl trivial).trans (hf o)
  have HA0 : Hid (AccAt (w.alloc (.cells #[ifc .pr b] 77)) rb noT noT noT (nz 9) (nz 3) (.slice none 0 0) (nz 2) (.slice none 0 0) (.slice none 0 0)) := AccAt.of (fun j v hj => (hK0.cell hrl trivial).trans (hA.range j v hj)) rfl rfl rfl
  have HK0 := hide hK0
  clear hf hA hp hK0
  obtain ⟨s1, hs1⟩ : ∃ t, (fa1 s).1 = t := ⟨_, rfl⟩
  obtain ⟨x1, hx1⟩ : ∃ t, (fa1 s).2 = t := ⟨_, rfl⟩
  obtain ⟨s2, hs2⟩ : ∃ t, (fa2 s).1 = t := ⟨_, rfl⟩
  obtain ⟨x2, hx2⟩ : ∃ t, (fa2 s).2 = t := ⟨_, rfl⟩
  obtain ⟨s3, hs3⟩ : ∃ t, (fa3 s).1 = t := ⟨_, rfl⟩
  obtain ⟨x3, hx3⟩ : ∃ t, (fa3 s).2.1 = t := ⟨_, rfl⟩
  obtain ⟨y3, hy3⟩ : ∃ t, (fa3 s).2.2 = t := ⟨_, rfl⟩
  obtain ⟨s4, hs4⟩ : ∃ t, (fa4 s).1 = t := ⟨_, rfl⟩
  obtain ⟨x4, hx4⟩ : ∃ t, (fa4 s).2 = t := ⟨_, rfl⟩
  obtain ⟨s5, hs5⟩ : ∃ t, (fa5 s).1 = t := ⟨_, rfl⟩
  obtain ⟨x5, hx5⟩ : ∃ t, (fa5 s).2 = t := ⟨_, rfl⟩
  obtain ⟨s6, hs6⟩ : ∃ t, (fa6 s).1 = t := ⟨_, rfl⟩
  obtain ⟨x6, hx6⟩ : ∃ t, (fa6 s).2 = t := ⟨_, rfl⟩
  obtain ⟨s7, hs7⟩ : ∃ t, (fa7 s).1 = t := ⟨_, rfl⟩
  obtain ⟨x7, hx7⟩ : ∃ t, (fa7 s).2 = t := ⟨_, rfl⟩
  obtain ⟨s8, hs8⟩ : ∃ t, (fa8 s).1 = t := ⟨_, rfl⟩
  obtain ⟨x8, hx8⟩ : ∃ t, (fa8 s).2 = t := ⟨_, rfl⟩
  rw [show FA s = (s8, ⟨x1, x2, x3, y3, x4, x5, x6, x7, x8⟩) by unfold FA; rw [hs8, hx1, hx2, hx3, hy3, hx4, hx5, hx6, hx7, hx8]]
  have HL3 : Hid (y3.length = 9) := by
    show _ = _
    rw [← hy3]
    show (numsS .pr (textS .pr (fa2 s).1 noT).1 (nz 9)).2.length = 9
    exact numsP_len _ 9
  have HL4 : Hid (x4.length = 3) := by
    show _ = _
    rw [← hx4]
    show (numsS .pr (fa3 s).1 (nz 3)).2.length = 3
    exact numsP_len _ 3
  have HL6 : Hid (x6.length = 2) := by
    show _ = _
    rw [← hx6]
    show (numsS .pr (fa5 s).1 (nz 2)).2.length = 2
    exact numsP_len _ 2
  have HE8 : Hid ((listS FE s7).1 = s8 ∧ (listS FE s7).2 = x8) := by rw [← hs7]; exact ⟨hs8, hx8⟩
  have HE7 : Hid ((listS FH s6).1 = s7 ∧ (listS FH s6).2 = x7) := by rw [← hs6]; exact ⟨hs7, hx7⟩
  have HE6 : Hid ((numsS .pr s5 (nz 2)).1 = s6 ∧ (numsS .pr s5 (nz 2)).2 = x6) := by rw [← hs5]; exact ⟨hs6, hx6⟩
  have HE5 : Hid ((listS F9 s4).1 = s5 ∧ (listS F9 s4).2 = x5) := by rw [← hs4]; exact ⟨hs5, hx5⟩
  have HE4 : Hid ((numsS .pr s3 (nz 3)).1 = s4 ∧ (numsS .pr s3 (nz 3)).2 = x4) := by rw [← hs3]; exact ⟨hs4, hx4⟩
  have HE3 : Hid ((tiS .pr s2 noT (nz 9)).1 = s3 ∧ (tiS .pr s2 noT (nz 9)).2.1 = x3 ∧ (tiS .pr s2 noT (nz 9)).2.2 = y3) := by rw [← hs2]; exact ⟨hs3, hx3, hy3⟩
  have HE2 : Hid ((textS .pr s1 noT).1 = s2 ∧ (textS .pr s1 noT).2 = x2) := by rw [← hs1]; exact ⟨hs2, hx2⟩
  have HE1 : Hid ((textS .pr s noT).1 = s1 ∧ (textS .pr s noT).2 = x1) := ⟨hs1, hx1⟩
  clear hs1 hx1 hs2 hx2 hs3 hx3 hy3 hs4 hx4 hs5 hx5 hs6 hx6 hs7 hx7 hs8 hx8
  generalize hrk : w.heap.size = rk at *
  have hrkr : rk ≠ rb := by omega
  have hrkb : rk ≠ b := by omega
  have h2 := mT_pr b
  go_enter Try.func29, Try.ntmps29
  go_upto_region 1 with fail
  have HRk := hide hrk
  clear hrk
  generalize w.alloc (.cells #[ifc .pr b] 77) = w0 at *
  dsimp only [ifc, tyOf] at hk0
  have HSt0 : Hid (PStep b rb 0 20 w0 w0) := Step.refl _ _ _ _ _
  have hzr1 : rk < w0.heap.size := lt_of_cell hk0
  have HD1 := hide (Ps.text (w := w0.drew) rb 0 noT HP0.out.drew hb hg HA0.out.nm HF0.out)
  rw [HE1.out.1, HE1.out.2] at HD1
  go_cut [] from 4 to 61 (fun wx => Hid (Ps wx b g s1) ∧ Hid (AccAt wx rb x1 noT noT (nz 9) (nz 3) (.slice none 0 0) (nz 2) (.slice none 0 0) (.slice none 0 0)) ∧ Hid (PStep b rb 0 20 w0 wx) ∧ wx.cell? ⟨rk, 0, none⟩ = some (Value.iface 130 (.pointer (some ⟨b, 0, none⟩))))
  case first =>
    go_region_with (go_at_call 96; refine HD1.out.mono ?_; rintro e wn ⟨rfl, hP, hc, hst⟩; have HM := hide (show (fun wx => Hid (Ps wx b g s1) ∧ Hid (AccAt wx rb x1 noT noT (nz 9) (nz 3) (.slice none 0 0) (nz 2) (.slice none 0 0) (.slice none 0 0)) ∧ Hid (PStep b rb 0 20 w0 wx) ∧ wx.cell? ⟨rk, 0, none⟩ = some (Value.iface 130 (.pointer (some ⟨b, 0, none⟩)))) wn from ⟨hP, HA0.out.uN hst.undrew hc, HSt0.out.trans (hst.undrew.wide (by omega) (by omega)), (hst.undrew.keep.cell (b := rk) (o := 0) hzr1 ⟨hrkb, hrkr⟩).trans hk0⟩); clear hP hc hst)
    all_goals
      go_wp2_with fail
      go_meet
      case rel => exact HM.out
  case rest =>
    rename World => w1
    obtain ⟨HP1, HA1, HSt1, hk1⟩ := hcut
    clear HD1
    have hzr2 : rk < w1.heap.size := lt_of_cell hk1
    have HF1 : Hid (∀ o, w1.frozen? ⟨rb, o, none⟩ = false) := fun o => (HSt1.out.fz o).trans (HF0.out o)
    have HD2 := hide (Ps.text (w := w1.drew) rb 1 noT HP1.out.drew hb hg HA1.out.key HF1.out)
    rw [HE2.out.1, HE2.out.2] at HD2
    go_upto_region 2 with fail
    go_cut [] from 4 to 61 (fun wx => Hid (Ps wx b g s2) ∧ Hid (AccAt wx rb x1 x2 noT (nz 9) (nz 3) (.slice none 0 0) (nz 2) (.slice none 0 0) (.slice none 0 0)) ∧ Hid (PStep b rb 0 20 w0 wx) ∧ wx.cell? ⟨rk, 0, none⟩ = some (Value.iface 130 (.pointer (some ⟨b, 0, none⟩))))
    case first =>
      go_region_with (go_at_call 96; refine HD2.out.mono ?_; rintro e wn ⟨rfl, hP, hc, hst⟩; have HM := hide (show (fun wx => Hid (Ps wx b g s2) ∧ Hid (AccAt wx rb x1 x2 noT (nz 9) (nz 3) (.slice none 0 0) (nz 2) (.slice none 0 0) (.slice none 0 0)) ∧ Hid (PStep b rb 0 20 w0 wx) ∧ wx.cell? ⟨rk, 0, none⟩ = some (Value.iface 130 (.pointer (some ⟨b, 0, none⟩)))) wn from ⟨hP, HA1.out.uK hst.undrew hc, HSt1.out.trans (hst.undrew.wide (by omega) (by omega)), (hst.undrew.keep.cell (b := rk) (o := 0) hzr2 ⟨hrkb, hrkr⟩).trans hk1⟩); clear hP hc hst)
      all_goals
        go_wp2_with fail
        go_meet
        case rel => exact HM.out
    case rest =>
      rename World => w2
      obtain ⟨HP2, HA2, HSt2, hk2⟩ := hcut
      clear HD2
      clear HF1
      have hzr3 : rk < w2.heap.size := lt_of_cell hk2
      have HF2 : Hid (∀ o, w2.frozen? ⟨rb, o, none⟩ = false) := fun o => (HSt2.out.fz o).trans (HF0.out o)
      have HD3 := hide (Ps.plan (w := w2.drew) rb 2 noT (nz 9) rfl HP2.out.drew hb hg HA2.out.pn HA2.out.px HF2.out)
      rw [HE3.out.1, HE3.out.2.1, HE3.out.2.2] at HD3
      go_upto_region 3 with fail
      go_cut [] from 4 to 61 (fun wx => Hid (Ps wx b g s3) ∧ Hid (AccAt wx rb x1 x2 x3 y3 (nz 3) (.slice none 0 0) (nz 2) (.slice none 0 0) (.slice none 0 0)) ∧ Hid (PStep b rb 0 20 w0 wx) ∧ wx.cell? ⟨rk, 0, none⟩ = some (Value.iface 130 (.pointer (some ⟨b, 0, none⟩))))
      case first =>
        go_region_with (go_at_call 42; refine HD3.out.mono ?_; rintro e wn ⟨rfl, hP, hc, hi, hst⟩; have HM := hide (show (fun wx => Hid (Ps wx b g s3) ∧ Hid (AccAt wx rb x1 x2 x3 y3 (nz 3) (.slice none 0 0) (nz 2) (.slice none 0 0) (.slice none 0 0)) ∧ Hid (PStep b rb 0 20 w0 wx) ∧ wx.cell? ⟨rk, 0, none⟩ = some (Value.iface 130 (.pointer (some ⟨b, 0, none⟩)))) wn from ⟨hP, HA2.out.uP hst.undrew hc hi HL3.out, HSt2.out.trans (hst.undrew.wide (by omega) (by omega)), (hst.undrew.keep.cell (b := rk) (o := 0) hzr3 ⟨hrkb, hrkr⟩).trans hk2⟩); clear hP hc hi hst)
        all_goals
          go_wp2_with fail
          go_meet
          case rel => exact HM.out
      case rest =>
        rename World => w3
        obtain ⟨HP3, HA3, HSt3, hk3⟩ := hcut
        clear HD3
        clear HF2
        have hzr4 : rk < w3.heap.size := lt_of_cell hk3
        have HF3 : Hid (∀ o, w3.frozen? ⟨rb, o, none⟩ = false) := fun o => (HSt3.out.fz o).trans (HF0.out o)
        go_upto_region 4 with fail
        go_cut [] from 4 to 61 (fun wx => Hid (Ps wx b g s4) ∧ Hid (AccAt wx rb x1 x2 x3 y3 x4 (.slice none 0 0) (nz 2) (.slice none 0 0) (.slice none 0 0)) ∧ Hid (PStep b rb 0 20 w0 wx) ∧ wx.cell? ⟨rk, 0, none⟩ = some (Value.iface 130 (.pointer (some ⟨b, 0, none⟩))))
        case first =>
          have HD4 := hide (Ps.nums (w := w3) rb 12 3 _ (ptrs_a3 rb) (nz 3) rfl (by omega) (by omega) HP3.out hb hg HA3.out.t HF3.out)
          rw [HE4.out.1, HE4.out.2] at HD4
          go_region_with (go_at_call 52; refine HD4.out.mono ?_; rintro e wn ⟨rfl, hP, hi, hst⟩; have HM := hide (show (fun wx => Hid (Ps wx b g s4) ∧ Hid (AccAt wx rb x1 x2 x3 y3 x4 (.slice none 0 0) (nz 2) (.slice none 0 0) (.slice none 0 0)) ∧ Hid (PStep b rb 0 20 w0 wx) ∧ wx.cell? ⟨rk, 0, none⟩ = some (Value.iface 130 (.pointer (some ⟨b, 0, none⟩)))) wn from ⟨hP, HA3.out.uT hst hi HL4.out, HSt3.out.trans (hst.wide (by omega) (by omega)), (hst.keep.cell (b := rk) (o := 0) hzr4 ⟨hrkb, hrkr⟩).trans hk3⟩); clear hP hi hst)
          all_goals
            go_wp2_with fail
            go_meet
            case rel => exact HM.out
        case rest =>
          rename World => w4
          obtain ⟨HP4, HA4, HSt4, hk4⟩ := hcut
          clear HF3
          have hzr5 : rk < w4.heap.size := lt_of_cell hk4
          have HF4 : Hid (∀ o, w4.frozen? ⟨rb, o, none⟩ = false) := fun o => (HSt4.out.fz o).trans (HF0.out o)
          have HD5 := hide (plist_lot (w := w4.drew) rb 15 F9 IntsG ints_stays (carries_lot b g) HP4.out.drew hb hg (by show g < w4.heap.size; omega) HA4.out.v1 HF4.out)
          rw [HE5.out.1, HE5.out.2] at HD5
          go_upto_region 5 with fail
          go_cut [] from 4 to 61 (fun wx => ∃ v1 p1, Hid (Ps wx b g s5) ∧ Hid (AccAt wx rb x1 x2 x3 y3 x4 v1 (nz 2) (.slice none 0 0) (.slice none 0 0)) ∧ Hid (PStep b rb 0 20 w0 wx) ∧ wx.cell? ⟨rk, 0, none⟩ = some (Value.iface 130 (.pointer (some ⟨b, 0, none⟩))) ∧ Hid (p1.map Prod.snd = x5) ∧ Hid (RowP w0.heap.size wx 82 9 IntsG v1 p1))
          case first =>
            go_region_with (go_at_call 53; refine HD5.out.mono ?_; rintro e wn ⟨rfl, hP, hst, v, p, hv, hpp, hrow⟩; have HM := hide (show (fun wx => ∃ v1 p1, Hid (Ps wx b g s5) ∧ Hid (AccAt wx rb x1 x2 x3 y3 x4 v1 (nz 2) (.slice none 0 0) (.slice none 0 0)) ∧ Hid (PStep b rb 0 20 w0 wx) ∧ wx.cell? ⟨rk, 0, none⟩ = some (Value.iface 130 (.pointer (some ⟨b, 0, none⟩))) ∧ Hid (p1.map Prod.snd = x5) ∧ Hid (RowP w0.heap.size wx 82 9 IntsG v1 p1)) wn from ⟨v, p, hP, HA4.out.u1 hst.undrew hv, HSt4.out.trans (hst.undrew.wide (by omega) (by omega)), (hst.undrew.keep.cell (b := rk) (o := 0) hzr5 ⟨hrkb, hrkr⟩).trans hk4, hpp, hrow.base (by show w0.heap.size ≤ w4.heap.size; exact HSt4.out.keep.size)⟩); clear hP hst hv hpp hrow)
            all_goals
              go_wp2_with fail
              go_meet
              case rel => exact HM.out
          case rest =>
            rename World => w5
            obtain ⟨v1, p1, HP5, HA5, HSt5, hk5, HQ_v1, HR_v1⟩ := hcut
            clear HD5
            clear HF4
            have hzr6 : rk < w5.heap.size := lt_of_cell hk5
            have HF5 : Hid (∀ o, w5.frozen? ⟨rb, o, none⟩ = false) := fun o => (HSt5.out.fz o).trans (HF0.out o)
            go_upto_region 6 with fail
            go_cut [] from 4 to 61 (fun wx => Hid (Ps wx b g s6) ∧ Hid (AccAt wx rb x1 x2 x3 y3 x4 v1 x6 (.slice none 0 0) (.slice none 0 0)) ∧ Hid (PStep b rb 0 20 w0 wx) ∧ wx.cell? ⟨rk, 0, none⟩ = some (Value.iface 130 (.pointer (some ⟨b, 0, none⟩))) ∧ Hid (RowP w0.heap.size wx 82 9 IntsG v1 p1))
            case first =>
              have HD6 := hide (Ps.nums (w := w5) rb 16 2 _ (ptrs_a2 rb) (nz 2) rfl (by omega) (by omega) HP5.out hb hg HA5.out.n HF5.out)
              rw [HE6.out.1, HE6.out.2] at HD6
              go_region_with (go_at_call 52; refine HD6.out.mono ?_; rintro e wn ⟨rfl, hP, hi, hst⟩; have HM := hide (show (fun wx => Hid (Ps wx b g s6) ∧ Hid (AccAt wx rb x1 x2 x3 y3 x4 v1 x6 (.slice none 0 0) (.slice none 0 0)) ∧ Hid (PStep b rb 0 20 w0 wx) ∧ wx.cell? ⟨rk, 0, none⟩ = some (Value.iface 130 (.pointer (some ⟨b, 0, none⟩))) ∧ Hid (RowP w0.heap.size wx 82 9 IntsG v1 p1)) wn from ⟨hP, HA5.out.uM hst hi HL6.out, HSt5.out.trans (hst.wide (by omega) (by omega)), (hst.keep.cell (b := rk) (o := 0) hzr6 ⟨hrkb, hrkr⟩).trans hk5, (HR_v1.out.step ints_stays (b := b) (rb := rb) (by omega) (by omega) hst)⟩); clear hP hi hst)
              all_goals
                go_wp2_with fail
                go_meet
                case rel => exact HM.out
            case rest =>
              rename World => w6
              obtain ⟨HP6, HA6, HSt6, hk6, HR_v1'⟩ := hcut
              clear HR_v1
              have HR_v1 := HR_v1'
              clear HR_v1'
              clear HF5
              have hzr7 : rk < w6.heap.size := lt_of_cell hk6
              have HF6 : Hid (∀ o, w6.frozen? ⟨rb, o, none⟩ = false) := fun o => (HSt6.out.fz o).trans (HF0.out o)
              have HD7 := hide (plist_hold (w := w6.drew) rb 18 FH HoldG hold_stays (carries_hold b g) HP6.out.drew hb hg (by show g < w6.heap.size; omega) HA6.out.v2 HF6.out)
              rw [HE7.out.1, HE7.out.2] at HD7
              go_upto_region 7 with fail
              go_cut [] from 4 to 61 (fun wx => ∃ v2 p2, Hid (Ps wx b g s7) ∧ Hid (AccAt wx rb x1 x2 x3 y3 x4 v1 x6 v2 (.slice none 0 0)) ∧ Hid (PStep b rb 0 20 w0 wx) ∧ wx.cell? ⟨rk, 0, none⟩ = some (Value.iface 130 (.pointer (some ⟨b, 0, none⟩))) ∧ Hid (RowP w0.heap.size wx 82 9 IntsG v1 p1) ∧ Hid (p2.map Prod.snd = x7) ∧ Hid (RowP w0.heap.size wx 65 4 HoldG v2 p2))
              case first =>
                go_region_with (go_at_call 55; refine HD7.out.mono ?_; rintro e wn ⟨rfl, hP, hst, v, p, hv, hpp, hrow⟩; have HM := hide (show (fun wx => ∃ v2 p2, Hid (Ps wx b g s7) ∧ Hid (AccAt wx rb x1 x2 x3 y3 x4 v1 x6 v2 (.slice none 0 0)) ∧ Hid (PStep b rb 0 20 w0 wx) ∧ wx.cell? ⟨rk, 0, none⟩ = some (Value.iface 130 (.pointer (some ⟨b, 0, none⟩))) ∧ Hid (RowP w0.heap.size wx 82 9 IntsG v1 p1) ∧ Hid (p2.map Prod.snd = x7) ∧ Hid (RowP w0.heap.size wx 65 4 HoldG v2 p2)) wn from ⟨v, p, hP, HA6.out.u2 hst.undrew hv, HSt6.out.trans (hst.undrew.wide (by omega) (by omega)), (hst.undrew.keep.cell (b := rk) (o := 0) hzr7 ⟨hrkb, hrkr⟩).trans hk6, (HR_v1.out.step ints_stays (b := b) (rb := rb) (by omega) (by omega) hst.undrew), hpp, hrow.base (by show w0.heap.size ≤ w6.heap.size; exact HSt6.out.keep.size)⟩); clear hP hst hv hpp hrow)
                all_goals
                  go_wp2_with fail
                  go_meet
                  case rel => exact HM.out
              case rest =>
                rename World => w7
                obtain ⟨v2, p2, HP7, HA7, HSt7, hk7, HR_v1', HQ_v2, HR_v2⟩ := hcut
                clear HR_v1
                have HR_v1 := HR_v1'
                clear HR_v1'
                clear HD7
                clear HF6
                have hzr8 : rk < w7.heap.size := lt_of_cell hk7
                have HF7 : Hid (∀ o, w7.frozen? ⟨rb, o, none⟩ = false) := fun o => (HSt7.out.fz o).trans (HF0.out o)
                have HD8 := hide (plist_entry (w := w7.drew) rb 19 FE EntG ent_stays (carries_entry b g) HP7.out.drew hb hg (by show g < w7.heap.size; omega) HA7.out.v3 HF7.out)
                rw [HE8.out.1, HE8.out.2] at HD8
                go_wp2_with fail
                go_region_with (go_at_call 57; refine HD8.out.mono ?_; rintro e wn ⟨rfl, hP, hst, v, p, hv, hpp, hrow⟩; have HM := hide (show (fun wx => ∃ v3 p3, Hid (Ps wx b g s8) ∧ Hid (AccAt wx rb x1 x2 x3 y3 x4 v1 x6 v2 v3) ∧ Hid (PStep b rb 0 20 w0 wx) ∧ wx.cell? ⟨rk, 0, none⟩ = some (Value.iface 130 (.pointer (some ⟨b, 0, none⟩))) ∧ Hid (RowP w0.heap.size wx 82 9 IntsG v1 p1) ∧ Hid (RowP w0.heap.size wx 65 4 HoldG v2 p2) ∧ Hid (p3.map Prod.snd = x8) ∧ Hid (RowP w0.heap.size wx 69 14 EntG v3 p3)) wn from ⟨v, p, hP, HA7.out.u3 hst.undrew hv, HSt7.out.trans (hst.undrew.wide (by omega) (by omega)), (hst.undrew.keep.cell (b := rk) (o := 0) hzr8 ⟨hrkb, hrkr⟩).trans hk7, (HR_v1.out.step ints_stays (b := b) (rb := rb) (by omega) (by omega) hst.undrew), (HR_v2.out.step hold_stays (b := b) (rb := rb) (by omega) (by omega) hst.undrew), hpp, hrow.base (by show w0.heap.size ≤ w7.heap.size; exact HSt7.out.keep.size)⟩); clear hP hst hv hpp hrow)
                all_goals
                  go_end0
                  obtain ⟨v3, p3, HP8, HA8, HSt8, _, HR1, HR2, HQ3, HR3⟩ := HM.out
                  exact ⟨rfl, HP8.out, PStep.box HK0.out (by rw [HRk.out]; exact hrl) HSt8.out, v1, v2, v3, p1, p2, p3, HA8.out, HQ_v1.out, HR1.out.base (by omega), HQ_v2.out, HR2.out.base (by omega), HQ3.out, HR3.out.base (by omega)⟩
end Go.Proofs.Ytghgkjollafeiaa
