/-
  An account, written, walked.
-/
import Derived.Test.YtghgkjollafeiaaWC
import Derived.Deep.CutRange
import Derived.Deep.CutBlock
namespace Go.Proofs.Ytghgkjollafeiaa
open Go.RowKit

theorem AccAt.keepC {w w' : World} {O R : Nat → Prop} {rb : Nat} {nm key pn : ByteArray} {px t : List Int} {v1 : Value} {n : List Int} {v2 v3 : Value} (h : AccAt w rb nm key pn px t v1 n v2 v3) (hK : KeepC O R w w') (hR : R rb) : AccAt w' rb nm key pn px t v1 n v2 v3 :=
  AccAt.of (fun j v hj => (hK.cells rb hR (lt_of_cell h.nm) _).1.trans (h.range j v hj)) h.lp h.lt h.ln
theorem RowsAt.keepC {w w' : World} {O R : Nat → Prop} {v : Value} {sz : Nat} {css : List (List Value)} (h : RowsAt w v sz css) (hK : KeepC O R w w') (hvR : InR R v) : RowsAt w' v sz css := by
  obtain ⟨a, cap, rfl, h1, h2, h3, h4⟩ := h
  refine ⟨a, cap, rfl, h1, h2, h3, ?_⟩
  rcases h4 with h4 | ⟨b, off, rfl, hr⟩
  · exact .inl h4
  · exact .inr ⟨b, off, rfl, fun j u hj => (hK.cells b (hvR ⟨b, off, none⟩ _ _ rfl (flatten_pos hj)) (lt_of_cell (hr j u hj)) _).1.trans (hr j u hj)⟩
/-- An account that may be written. -/
structure AccOk (d : AccD) : Prop where
  nm : d.nm.size ≤ 255
  key : d.key.size ≤ 255
  pn : d.pn.size ≤ 255
  lots : d.lots.length ≤ 255
  holds : d.holds.length ≤ 255
  ps : ∀ x ∈ d.holds, x.ps.length ≤ 255
  win : d.win.length ≤ 255
  ent : ∀ x ∈ d.win, EntOk x
  all : (accBy d).length ≤ 500000000

set_option maxRecDepth 100000 in
set_option maxHeartbeats 6400000 in
theorem waccount {w : World} {O R : Nat → Prop} {b g : Nat} (rb : Nat) (d : AccD) (cs : List Value) (v1 v2 v3 : Value) (hcs : List (List Value)) (hok : AccOk d) (h : StAt .wr w O R b g ⟨[], 0⟩) (hR : R rb) (hM : Mine w O R) (hA : AccAt w rb d.nm d.key d.pn d.px d.t v1 d.n v2 v3) (hI : AcIn w cs d v1 v2 v3 hcs) (i1 : InR R v1) (i2 : InR R v2) (i3 : InR R v3) (ih : ∀ c ∈ hcs, ∀ u ∈ c, InR R u) :
    Calls Try.prog 29 #[.agg #[ifc .wr b], .pointer (some ⟨rb, 0, none⟩)] w fun r w' => r = .returned (.tuple #[]) ∧ StAt .wr w' O R b g ⟨accBy d, 0⟩ ∧ KeepC O R w w' := by
  have hrl : rb < w.heap.size := lt_of_cell hA.nm
  have hall := hok.all
  have hK0 : Keep (fun _ => True) w (w.alloc (.cells #[ifc .wr b] 77)) := (Keep.refl _ w).alloc _
  have hs0 : (w.alloc (.cells #[ifc .wr b] 77)).heap.size = w.heap.size + 1 := by simp
  have hk0 : (w.alloc (.cells #[ifc .wr b] 77)).cell? ⟨w.heap.size, 0, none⟩ = some (ifc .wr b) := World.cell?_alloc_at _ _ _ _ rfl
  have hS0 : StAt .wr (w.alloc (.cells #[ifc .wr b] 77)) (fun x => O x ∨ x = w.heap.size) R b g ⟨[], 0⟩ := h.more hK0 (fun x hx => by
    rcases hx with hx | hx
    · exact .inl hx
    · exact .inr (by omega)) (fun x hx => .inl hx) (fun x hx => .inl hx)
  have hM0 : ∀ w', Mine w' (fun x => O x ∨ x = w.heap.size) R := fun w' => ⟨fun x hx hx' => by
    rcases hx' with h1 | h1
    · exact hM.no x hx h1
    · have := h.1.lt x (.inr hx)
      omega⟩
  have HOg := hide h.og
  have HS0 := hide hS0
  have HM := hide hM0
  have HKw := hide (show KeepC O R w (w.alloc (.cells #[ifc .wr b] 77)) from KeepC.of_all hK0)
  have HA := hide hA
  have HI := hide hI
  have HOk := hide hok
  have HI1 := hide i1
  have HI2 := hide i2
  have HI3 := hide i3
  have HIh := hide ih
  clear h hS0 hM0 hM hA hI hok i1 i2 i3 ih hK0
  obtain ⟨L1, hL1⟩ : ∃ L, textB d.nm = L := ⟨_, rfl⟩
  obtain ⟨L2, hL2⟩ : ∃ L, L1 ++ textB d.key = L := ⟨_, rfl⟩
  obtain ⟨L3, hL3⟩ : ∃ L, L2 ++ tiB d.pn d.px = L := ⟨_, rfl⟩
  obtain ⟨L4, hL4⟩ : ∃ L, L3 ++ intsB d.t = L := ⟨_, rfl⟩
  obtain ⟨L5, hL5⟩ : ∃ L, L4 ++ listB intsB d.lots = L := ⟨_, rfl⟩
  obtain ⟨L6, hL6⟩ : ∃ L, L5 ++ intsB d.n = L := ⟨_, rfl⟩
  obtain ⟨L7, hL7⟩ : ∃ L, L6 ++ listB holdBy d.holds = L := ⟨_, rfl⟩
  obtain ⟨L8, hL8⟩ : ∃ L, L7 ++ listB entBy d.win = L := ⟨_, rfl⟩
  have hfin : accBy d = L8 := by
    unfold accBy
    rw [← hL8, ← hL7, ← hL6, ← hL5, ← hL4, ← hL3, ← hL2, ← hL1]
  rw [hfin] at hall ⊢
  have HB : Hid (L1.length ≤ 500000000 ∧ L2.length ≤ 500000000 ∧ L3.length ≤ 500000000 ∧ L4.length ≤ 500000000 ∧ L5.length ≤ 500000000 ∧ L6.length ≤ 500000000 ∧ L7.length ≤ 500000000) := by
    have e2 := congrArg List.length hL2
    have e3 := congrArg List.length hL3
    have e4 := congrArg List.length hL4
    have e5 := congrArg List.length hL5
    have e6 := congrArg List.length hL6
    have e7 := congrArg List.length hL7
    have e8 := congrArg List.length hL8
    rw [List.length_append] at e2 e3 e4 e5 e6 e7 e8
    exact ⟨by omega, by omega, by omega, by omega, by omega, by omega, by omega⟩
  have hL1 : [] ++ textB d.nm = L1 := hL1
  have HL1 := hide hL1
  have HL2 := hide hL2
  have HL3 := hide hL3
  have HL4 := hide hL4
  have HL5 := hide hL5
  have HL6 := hide hL6
  have HL7 := hide hL7
  have HL8 := hide hL8
  clear hL1 hL2 hL3 hL4 hL5 hL6 hL7 hL8 hfin hall
  generalize hrk : w.heap.size = rk at *
  have hrkr : rk ≠ rb := by omega
  have hOr : ¬ (O rb ∨ rb = rk) := (HM.out w).no rb hR
  have h2 := mT_wr b
  go_enter Try.func29, Try.ntmps29
  go_upto_region 1 with fail
  have HRk := hide hrk
  clear hrk
  generalize w.alloc (.cells #[ifc .wr b] 77) = w0 at *
  dsimp only [ifc, tyOf] at hk0
  have HC0 : Hid (KeepC (fun x => O x ∨ x = rk) R w0 w0) := KeepC.refl _ _ _
  have HKc1 : Hid (KeepC O R w w0.drew) := (HKw.out.trans (HC0.out.less (fun x hx => .inl hx))).drew
  have HAc1 := hide (HA.out.keepC HKc1.out hR)
  have hzr1 : rk < w0.heap.size := lt_of_cell hk0
  have HD1 := hide (wtextC (w := w0.drew) rb 0 d.nm HOk.out.nm HS0.out.drew hR hOr HAc1.out.nm (by simp))
  rw [HL1.out] at HD1
  go_cut [] from 4 to 61 (fun wx => Hid (StAt .wr wx (fun x => O x ∨ x = rk) R b g ⟨L1, 0⟩) ∧ Hid (KeepC (fun x => O x ∨ x = rk) R w0 wx) ∧ wx.cell? ⟨rk, 0, none⟩ = some (Value.iface 110 (.pointer (some ⟨b, 0, none⟩))))
  case first =>
    go_region_with (go_at_call 91; refine HD1.out.mono ?_; rintro e wn ⟨rfl, hS, hk⟩; have HMt := hide (show (fun wx => Hid (StAt .wr wx (fun x => O x ∨ x = rk) R b g ⟨L1, 0⟩) ∧ Hid (KeepC (fun x => O x ∨ x = rk) R w0 wx) ∧ wx.cell? ⟨rk, 0, none⟩ = some (Value.iface 110 (.pointer (some ⟨b, 0, none⟩)))) wn from ⟨hS, (HC0.out.drew).trans hk, (hk.keep.cell (b := rk) (o := 0) hzr1 (.inr rfl)).trans hk0⟩); clear hS hk)
    all_goals
      go_wp2_with fail
      go_meet
      case rel => exact HMt.out
  case rest =>
    rename World => w1
    obtain ⟨HS1, HC1, hk1⟩ := hcut
    clear HD1 HKc1 HAc1
    have HKc2 : Hid (KeepC O R w w1.drew) := (HKw.out.trans (HC1.out.less (fun x hx => .inl hx))).drew
    have HAc2 := hide (HA.out.keepC HKc2.out hR)
    have hzr2 : rk < w1.heap.size := lt_of_cell hk1
    have HD2 := hide (wtextC (w := w1.drew) rb 1 d.key HOk.out.key HS1.out.drew hR hOr HAc2.out.key (Nat.le_trans HB.out.1 (by omega)))
    rw [HL2.out] at HD2
    go_upto_region 2 with fail
    go_cut [] from 4 to 61 (fun wx => Hid (StAt .wr wx (fun x => O x ∨ x = rk) R b g ⟨L2, 0⟩) ∧ Hid (KeepC (fun x => O x ∨ x = rk) R w0 wx) ∧ wx.cell? ⟨rk, 0, none⟩ = some (Value.iface 110 (.pointer (some ⟨b, 0, none⟩))))
    case first =>
      go_region_with (go_at_call 91; refine HD2.out.mono ?_; rintro e wn ⟨rfl, hS, hk⟩; have HMt := hide (show (fun wx => Hid (StAt .wr wx (fun x => O x ∨ x = rk) R b g ⟨L2, 0⟩) ∧ Hid (KeepC (fun x => O x ∨ x = rk) R w0 wx) ∧ wx.cell? ⟨rk, 0, none⟩ = some (Value.iface 110 (.pointer (some ⟨b, 0, none⟩)))) wn from ⟨hS, (HC1.out.drew).trans hk, (hk.keep.cell (b := rk) (o := 0) hzr2 (.inr rfl)).trans hk1⟩); clear hS hk)
      all_goals
        go_wp2_with fail
        go_meet
        case rel => exact HMt.out
    case rest =>
      rename World => w2
      obtain ⟨HS2, HC2, hk2⟩ := hcut
      clear HD2 HKc2 HAc2
      have HKc3 : Hid (KeepC O R w w2.drew) := (HKw.out.trans (HC2.out.less (fun x hx => .inl hx))).drew
      have HAc3 := hide (HA.out.keepC HKc3.out hR)
      have hzr3 : rk < w2.heap.size := lt_of_cell hk2
      have HD3 := hide (wplanC (w := w2.drew) rb 2 d.pn d.px HAc3.out.lp HOk.out.pn HS2.out.drew hR hOr HAc3.out.pn HAc3.out.px (Nat.le_trans HB.out.2.1 (by omega)))
      rw [HL3.out] at HD3
      go_upto_region 3 with fail
      go_cut [] from 4 to 61 (fun wx => Hid (StAt .wr wx (fun x => O x ∨ x = rk) R b g ⟨L3, 0⟩) ∧ Hid (KeepC (fun x => O x ∨ x = rk) R w0 wx) ∧ wx.cell? ⟨rk, 0, none⟩ = some (Value.iface 110 (.pointer (some ⟨b, 0, none⟩))))
      case first =>
        go_region_with (go_at_call 42; refine HD3.out.mono ?_; rintro e wn ⟨rfl, hS, hk⟩; have HMt := hide (show (fun wx => Hid (StAt .wr wx (fun x => O x ∨ x = rk) R b g ⟨L3, 0⟩) ∧ Hid (KeepC (fun x => O x ∨ x = rk) R w0 wx) ∧ wx.cell? ⟨rk, 0, none⟩ = some (Value.iface 110 (.pointer (some ⟨b, 0, none⟩)))) wn from ⟨hS, (HC2.out.drew).trans hk, (hk.keep.cell (b := rk) (o := 0) hzr3 (.inr rfl)).trans hk2⟩); clear hS hk)
        all_goals
          go_wp2_with fail
          go_meet
          case rel => exact HMt.out
      case rest =>
        rename World => w3
        obtain ⟨HS3, HC3, hk3⟩ := hcut
        clear HD3 HKc3 HAc3
        have HKc4 : Hid (KeepC O R w w3) := (HKw.out.trans (HC3.out.less (fun x hx => .inl hx)))
        have HAc4 := hide (HA.out.keepC HKc4.out hR)
        have hzr4 : rk < w3.heap.size := lt_of_cell hk3
        go_upto_region 4 with fail
        go_cut [] from 4 to 61 (fun wx => Hid (StAt .wr wx (fun x => O x ∨ x = rk) R b g ⟨L4, 0⟩) ∧ Hid (KeepC (fun x => O x ∨ x = rk) R w0 wx) ∧ wx.cell? ⟨rk, 0, none⟩ = some (Value.iface 110 (.pointer (some ⟨b, 0, none⟩))))
        case first =>
          have HD4 := hide (wnumsC (w := w3) rb 12 3 _ (ptrs_a3 rb) d.t HAc4.out.lt (by omega) (by omega) HS3.out hR hOr HAc4.out.t (Nat.le_trans HB.out.2.2.1 (by omega)))
          rw [HL4.out] at HD4
          go_region_with (go_at_call 52; refine HD4.out.mono ?_; rintro e wn ⟨rfl, hS, hk⟩; have HMt := hide (show (fun wx => Hid (StAt .wr wx (fun x => O x ∨ x = rk) R b g ⟨L4, 0⟩) ∧ Hid (KeepC (fun x => O x ∨ x = rk) R w0 wx) ∧ wx.cell? ⟨rk, 0, none⟩ = some (Value.iface 110 (.pointer (some ⟨b, 0, none⟩)))) wn from ⟨hS, (HC3.out).trans hk, (hk.keep.cell (b := rk) (o := 0) hzr4 (.inr rfl)).trans hk3⟩); clear hS hk)
          all_goals
            go_wp2_with fail
            go_meet
            case rel => exact HMt.out
        case rest =>
          rename World => w4
          obtain ⟨HS4, HC4, hk4⟩ := hcut
          clear HKc4 HAc4
          have HKc5 : Hid (KeepC O R w w4.drew) := (HKw.out.trans (HC4.out.less (fun x hx => .inl hx))).drew
          have HAc5 := hide (HA.out.keepC HKc5.out hR)
          have hzr5 : rk < w4.heap.size := lt_of_cell hk4
          have HD5 := hide (wlotsC (w := w4.drew) rb 15 v1 d.lots HOk.out.lots HI.out.ll (HM.out _) HS4.out.drew (Nat.le_trans HB.out.2.2.2.1 (by omega)) hR HAc5.out.v1 (HI.out.r1.keepC HKc5.out HI1.out) HI1.out)
          rw [HL5.out] at HD5
          go_upto_region 5 with fail
          go_cut [] from 4 to 61 (fun wx => Hid (StAt .wr wx (fun x => O x ∨ x = rk) R b g ⟨L5, 0⟩) ∧ Hid (KeepC (fun x => O x ∨ x = rk) R w0 wx) ∧ wx.cell? ⟨rk, 0, none⟩ = some (Value.iface 110 (.pointer (some ⟨b, 0, none⟩))))
          case first =>
            go_region_with (go_at_call 53; refine HD5.out.mono ?_; rintro e wn ⟨rfl, hS, hk⟩; have HMt := hide (show (fun wx => Hid (StAt .wr wx (fun x => O x ∨ x = rk) R b g ⟨L5, 0⟩) ∧ Hid (KeepC (fun x => O x ∨ x = rk) R w0 wx) ∧ wx.cell? ⟨rk, 0, none⟩ = some (Value.iface 110 (.pointer (some ⟨b, 0, none⟩)))) wn from ⟨hS, (HC4.out.drew).trans hk, (hk.keep.cell (b := rk) (o := 0) hzr5 (.inr rfl)).trans hk4⟩); clear hS hk)
            all_goals
              go_wp2_with fail
              go_meet
              case rel => exact HMt.out
          case rest =>
            rename World => w5
            obtain ⟨HS5, HC5, hk5⟩ := hcut
            clear HD5 HKc5 HAc5
            have HKc6 : Hid (KeepC O R w w5) := (HKw.out.trans (HC5.out.less (fun x hx => .inl hx)))
            have HAc6 := hide (HA.out.keepC HKc6.out hR)
            have hzr6 : rk < w5.heap.size := lt_of_cell hk5
            go_upto_region 6 with fail
            go_cut [] from 4 to 61 (fun wx => Hid (StAt .wr wx (fun x => O x ∨ x = rk) R b g ⟨L6, 0⟩) ∧ Hid (KeepC (fun x => O x ∨ x = rk) R w0 wx) ∧ wx.cell? ⟨rk, 0, none⟩ = some (Value.iface 110 (.pointer (some ⟨b, 0, none⟩))))
            case first =>
              have HD6 := hide (wnumsC (w := w5) rb 16 2 _ (ptrs_a2 rb) d.n HAc6.out.ln (by omega) (by omega) HS5.out hR hOr HAc6.out.n (Nat.le_trans HB.out.2.2.2.2.1 (by omega)))
              rw [HL6.out] at HD6
              go_region_with (go_at_call 52; refine HD6.out.mono ?_; rintro e wn ⟨rfl, hS, hk⟩; have HMt := hide (show (fun wx => Hid (StAt .wr wx (fun x => O x ∨ x = rk) R b g ⟨L6, 0⟩) ∧ Hid (KeepC (fun x => O x ∨ x = rk) R w0 wx) ∧ wx.cell? ⟨rk, 0, none⟩ = some (Value.iface 110 (.pointer (some ⟨b, 0, none⟩)))) wn from ⟨hS, (HC5.out).trans hk, (hk.keep.cell (b := rk) (o := 0) hzr6 (.inr rfl)).trans hk5⟩); clear hS hk)
              all_goals
                go_wp2_with fail
                go_meet
                case rel => exact HMt.out
            case rest =>
              rename World => w6
              obtain ⟨HS6, HC6, hk6⟩ := hcut
              clear HKc6 HAc6
              have HKc7 : Hid (KeepC O R w w6.drew) := (HKw.out.trans (HC6.out.less (fun x hx => .inl hx))).drew
              have HAc7 := hide (HA.out.keepC HKc7.out hR)
              have hzr7 : rk < w6.heap.size := lt_of_cell hk6
              have HD7 := hide (wholdsC (w := w6.drew) rb 18 v2 d.holds hcs HOk.out.holds HOk.out.ps (HM.out _) HS6.out.drew (Nat.le_trans HB.out.2.2.2.2.2.1 (by omega)) hR HAc7.out.v2 (HI.out.r2.keepC HKc7.out HI2.out) HI.out.hl HI2.out (fun i h1 h2 => ⟨(HI.out.hh i h1 h2).keepC HKc7.out (HIh.out _ (List.getElem_mem h1)), HIh.out _ (List.getElem_mem h1)⟩))
              rw [HL7.out] at HD7
              go_upto_region 7 with fail
              go_cut [] from 4 to 61 (fun wx => Hid (StAt .wr wx (fun x => O x ∨ x = rk) R b g ⟨L7, 0⟩) ∧ Hid (KeepC (fun x => O x ∨ x = rk) R w0 wx) ∧ wx.cell? ⟨rk, 0, none⟩ = some (Value.iface 110 (.pointer (some ⟨b, 0, none⟩))))
              case first =>
                go_region_with (go_at_call 55; refine HD7.out.mono ?_; rintro e wn ⟨rfl, hS, hk⟩; have HMt := hide (show (fun wx => Hid (StAt .wr wx (fun x => O x ∨ x = rk) R b g ⟨L7, 0⟩) ∧ Hid (KeepC (fun x => O x ∨ x = rk) R w0 wx) ∧ wx.cell? ⟨rk, 0, none⟩ = some (Value.iface 110 (.pointer (some ⟨b, 0, none⟩)))) wn from ⟨hS, (HC6.out.drew).trans hk, (hk.keep.cell (b := rk) (o := 0) hzr7 (.inr rfl)).trans hk6⟩); clear hS hk)
                all_goals
                  go_wp2_with fail
                  go_meet
                  case rel => exact HMt.out
              case rest =>
                rename World => w7
                obtain ⟨HS7, HC7, hk7⟩ := hcut
                clear HD7 HKc7 HAc7
                have HKc8 : Hid (KeepC O R w w7.drew) := (HKw.out.trans (HC7.out.less (fun x hx => .inl hx))).drew
                have HAc8 := hide (HA.out.keepC HKc8.out hR)
                have hzr8 : rk < w7.heap.size := lt_of_cell hk7
                have HD8 := hide (wwinC (w := w7.drew) rb 19 v3 d.win HOk.out.win HOk.out.ent (HM.out _) HS7.out.drew (Nat.le_trans HB.out.2.2.2.2.2.2 (by omega)) hR HAc8.out.v3 (HI.out.r3.keepC HKc8.out HI3.out) HI3.out)
                rw [HL8.out] at HD8
                go_wp2_with fail
                go_region_with (go_at_call 57; refine HD8.out.mono ?_; rintro e wn ⟨rfl, hS, hk⟩; have HMt := hide (show (fun wx => Hid (StAt .wr wx (fun x => O x ∨ x = rk) R b g ⟨L8, 0⟩) ∧ Hid (KeepC (fun x => O x ∨ x = rk) R w0 wx) ∧ wx.cell? ⟨rk, 0, none⟩ = some (Value.iface 110 (.pointer (some ⟨b, 0, none⟩)))) wn from ⟨hS, (HC7.out.drew).trans hk, (hk.keep.cell (b := rk) (o := 0) hzr8 (.inr rfl)).trans hk7⟩); clear hS hk)
                all_goals
                  go_end0
                  obtain ⟨HS8, HC8, _⟩ := HMt.out
                  exact ⟨rfl, HS8.out.less (fun x hx => .inl hx) (fun x hx => hx) HOg.out, HKw.out.trans (HC8.out.less (fun x hx => .inl hx))⟩
end Go.Proofs.Ytghgkjollafeiaa
