/-
  An entry of the window, carried, walked.
-/
import Derived.Test.YtghgkjollafeiaaCE
import Derived.Deep.CutRange
import Derived.Deep.CutBlock
namespace Go.Proofs.Ytghgkjollafeiaa
open Go.RowKit

set_option maxRecDepth 100000 in
set_option maxHeartbeats 6400000 in
theorem centry_wr0 (k : Kd) (hkk : k = .wr) {w : World} {O R : Nat → Prop} {b g : Nat} {s : Sx} (rb o : Nat) (d : EntD) (hl : d.l.length = 3) (hxs : d.xs.length = 8) (her : k = .wr → 0 ≤ d.er ∧ d.er ≤ 255) (hx : k = .wr → d.nm.size ≤ 255) (hz : d.xs.headD 0 = 0) (h : StAt k w O R b g s) (hR : R rb) (hO : ¬ O rb) (hE : EntAt w rb o d) (hf : Free k w rb) (hm : Room k s 500) :
    Calls Try.prog 62 #[.agg #[ifc k b], .int .i64 0, .pointer (some ⟨rb, o, none⟩), .pointer (some ⟨rb, o + 5, none⟩)] w fun r w' => r = .returned (.tuple #[]) ∧ StAt k w' O R b g (entS k s d).1 ∧ EntAt w' rb o (entS k s d).2 ∧ Step (fun x => O x ∨ R x) rb o 14 w w' := by
  have HKk := hide hkk
  clear hkk
  have hrbl : rb < w.heap.size := lt_of_cell hE.c0
  have hK0 : Keep (fun _ => True) w (w.alloc (.cells #[ifc k b] 77)) := (Keep.refl _ w).alloc _
  have hs0 : (w.alloc (.cells #[ifc k b] 77)).heap.size = w.heap.size + 1 := by simp
  have hk0 : (w.alloc (.cells #[ifc k b] 77)).cell? ⟨w.heap.size, 0, none⟩ = some (ifc k b) := World.cell?_alloc_at _ _ _ _ rfl
  have hS0 : StAt k (w.alloc (.cells #[ifc k b] 77)) (fun x => O x ∨ x = w.heap.size) R b g s := h.more hK0 (fun x hx => by
    rcases hx with hx | hx
    · exact .inl hx
    · exact .inr (by omega)) (fun x hx => .inl hx) (fun x hx => .inl hx)
  have HE0 : Hid (EntAt (w.alloc (.cells #[ifc k b] 77)) rb o d) := hE.keep (fun q => hK0.cell hrbl trivial)
  have HF0 : Hid (Free k (w.alloc (.cells #[ifc k b] 77)) rb) := fun e o => (hK0.fz hrbl trivial).trans (hf e o)
  have HK0 := hide hK0
  have HOg := hide h.og
  have HS0 := hide hS0
  obtain ⟨s1, hs1⟩ : ∃ t, (ent1 k s d).1 = t := ⟨_, rfl⟩
  obtain ⟨x1, hx1⟩ : ∃ t, (ent1 k s d).2 = t := ⟨_, rfl⟩
  obtain ⟨s2, hs2⟩ : ∃ t, (ent2 k s d).1 = t := ⟨_, rfl⟩
  obtain ⟨x2, hx2⟩ : ∃ t, (ent2 k s d).2 = t := ⟨_, rfl⟩
  obtain ⟨s3, hs3⟩ : ∃ t, (ent3 k s d).1 = t := ⟨_, rfl⟩
  obtain ⟨x3, hx3⟩ : ∃ t, (ent3 k s d).2 = t := ⟨_, rfl⟩
  obtain ⟨s4, hs4⟩ : ∃ t, (ent4 k s d).1 = t := ⟨_, rfl⟩
  obtain ⟨x4, hx4⟩ : ∃ t, (ent4 k s d).2 = t := ⟨_, rfl⟩
  have hm1 : Room k s1 492 := by
    intro e; subst e; rw [← hs1]; have := hm rfl
    show (numS .wr s d.id).1.l.length + _ ≤ _
    rw [numS_len]; omega
  have hm2 : Room k s2 491 := by
    intro e; subst e; have := hm1 rfl; rw [← hs2]
    show ((ent1 .wr s d).1.l ++ [d.er.toNat]).length + _ ≤ _
    rw [List.length_append, hs1, List.length_singleton]; omega
  have hm3 : Room k s3 467 := by
    intro e; subst e; have := hm2 rfl; rw [← hs3]
    show (numsS .wr (ent2 .wr s d).1 d.l).1.l.length + _ ≤ _
    rw [numsS_len, hs2, hl]; omega
  have hm4 : Room k s4 466 := by
    intro e; subst e; have := hm3 rfl; rw [← hs4]
    show ((ent3 .wr s d).1.l ++ [_]).length + _ ≤ _
    rw [List.length_append, hs3, List.length_singleton]; omega
  have hres : entS k s d = if x4 then (if (tiS k s4 d.nm d.xs).2.2.headD 0 = 0 then refuseS (tiS k s4 d.nm d.xs).1 11 else (tiS k s4 d.nm d.xs).1, ⟨x1, x2, x3, (tiS k s4 d.nm d.xs).2.1, (tiS k s4 d.nm d.xs).2.2⟩) else (s4, ⟨x1, x2, x3, d.nm, d.xs⟩) := by
    unfold entS ent5
    rw [hs4, hx4, hx1, hx2, hx3]
  obtain ⟨rs, hrs⟩ : ∃ r, entS k s d = r := ⟨_, rfl⟩
  rw [hrs]
  rw [hrs] at hres
  have HR0 : Hid (x4 = false → rs = (s4, ⟨x1, x2, x3, d.nm, d.xs⟩)) := fun e => by rw [hres, e]; rfl
  have HR1 : Hid (x4 = true → ∀ s6 x5 x6, tiS k s4 d.nm d.xs = (s6, x5, x6) → x6.headD 0 = 0 → rs = (refuseS s6 11, ⟨x1, x2, x3, x5, x6⟩)) := fun e s6 x5 x6 h1 h2 => by rw [hres, e, h1]; show (if x6.headD 0 = 0 then _ else _, _) = _; rw [if_pos h2]
  have HR2 : Hid (x4 = true → ∀ s6 x5 x6, tiS k s4 d.nm d.xs = (s6, x5, x6) → ¬ x6.headD 0 = 0 → rs = (s6, ⟨x1, x2, x3, x5, x6⟩)) := fun e s6 x5 x6 h1 h2 => by rw [hres, e, h1]; show (if x6.headD 0 = 0 then _ else _, _) = _; rw [if_neg h2]
  clear hrs
  have HX4 : Hid (k = .wr → x4 = !decide (d.xs.headD 0 = 0)) := fun e => by subst e; rw [← hx4]; rfl
  have HC1 : Hid (∀ w1 (O : Nat → Prop), StAt k w1 O R b g s → ¬ O rb → w1.cell? ⟨rb, o, none⟩ = some (.int .i64 d.id) → Free k w1 rb → Calls Try.prog (numF k) #[.pointer (some ⟨b, 0, none⟩), .pointer (some ⟨rb, o, none⟩)] w1 fun r w' => r = .returned (.tuple #[]) ∧ StAt k w' O R b g s1 ∧ w'.cell? ⟨rb, o, none⟩ = some (.int .i64 x1) ∧ Step (fun x => O x ∨ R x) rb o 1 w1 w') := fun w1 O h1 h2 h3 h4 => by
    rw [← hs1, ← hx1]
    exact cnum k rb o d.id h1 hR h2 h3 h4 (fun e => by have := hm e; omega)
  have HC2 : Hid (∀ w1 (O : Nat → Prop), StAt k w1 O R b g s1 → ¬ O rb → w1.cell? ⟨rb, o + 1, none⟩ = some (.int .i64 d.er) → Free k w1 rb → Calls Try.prog (errnoF k) #[.pointer (some ⟨b, 0, none⟩), .pointer (some ⟨rb, o + 1, none⟩)] w1 fun r w' => r = .returned (.tuple #[]) ∧ StAt k w' O R b g s2 ∧ w'.cell? ⟨rb, o + 1, none⟩ = some (.int .i64 x2) ∧ Step (fun x => O x ∨ R x) rb (o + 1) 1 w1 w') := fun w1 O h1 h2 h3 h4 => by
    rw [← hs2, ← hx2]
    unfold ent2
    rw [hs1]
    exact cerrno k rb (o + 1) d.er her h1 hR h2 h3 h4 (fun e => by have := hm1 e; omega)
  have HC3 : Hid (∀ w1 (O : Nat → Prop), StAt k w1 O R b g s2 → ¬ O rb → IntsAt w1 rb (o + 2) d.l → Free k w1 rb → ∀ cs : Array Value, cs.toList = (List.range 3).map (fun i => Value.pointer (some ⟨rb, o + 2 + i, none⟩)) → Calls Try.prog 52 #[.agg #[ifc k b], .slice (some ⟨w1.heap.size, 0, none⟩) 3 3] (w1.alloc (.cells cs 117)).drew fun r w' => r = .returned (.tuple #[]) ∧ StAt k w' O R b g s3 ∧ IntsAt w' rb (o + 2) x3 ∧ Step (fun x => O x ∨ R x) rb (o + 2) 3 w1 w') := fun w1 O h1 h2 h3 h4 cs hcs => by
    rw [← hs3, ← hx3]
    unfold ent3
    rw [hs2]
    exact fnums k rb (o + 2) 3 cs hcs d.l hl (by omega) (by omega) h1 hR h2 h3 h4 (fun e => by have := hm2 e; omega)
  have HC4 : Hid (∀ w1 (O : Nat → Prop), StAt k w1 O R b g s3 → Calls Try.prog (flagF k) #[.pointer (some ⟨b, 0, none⟩), .bool false] w1 fun r w' => r = .returned (.bool x4) ∧ StAt k w' O R b g s4 ∧ Keep (fun x => O x ∨ R x) w1 w') := fun w1 O h1 => by
    rw [← hs4, ← hx4]
    unfold ent4
    rw [hs3, show (!decide (d.xs.headD 0 = 0)) = false by rw [hz]; rfl]
    exact cflag k _ h1 (fun e => by have := hm3 e; omega)
  have HL3 : Hid (x3.length = 3) := by
    show _ = _
    rw [← hx3, ← hl]
    exact numsS_length k d.l _
  have HM4 := hide hm4
  have HX := hide hx
  have HXs := hide hxs
  clear h hE hf hm hS0 hK0 hs1 hx1 hs2 hx2 hs3 hx3 hs4 hx4 hm1 hm2 hm3 hm4 hres her hx hl
  generalize hrk : w.heap.size = rk at *
  have hrkr : rk ≠ rb := by omega
  have hOr := box_off hO hrkr
  have HRk := hide hrk
  obtain ⟨x0, xr, hxe⟩ : ∃ x0 xr, d.xs = x0 :: xr := by
    cases e : d.xs with
    | nil => rw [e] at hxs; cases hxs
    | cons a l => exact ⟨a, l, rfl⟩
  have hx0 : (w.alloc (.cells #[ifc k b] 77)).cell? ⟨rb, o + 6, none⟩ = some (.int .i64 x0) := by
    have := HE0.out.xs 0 (by omega)
    rw [Nat.add_zero] at this
    rw [this]
    congr 2
    simp [hxe]
  have hhd : d.xs.headD 0 = x0 := by rw [hxe]; rfl
  rw [hhd] at HX4 hz
  have hx4 : x4 = false := by rw [HX4.out HKk.out, hz]; rfl
  subst hx4
  subst hz
  clear HX4
  have HXe := hide hxe
  clear hxe hhd hxs
  have hkk := HKk.out
  subst hkk
  have h2 := mN_wr b
  go_enter Try.func62, Try.ntmps62
  go_upto_block 2 with fail
  clear hrk
  generalize w.alloc (.cells #[ifc .wr b] 77) = w0 at *
  dsimp only [ifc, tyOf] at hk0
  go_cut [] from 9 to 105 (fun wx => Hid (StAt .wr wx (fun x => O x ∨ x = rk) R b g s1) ∧ Hid (wx.cell? ⟨rb, o, none⟩ = some (.int .i64 x1)) ∧ Hid (Step (fun x => (O x ∨ x = rk) ∨ R x) rb o 1 w0 wx) ∧ wx.cell? ⟨rk, 0, none⟩ = some (Value.iface 110 (.pointer (some ⟨b, 0, none⟩))))
  case first =>
    go_wp2_with fail
    go_region_with (go_at_call 89; refine (HC1.out w0.drew _ HS0.out.drew hOr HE0.out.c0 HF0.out).mono ?_; rintro e w1 ⟨rfl, hS1, hc1, hSt1⟩; have HM := hide (show Hid _ ∧ Hid _ ∧ Hid _ ∧ _ from ⟨hS1, hc1, hSt1.undrew, (hSt1.keep.cell (b := rk) (o := 0) (by show rk < w0.heap.size; omega) ⟨.inl (.inr rfl), hrkr⟩).trans hk0⟩); clear hS1 hc1 hSt1)
    all_goals
      go_wp2_with fail
      go_meet
      case rel => exact HM.out
  case rest =>
    rename World => w1
    obtain ⟨HS1, HA1, HSt1, hk1⟩ := hcut
    have hz1 : rk < w1.heap.size := lt_of_cell hk1
    have h5 := mE_wr b
    have HD2 := hide (HC2.out w1.drew _ HS1.out.drew hOr ((HSt1.out.cell (o + 1) (by omega)).trans HE0.out.c1) (HF0.out.step HSt1.out).drew)
    clear HC1 HC2 h2
    go_upto_region 6 with fail
    go_cut [] from 9 to 105 (fun wx => Hid (StAt .wr wx (fun x => O x ∨ x = rk) R b g s2) ∧ Hid (wx.cell? ⟨rb, o + 1, none⟩ = some (.int .i64 x2)) ∧ Hid (Step (fun x => (O x ∨ x = rk) ∨ R x) rb (o + 1) 1 w1 wx) ∧ wx.cell? ⟨rk, 0, none⟩ = some (Value.iface 110 (.pointer (some ⟨b, 0, none⟩))))
    case first =>
      go_region_with (go_at_call 87; refine HD2.out.mono ?_; rintro e w2 ⟨rfl, hS2, hc2, hSt2⟩; have HM := hide (show Hid _ ∧ Hid _ ∧ Hid _ ∧ _ from ⟨hS2, hc2, hSt2.undrew, (hSt2.keep.cell (b := rk) (o := 0) (by show rk < w1.heap.size; omega) ⟨.inl (.inr rfl), hrkr⟩).trans hk1⟩); clear hS2 hc2 hSt2)
      all_goals
        go_wp2_with fail
        go_meet
        case rel => exact HM.out
    case rest =>
      rename World => w2
      obtain ⟨HS2, HA2, HSt2, hk2⟩ := hcut
      have hz2 : rk < w2.heap.size := lt_of_cell hk2
      have HI2 := hide ((HE0.out.l.step HSt1.out (.inr (by omega))).step HSt2.out (.inr (by omega)))
      have HF2 := hide ((HF0.out.step HSt1.out).step HSt2.out)
      clear HD2 h5 hk1
      go_upto_region 7 with fail
      go_cut [] from 9 to 105 (fun wx => Hid (StAt .wr wx (fun x => O x ∨ x = rk) R b g s3) ∧ Hid (IntsAt wx rb (o + 2) x3) ∧ Hid (Step (fun x => (O x ∨ x = rk) ∨ R x) rb (o + 2) 3 w2 wx) ∧ wx.cell? ⟨rk, 0, none⟩ = some (Value.iface 110 (.pointer (some ⟨b, 0, none⟩))))
      case first =>
        go_region_with (go_at_call 52; refine (HC3.out w2 _ HS2.out hOr HI2.out HF2.out _ (ptrs_e rb o)).mono ?_; rintro e w3 ⟨rfl, hS3, hI3, hSt3⟩; have HM := hide (show Hid _ ∧ Hid _ ∧ Hid _ ∧ _ from ⟨hS3, hI3, hSt3, (hSt3.keep.cell (b := rk) (o := 0) hz2 ⟨.inl (.inr rfl), hrkr⟩).trans hk2⟩); clear hS3 hI3 hSt3)
        all_goals
          go_wp2_with fail
          go_meet
          case rel => exact HM.out
      case rest =>
        rename World => w3
        obtain ⟨HS3, HI3, HSt3, hk3⟩ := hcut
        have hz3 : rk < w3.heap.size := lt_of_cell hk3
        have hx03 := (HSt3.out.cell (o + 6) (by omega)).trans ((HSt2.out.cell (o + 6) (by omega)).trans ((HSt1.out.cell (o + 6) (by omega)).trans hx0))
        have h7 := mF_wr b
        have HD4 := hide (HC4.out w3.drew _ HS3.out.drew)
        clear HC3 HC4 HI2 hk2
        go_upto_region 8 with fail
        go_cut [57] from 9 to 105 (fun u wx => u = .bool true ∧ Hid (StAt .wr wx (fun x => O x ∨ x = rk) R b g s4) ∧ Hid (Keep (fun x => (O x ∨ x = rk) ∨ R x) w3 wx) ∧ wx.cell? ⟨rk, 0, none⟩ = some (Value.iface 110 (.pointer (some ⟨b, 0, none⟩))))
        case first =>
          go_region_with (go_at_call 88; refine HD4.out.mono ?_; rintro e w4 ⟨rfl, hS4, hK4⟩; have HM := hide (show Hid _ ∧ Hid (Keep (fun x => (O x ∨ x = rk) ∨ R x) w3 w4) ∧ _ from ⟨hS4, ⟨hK4.os, hK4.tape, hK4.output, hK4.size, hK4.block⟩, (hK4.cell (b := rk) (o := 0) hz3 (.inl (.inr rfl))).trans hk3⟩); clear hS4 hK4)
          all_goals
            go_wp2_with fail
            go_meet
            case rel => exact ⟨rfl, HM.out⟩
        case rest =>
          rename World => w4
          obtain ⟨rfl, HS4, HK4, hk4⟩ := hcut
          have HN := hide (ent_none (k := .wr) HL3.out HK0.out (by rw [HRk.out]; exact hrbl) HE0.out HSt1.out HA1.out HSt2.out HA2.out HSt3.out HI3.out HK4.out hR rfl)
          clear HD4 h7 hk3 hx03
          go_wp2_with fail
          (try simp only [Exit.inBlock, Exit.then]); refine bodyPost_ret (results_none rfl _ _ _) rfl ?_
          rw [show rs = (s4, ⟨x1, x2, x3, d.nm, d.xs⟩) from HR0.out (by simp)]
          exact ⟨rfl, HS4.out.less (fun x hx => .inl hx) (fun x hx => hx) HOg.out, HN.out.1, step_box (rk := rk) HK0.out (by rw [HRk.out]; exact hrbl) HN.out.2⟩
end Go.Proofs.Ytghgkjollafeiaa
