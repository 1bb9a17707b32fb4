/-
  WindowPlays, walked.
-/
import Derived.Test.YtbkphdemmnjhcaaWKnown
import Derived.Test.YtbkphdemmnjhcaaWRef
import Derived.Test.YtbkphdemmnjhcaaWSame
import Derived.Test.YtbkphdemmnjhcaaWFrame
import Derived.Deep.Cut
import Derived.Deep.CutRange
import Derived.Deep.RegionHeld3
namespace Go.Proofs.Ytbkphdemmnjhcaa.Wi
open Go.RowKit Go.Maps

theorem range_er {w : World} {g : Nat} {x : An} (h : w.rangeAt g 0 (anC x)) (v : Int) : (w.setCell ⟨g, 0, none⟩ (.int .i64 v)).rangeAt g 0 (anC { x with er := v }) := fun j u hj => by
  rcases Nat.eq_zero_or_pos j with rfl | hp
  · have h0 : w.cell? ⟨g, 0, none⟩ = some (.int .i64 x.er) := h 0 _ rfl
    have : u = .int .i64 v := by
      have : (anC { x with er := v })[0]? = some (.int .i64 v) := rfl
      rw [this] at hj
      exact (Option.some.inj hj).symm
    subst this
    exact World.cell?_setCell_same _ _ _ h0
  · rw [World.cell?_setCell_other _ _ _ _ (off_ne (by omega))]
    refine h j u ?_
    obtain ⟨k, rfl⟩ : ∃ k, j = k + 1 := ⟨j - 1, by omega⟩
    exact hj

theorem turn_new {u w : World} (h : Turn [] u w) {b : Nat} (hb : u.heap.size ≤ b) (o : Nat) (v : Value) : Turn [] u (w.setCell ⟨b, o, none⟩ v) :=
  ⟨h.os, h.tape, h.output, by rw [World.size_setCell]; exact h.size, fun i hi hn => (Below.heap_setCell w ⟨b, o, none⟩ v i (fun e => by change i = b at e; omega)).trans (h.block i hi hn)⟩

theorem row_lit (w : World) : Row (w.alloc (.cells #[] 43)) w.heap.size (.slice (some ⟨w.heap.size, 0, none⟩) 0 0) [] := World.ownsRow_lit w #[] 0 (Nat.le_refl _) (by unfold maxLen; omega) (by simp)

set_option maxRecDepth 100000 in
set_option maxHeartbeats 8000000 in
theorem plays_any (ia : Option Addr) (ic : Nat) (il : List Int) (ea : Option Addr) (ec : Nat) (el : List Int) (w : World) (_h1 : il.length ≤ 9223372036854775807) (hI : NumsAt w ia il) (_h2 : el.length ≤ 9223372036854775807) (hE : NumsAt w ea el) :
    Calls Try.prog 3 #[.slice ia il.length ic, .slice ea el.length ec] w fun e w' => e = .returned (.bool true) ∧ Turn [] w w' := by
  have HI := hide hI
  have HE := hide hE
  clear hI hE
  go_enter Try.func3, Try.ntmps3
  go_wp2_with fail
  refine (known_any w).mono ?_
  rintro e w1 ⟨rfl, hT1⟩
  have HT1 := hide hT1
  clear hT1
  go_wp2_with fail
  go_loopw [5, 6] (fun u i wr => ∃ (j : Nat) (wa : Option Addr) (cc : Nat) (x : List Ent), j ≤ 80 ∧ u = .slice wa x.length cc ∧ i = .int .i64 (j : Int) ∧ Hid (Up x) ∧ x.length ≤ 12 ∧ Hid (WinAt wr wa cc x) ∧ Turn [] w wr) (fun _ i _ => 81 - (intOf i).toNat)
  case atStart => exact ⟨0, none, 0, [], by omega, rfl, rfl, List.Pairwise.nil, by simp, WinAt.nil _, HT1.out⟩
  case round =>
    obtain ⟨j, wa, cc, x, hj, rfl, rfl, HU, hxl, HW, hT⟩ := hrel
    have HT := hide hT
    clear hT
    by_cases hjl : j < il.length
    · by_cases hj80 : j < 80
      · obtain ⟨b, off, rfl, cw⟩ := HI.out.at hjl
        have HCW := hide cw
        clear cw
        generalize il.getD j 0 = id at *
        go_upto_if 31 with (first | ((with_reducible refine keep_answer _ _ (nAn (j : Int)) ?_ ?_ ?_); rfl; rfl; intro wB hRB hTB hsB htB; have HTB := hide hTB; have HRB := hide hRB; have HthB := hide htB; clear hTB hRB hsB htB; simp only [Act.put]) | fail)
        go_cut [] from 16 to 92 (fun wx => ∃ A : An, Hid (wx.rangeAt wr.heap.size 0 (anC A)) ∧ Turn [] wr wx)
        case first =>
          by_cases he : j < el.length
          · obtain ⟨b2, off2, rfl, cw2⟩ := HE.out.at he
            have c2 := ((HT.out.trans HTB.out).cell (p := ⟨b2, off2 + j, none⟩) (lt_of_cell cw2) (by simp)).trans cw2
            have hb2 := lt_of_cell c2
            have k0 : wB.cell? ⟨wr.heap.size, 0, none⟩ = some (.int .i64 0) := HRB.out 0 _ rfl
            have f0 : wB.frozen? ⟨wr.heap.size, 0, none⟩ = false := (HthB.out 0 (by omega)).2
            have hg := lt_of_cell k0
            clear cw2
            generalize el.getD j 0 = z at *
            go_wp2_with fail
            refine (within_any z 25 _ (by omega) (by omega)).mono ?_
            rintro e w2 ⟨rfl, rfl⟩
            go_wp2_with fail
            go_meet
            case rel => exact ⟨_, range_er HRB.out _, turn_new HTB.out (Nat.le_refl _) _ _⟩
          · go_wp2_with fail
            go_meet
            case rel => exact ⟨_, HRB, HTB.out⟩
        case rest =>
          obtain ⟨A, HR, hTc⟩ := hcut
          have HWc := hide (HW.out.turn0 hTc)
          have HTc := hide (HT.out.trans hTc)
          clear hTc HW HT HTB HRB HthB wB
          generalize wr.heap.size = g at *
          go_wp2_with (first | (at_builtin; refine append_ents rfl _ _ rfl wc.heap.size (.slice (some ⟨wc.heap.size, 0, none⟩) 0 0) [] x wa x.length cc rfl rfl (row_lit wc) rfl (HWc.out.1.turn0 ((Turn.refl [] wc).alloc _)) HWc.out.2.1 (by simp; omega) (by simp) ?_; intro v2 w2 hown2 hT2; have hT2' := hT2 wc (Nat.le_refl _) ((Turn.refl [] wc).alloc _); obtain ⟨a2, k2, hv2, hW2⟩ := hown2.win; rw [List.nil_append] at hv2 hW2; subst hv2; have HW2 := hide hW2; have HT2 := hide (HTc.out.trans hT2'); have HX2 := hide (HWc.out.turn0 hT2'); have HR2 := hide (rangeAt_turn HR.out hT2' (by simp)); have c2i := (HT2.out.cell (p := ⟨b, off + j, none⟩) (lt_of_cell HCW.out) (by simp)).trans HCW.out; have hb2 := lt_of_cell c2i; clear hown2 hT2 hT2' hW2) | fail)
          have HA1 := hide (ask_any wa cc x id w2 (by omega) HX2.out.1)
          refine HA1.out.mono ?_
          rintro e w3 ⟨rfl, hT3⟩
          have HW3 := hide (HW2.out.turn0 hT3)
          have HX3 := hide (HX2.out.turn0 hT3)
          have HR3 := hide (rangeAt_turn HR2.out hT3 (by simp))
          have HT3 := hide (HT2.out.trans hT3)
          clear hT3 HA1 HW2 HX2 HR2 HT2 c2i hb2 HR HWc HTc
          have HKd : Hid (kindOf x id = 0 → ¬ has x id) := kind_new_not
          have HKc := hide (kind_cases x id)
          have HRA := hide (fun w h => rask_any a2 k2 x id w HU.out (by omega) h)
          unfold askV at HRA ⊢
          generalize kindOf x id = kk at *
          generalize ansOf x id = y at *
          go_wp2_with (first | ((with_reducible refine keep_answer _ _ y ?_ ?_ ?_); rfl; rfl; intro w4 hR4 hT4 _ _; have HY4 := hide hR4; have HT4 := hide (HT3.out.trans hT4); have HW4 := hide (HW3.out.turn0 hT4); have HX4 := hide (HX3.out.turn0 hT4); have HR4 := hide (rangeAt_turn HR3.out hT4 (by simp)); have c4i := (HT4.out.cell (p := ⟨b, off + j, none⟩) (lt_of_cell HCW.out) (by simp)).trans HCW.out; have hb4 := lt_of_cell c4i; clear hR4 hT4; simp only [Act.put]) | fail)
          refine (HRA.out w4 HW4.out.1).mono ?_
          rintro e w5 ⟨rfl, hT5⟩
          have HY5 := hide (rangeAt_turn HY4.out hT5 (by simp))
          have HT5 := hide (HT4.out.trans hT5)
          have HW5 := hide (HW4.out.turn0 hT5)
          have HX5 := hide (HX4.out.turn0 hT5)
          have HR5 := hide (rangeAt_turn HR4.out hT5 (by simp))
          clear hT5 HRA HY4 HT4 HW4 HX4 HR4 c4i hb4 HW3 HX3 HR3 HT3
          generalize w3.heap.size = g3 at *
          have heq := eq_an y
          go_upto_region 13 with (first | ((with_reducible refine keep_answer _ _ y ?_ ?_ ?_); rfl; rfl; intro w6 hR6 hT6 _ _; have HZ6 := hide hR6; have HY6 := hide (rangeAt_turn HY5.out hT6 (by simp)); have HT6 := hide (HT5.out.trans hT6); have HW6 := hide (HW5.out.turn0 hT6); have HX6 := hide (HX5.out.turn0 hT6); have HR6 := hide (rangeAt_turn HR5.out hT6 (by simp)); clear hR6 hT6; simp only [Act.put]) | fail)
          generalize w5.heap.size = g5 at *
          obtain ⟨c0, c1, c2, c3, c4, c5, c6, c7, c8, c9, c10, c11, c12⟩ := an_cells HY6.out
          obtain ⟨d0, d1, d2, d3, d4, d5, d6, d7, d8, d9, d10, d11, d12⟩ := an_cells HZ6.out
          simp only [Nat.zero_add] at c0 c1 c2 c3 c4 c5 c6 c7 c8 c9 c10 c11 c12 d0 d1 d2 d3 d4 d5 d6 d7 d8 d9 d10 d11 d12
          have hg3 := lt_of_cell c0
          have hg5 := lt_of_cell d0
          clear HY5 HT5 HW5 HX5 HR5
          rcases HKc.out with hk | hk | hk
          · rw [hk] at HKd ⊢
            go_upto_region 16 with fail
            clear c0 c1 c2 c3 c4 c5 c6 c7 c8 c9 c10 c11 c12 d0 d1 d2 d3 d4 d5 d6 d7 d8 d9 d10 d11 d12 heq HY6 HZ6 hg3 hg5
            have HNH := HKd.out rfl
            have HU7 : Hid (Up (note x ⟨id, A⟩)) := up_note HU.out HNH
            have HL7 : Hid ((note x ⟨id, A⟩).length ≤ 12) := note_len12 _ hxl
            have HC := hide (note_any wa cc x id A w6.drew (by omega) (HX6.out.turn0 (Turn.refl [] w6).drew))
            have HRN := hide (fun w h => rnote_any a2 k2 x id A w (by omega) h)
            clear HKd HKc HNH
            generalize note x ⟨id, A⟩ = x7 at *
            have hl7 := HL7.out
            have ci := (HT6.out.cell (p := ⟨b, off + j, none⟩) (lt_of_cell HCW.out) (by simp)).trans HCW.out
            have hb6 := lt_of_cell ci
            obtain ⟨e0, e1, e2, e3, e4, e5, e6, e7, e8, e9, e10, e11, e12⟩ := an_cells HR6.out
            simp only [Nat.zero_add] at e0 e1 e2 e3 e4 e5 e6 e7 e8 e9 e10 e11 e12
            have hg6 := lt_of_cell e0
            go_cut [13] from 16 to 92 (fun u wx => ∃ (a7 : Option Addr) (c7 : Nat), u = .slice a7 x7.length c7 ∧ Hid (WinAt wx a7 c7 x7) ∧ Turn [] w6 wx)
            case first =>
              go_region_with (go_at_call 11; refine HC.out.mono ?_; rintro e w7 ⟨a7, c7, rfl, hW7, hT7⟩)
              all_goals
                go_wp2_with fail
                go_meet
                case rel => exact ⟨a7, c7, rfl, hW7, (Turn.refl [] w6).drew.trans hT7⟩
            case rest =>
              clear ci hb6 e0 e1 e2 e3 e4 e5 e6 e7 e8 e9 e10 e11 e12 hg6 HC
              obtain ⟨a7, c7, rfl, HN7, hT7⟩ := hcut
              have HT7 := hide (HT6.out.trans hT7)
              have HW7 := hide (HW6.out.turn0 hT7)
              have HX7 := hide (HX6.out.turn0 hT7)
              have HR7 := hide (rangeAt_turn HR6.out hT7 (by simp))
              clear hT7 HT6 HW6 HX6 HR6
              have ci := (HT7.out.cell (p := ⟨b, off + j, none⟩) (lt_of_cell HCW.out) (by simp)).trans HCW.out
              have hb6 := lt_of_cell ci
              obtain ⟨e0, e1, e2, e3, e4, e5, e6, e7, e8, e9, e10, e11, e12⟩ := an_cells HR7.out
              simp only [Nat.zero_add] at e0 e1 e2 e3 e4 e5 e6 e7 e8 e9 e10 e11 e12
              have hg6 := lt_of_cell e0
              go_upto_region 17 with fail
              have HC8 := hide (HRN.out wc.drew (HW7.out.turn0 (Turn.refl [] wc).drew))
              clear HRN
              go_cut [91] from 16 to 92 (fun u wx => u = .bool false ∧ Turn [] wc wx)
              case first =>
                go_region_with (first | (go_at_call 13; (with_reducible refine HC8.out.mono ?_); rintro e w8 ⟨a8, c8, rfl, hW8, hT8⟩) | (go_at_call 12; have HXX := same_any a7 a8 c7 c8 x7 w8 (by omega) (HN7.out.turn0 ((Turn.refl [] wc).drew.trans hT8)).1 hW8.1; (with_reducible refine HXX.mono ?_); clear HXX; rintro e w9 ⟨rfl, m9, rfl⟩) | (go_at_call 12; have HXX := same_any wa a2 cc k2 x (w8.drewN m9) (by omega) (HX7.out.turn0 (((Turn.refl [] wc).drew.trans hT8).drewN m9)).1 (HW7.out.turn0 (((Turn.refl [] wc).drew.trans hT8).drewN m9)).1; (with_reducible refine HXX.mono ?_); clear HXX; rintro e w10 ⟨rfl, m10, rfl⟩))
                all_goals
                  go_wp2_with fail
                  go_meet
                  case rel => exact ⟨rfl, ((Turn.refl [] wc).drew.trans hT8).drewN _⟩
              case rest =>
                obtain ⟨rfl, hT11⟩ := hcut
                have HT11 := hide (HT7.out.trans hT11)
                have HN11 := hide (HN7.out.turn0 hT11)
                clear hT11 HT7 HN7 HC8
                clear ci hb6 e0 e1 e2 e3 e4 e5 e6 e7 e8 e9 e10 e11 e12 hg6
                go_wp2_with fail
                go_roundw
                case rel => exact ⟨j + 1, a7, c7, x7, by omega, rfl, by go_num, HU7, hl7, HN11, HT11.out⟩
                case measure => simp [intOf]; omega
          · rw [hk]
            go_wp2_with fail
            go_roundw
            case rel => exact ⟨j + 1, wa, cc, x, by omega, rfl, by go_num, HU, hxl, HX6, HT6.out⟩
            case measure => simp [intOf]; omega
          · rw [hk]
            go_wp2_with fail
            go_roundw
            case rel => exact ⟨j + 1, wa, cc, x, by omega, rfl, by go_num, HU, hxl, HX6, HT6.out⟩
            case measure => simp [intOf]; omega
      · go_wp2_with fail
        go_ret
        exact ⟨rfl, HT.out⟩
    · go_wp2_with fail
      go_ret
      exact ⟨rfl, HT.out⟩

end Go.Proofs.Ytbkphdemmnjhcaa.Wi
