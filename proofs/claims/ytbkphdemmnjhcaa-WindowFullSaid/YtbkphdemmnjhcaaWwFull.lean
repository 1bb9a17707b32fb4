/-
  WindowFull, walked.
-/
import Derived.Test.YtbkphdemmnjhcaaWKnown
import Derived.Test.YtbkphdemmnjhcaaWFrame
namespace Go.Proofs.Ytbkphdemmnjhcaa.Wi
open Go.RowKit Go.Maps

theorem kind_below {x : List Ent} {i : Int} (h12 : x.length = 12) (h : ∀ y ∈ x, i < y.id) : kindOf x i = 2 := by
  rw [kind_no (not_has_ne fun e he => by have := h e he; omega), if_pos]
  exact ⟨pos_zero fun e he => by have := h e he; omega, by omega⟩
theorem note_great {x : List Ent} {e : Ent} (h12 : x.length = 12) (h : ∀ y ∈ x, y.id < e.id) : note x e = x.drop 1 ++ [e] := by
  unfold note
  rw [ins_length, if_pos (by omega), ins_end h, List.drop_append_of_le_length (by omega)]
theorem kind_great {x : List Ent} {e : Ent} (h : ∀ y ∈ x, y.id < e.id) : kindOf (x ++ [e]) e.id = 1 ∧ ansOf (x ++ [e]) e.id = e.an := by
  have hg : (x ++ [e]).getD x.length Ent.nil = e := by rw [List.getD_eq_getElem?_getD, List.getElem?_append_right (Nat.le_refl _), Nat.sub_self]; rfl
  have hp : pos (x ++ [e]) e.id = x.length := pos_of (by simp) (fun m hm => by
    rw [List.getD_eq_getElem?_getD, List.getElem?_append_left hm, ← List.getD_eq_getElem?_getD]
    exact h _ (getD_mem hm)) (fun _ => by rw [hg]; exact Int.le_refl _)
  have hh : has (x ++ [e]) e.id := by
    unfold has
    rw [hp, hg]
    exact ⟨by simp, rfl⟩
  refine ⟨kind_has hh, ?_⟩
  rw [ans_has hh, hp, hg]

/-- The window's entries. -/
def ff (s : Int) (i : Nat) : Ent := ⟨100 + ((i : Int) + 1) * s, nAn ((i : Int) + 1)⟩
theorem ff_up {s : Int} (hs : 2 ≤ s) : Rising (ff s) := fun i j h => by
  have : ((i : Int) + 1) * s < ((j : Int) + 1) * s := Int.mul_lt_mul_of_pos_right (by omega) (by omega)
  unfold ff
  simp only
  omega
theorem ff_bd {s : Int} (h1 : 2 ≤ s) (h2 : s ≤ 51) (i : Nat) (hi : i < 12) : 2 ≤ ((i : Int) + 1) * s ∧ ((i : Int) + 1) * s ≤ 612 := by
  have a : ((i : Int) + 1) * s ≤ 12 * s := Int.mul_le_mul_of_nonneg_right (by omega) (by omega)
  have b : 1 * s ≤ ((i : Int) + 1) * s := Int.mul_le_mul_of_nonneg_right (by omega) (by omega)
  omega
def l12 (s : Int) : List Ent := seqL (ff s) 12
theorem l12_len (s : Int) : (l12 s).length = 12 := seqL_length _ _
theorem l12_a {s : Int} (hs : 2 ≤ s) : kindOf (l12 s) (100 + s - 1) = 2 := kind_below (l12_len s) fun y hy => by
  obtain ⟨k, hk, rfl⟩ := mem_seqL hy
  have : 1 * s ≤ ((k : Int) + 1) * s := Int.mul_le_mul_of_nonneg_right (by omega) (by omega)
  unfold ff
  simp only
  omega
theorem l12_pos {s : Int} (hs : 2 ≤ s) : pos (l12 s) (100 + s + 1) = 1 := pos_of (by rw [l12_len]; omega) (fun m hm => by
    obtain rfl : m = 0 := by omega
    unfold l12
    rw [seqL_get _ (by omega)]
    unfold ff
    simp only
    omega) (fun _ => by
    unfold l12
    rw [seqL_get _ (by omega)]
    unfold ff
    simp only
    omega)
theorem l12_nb {s : Int} (hs : 2 ≤ s) : ¬ has (l12 s) (100 + s + 1) := by
  intro h
  have h2 := h.2
  rw [l12_pos hs] at h2
  unfold l12 at h2
  rw [seqL_get _ (by omega)] at h2
  unfold ff at h2
  simp only at h2
  omega
theorem l12_b {s : Int} (hs : 2 ≤ s) : kindOf (l12 s) (100 + s + 1) = 0 := by
  rw [kind_no (l12_nb hs), l12_pos hs]
  rfl
theorem l12_c {s : Int} (hs : 2 ≤ s) : kindOf (l12 s) (100 + s) = 1 ∧ ansOf (l12 s) (100 + s) = nAn 1 := by
  have := kind_seq (ff_up hs) (j := 12) (k := 0) (by omega) (i := 100 + s) (by unfold ff; simp)
  exact this
def l13 (s : Int) : List Ent := note (l12 s) ⟨100 + s + 1, nAn 77⟩
theorem l13_eq {s : Int} (hs : 2 ≤ s) : l13 s = ⟨100 + s + 1, nAn 77⟩ :: (l12 s).drop 1 := by
  unfold l13 note
  rw [ins_length, l12_len, if_pos (by omega)]
  unfold ins
  rw [l12_pos hs]
  have hl := l12_len s
  generalize l12 s = l at *
  cases l with
  | nil => simp at hl
  | cons x l => rfl
theorem l13_len {s : Int} (hs : 2 ≤ s) : (l13 s).length = 12 := by rw [l13_eq hs, List.length_cons, List.length_drop, l12_len]
theorem l13_bd {s : Int} (hs : 2 ≤ s) (hs2 : s ≤ 51) : ∀ y ∈ l13 s, 100 + s < y.id ∧ y.id < 200000 := by
  rw [l13_eq hs]
  intro y hy
  rcases List.mem_cons.1 hy with rfl | hy
  · simp only; omega
  · obtain ⟨k, hk, hy⟩ := mem_getD hy
    rw [List.length_drop, l12_len] at hk
    rw [List.getD_eq_getElem?_getD, List.getElem?_drop, ← List.getD_eq_getElem?_getD] at hy
    unfold l12 at hy
    rw [seqL_get _ (by omega)] at hy
    subst hy
    have a : (2 : Int) * s ≤ (((1 + k : Nat) : Int) + 1) * s := Int.mul_le_mul_of_nonneg_right (by omega) (by omega)
    have b := ff_bd hs hs2 (1 + k) (by omega)
    unfold ff
    simp only
    omega
theorem l13_c {s : Int} (hs : 2 ≤ s) (hs2 : s ≤ 51) : kindOf (l13 s) (100 + s) = 2 := kind_below (l13_len hs) fun y hy => (l13_bd hs hs2 y hy).1
theorem l13_d {s : Int} (hs : 2 ≤ s) : kindOf (l13 s) (100 + s + 1) = 1 ∧ ansOf (l13 s) (100 + s + 1) = nAn 77 := by
  have hp : pos (l13 s) (100 + s + 1) = 0 := by rw [l13_eq hs, pos, if_pos (Int.le_refl _)]
  have hh : has (l13 s) (100 + s + 1) := by
    unfold has
    rw [hp, l13_eq hs]
    exact ⟨by simp, rfl⟩
  refine ⟨kind_has hh, ?_⟩
  rw [ans_has hh, hp, l13_eq hs]
  rfl

set_option maxRecDepth 100000 in
set_option maxHeartbeats 8000000 in
theorem full_any (step : Int) (a : Option Addr) (c : Nat) (l : List Int) (w : World) (_hlen : l.length ≤ 9223372036854775807) (hL : NumsAt w a l) :
    Calls Try.prog 6 #[.int .i64 step, .slice a l.length c] w fun e w' => e = .returned (.bool true) ∧ Turn [] w w' := by
  have HL := hide hL
  have hm1 := Int.emod_nonneg step (show (50 : Int) ≠ 0 by omega)
  have hm2 := Int.emod_lt_of_pos step (show (0 : Int) < 50 by omega)
  clear hL
  go_enter Try.func6, Try.ntmps6
  go_wp2_with fail
  refine (known_any w).mono ?_
  rintro e w1 ⟨rfl, hT1⟩
  have HT1 := hide hT1
  clear hT1
  go_wp2_with fail
  refine (within_any step 50 _ (by omega) (by omega)).mono ?_
  rintro e w1' ⟨rfl, rfl⟩
  generalize step % 50 = r at *
  go_wp2_with fail
  obtain ⟨s, hsr⟩ : ∃ s, s = 2 + r := ⟨_, rfl⟩
  rw [← hsr]
  have hs1 : 2 ≤ s := by omega
  have hs2 : s ≤ 51 := by omega
  clear hsr hm1 hm2
  go_loopw [5, 6] (fun u i wr => ∃ (j : Nat) (wa : Option Addr) (wc : Nat) (x : List Ent), j ≤ 12 ∧ u = .slice wa x.length wc ∧ i = .int .i64 ((j : Int) + 1) ∧ Hid (x = seqL (ff s) j) ∧ Hid (WinAt wr wa wc x) ∧ Turn [] w wr) (fun _ i _ => 14 - (intOf i).toNat)
  case atStart => exact ⟨0, none, 0, [], by omega, rfl, rfl, rfl, WinAt.nil _, HT1.out⟩
  case round =>
    obtain ⟨j, wa, wc, x, hj, rfl, rfl, HX, HW, hT⟩ := hrel
    have HT := hide hT
    clear hT
    have HXl : Hid (x.length = j) := by unfold Hid; rw [HX.out, seqL_length]
    have hxl : x.length ≤ 12 := by rw [HXl.out]; exact hj
    by_cases hlt : j < 12
    · obtain ⟨hb1, hb2⟩ := ff_bd hs1 hs2 j hlt
      have HN : Hid (note x ⟨100 + ((j : Int) + 1) * s, nAn ((j : Int) + 1)⟩ = seqL (ff s) (j + 1)) := by unfold Hid; rw [HX.out]; exact note_seq (ff_up hs1) hlt
      have HC := hide (note_any wa wc x (100 + ((j : Int) + 1) * s) (nAn ((j : Int) + 1)) wr (by omega) HW.out)
      rw [HN.out] at HC
      clear HX HN
      go_wp2_with fail
      refine HC.out.mono ?_
      rintro e w3 ⟨a1, c1, rfl, hW1, hT1⟩
      have HT2 := hide (HT.out.trans hT1)
      have HW1 := hide hW1
      clear hT1 hW1 HC
      go_wp2_with fail
      go_roundw
      case rel => exact ⟨j + 1, a1, c1, _, by omega, rfl, by go_num, rfl, HW1, HT2.out⟩
      case measure => simp [intOf]; omega
    · obtain rfl : j = 12 := by omega
      have hl12 : x.length = 12 := HXl.out
      have HXe : Hid (x = l12 s) := HX.out
      have K1 : Hid (kindOf x (100 + s - 1) = 2) := by unfold Hid; rw [HXe.out]; exact l12_a hs1
      have K2 : Hid (kindOf x (100 + s + 1) = 0) := by unfold Hid; rw [HXe.out]; exact l12_b hs1
      have K3 : Hid (kindOf x (100 + s) = 1 ∧ ansOf x (100 + s) = nAn 1) := by unfold Hid; rw [HXe.out]; exact l12_c hs1
      have KN : Hid (note x ⟨100 + s + 1, nAn 77⟩ = l13 s) := by unfold Hid; rw [HXe.out]; rfl
      have HL12 := hide hl12
      clear hl12 HX HXe HXl hxl
      have hxl : x.length ≤ 1000 := by rw [HL12.out]; omega
      have HWwr := HW
      have HTwr := HT
      have HA1 := hide (ask_any wa wc x (100 + s - 1) wr (by omega) HWwr.out.1)
      unfold askV at HA1
      rw [K1.out] at HA1
      go_wp2_with fail
      refine HA1.out.mono ?_
      rintro e wA1 ⟨rfl, hTA⟩
      have HTwA1 := hide (HTwr.out.trans hTA)
      have HWwA1 := hide (HWwr.out.turn0 hTA)
      clear hTA HA1
      generalize ansOf x (100 + s - 1) = y1 at *
      go_wp2_with (first | ((with_reducible refine keep_answer _ _ (y1) ?_ ?_ ?_); rfl; rfl; intro wB1 hRB hTB _ _; have HTwB1 := hide (HTwA1.out.trans hTB); have HWwB1 := hide (HWwA1.out.turn0 hTB); clear hTB hRB) | fail)
      have HA2 := hide (ask_any wa wc x (100 + s + 1) wB1 (by omega) HWwB1.out.1)
      unfold askV at HA2
      rw [K2.out] at HA2
      go_wp2_with fail
      refine HA2.out.mono ?_
      rintro e wA2 ⟨rfl, hTA⟩
      have HTwA2 := hide (HTwB1.out.trans hTA)
      have HWwA2 := hide (HWwB1.out.turn0 hTA)
      clear hTA HA2
      generalize ansOf x (100 + s + 1) = y2 at *
      go_wp2_with (first | ((with_reducible refine keep_answer _ _ (y2) ?_ ?_ ?_); rfl; rfl; intro wB2 hRB hTB _ _; have HTwB2 := hide (HTwA2.out.trans hTB); have HWwB2 := hide (HWwA2.out.turn0 hTB); clear hTB hRB) | fail)
      have HA3 := hide (ask_any wa wc x (100 + s) wB2 (by omega) HWwB2.out.1)
      unfold askV at HA3
      rw [K3.out.1, K3.out.2] at HA3
      go_wp2_with fail
      refine HA3.out.mono ?_
      rintro e wA3 ⟨rfl, hTA⟩
      have HTwA3 := hide (HTwB2.out.trans hTA)
      have HWwA3 := hide (HWwB2.out.turn0 hTA)
      clear hTA HA3
      go_wp2_with (first | ((with_reducible refine keep_answer _ _ (nAn 1) ?_ ?_ ?_); rfl; rfl; intro wB3 hRB hTB _ _; have HTwB3 := hide (HTwA3.out.trans hTB); have HWwB3 := hide (HWwA3.out.turn0 hTB); have cB3 : wB3.cell? ⟨wA3.heap.size, 3, none⟩ = some (.int .i64 (1)) := hRB 3 _ rfl; have hgB3 := lt_of_cell cB3; clear hTB hRB) | fail)
      have HC := hide (note_any wa wc x (100 + s + 1) (nAn 77) wB3 hxl HWwB3.out)
      rw [KN.out] at HC
      have HL13 := hide (l13_len hs1)
      have HBd := hide (l13_bd hs1 hs2)
      have K4 := hide (l13_c hs1 hs2)
      have K5 := hide (l13_d hs1)
      generalize l13 s = x2 at *
      unfold Noted at HC
      rw [HL13.out] at HC
      refine HC.out.mono ?_
      rintro e w4 ⟨a4, c4, rfl, hW4, hT4⟩
      have HWw4 := hide hW4
      have HTw4 := hide (HTwB3.out.trans hT4)
      have hx2 : x2.length ≤ 1000 := by rw [HL13.out]; omega
      clear hW4 hT4 HC cB3 hgB3 KN HW HT
      have HA4 := hide (ask_any a4 c4 x2 (100 + s) w4 (by omega) HWw4.out.1)
      unfold askV at HA4
      rw [K4.out, HL13.out] at HA4
      go_wp2_with fail
      refine HA4.out.mono ?_
      rintro e wA4 ⟨rfl, hTA⟩
      have HTwA4 := hide (HTw4.out.trans hTA)
      have HWwA4 := hide (HWw4.out.turn0 hTA)
      clear hTA HA4
      generalize ansOf x2 (100 + s) = y4 at *
      have HA5 := hide (ask_any a4 c4 x2 (100 + s + 1) wA4 (by omega) HWwA4.out.1)
      unfold askV at HA5
      rw [K5.out.1, K5.out.2, HL13.out] at HA5
      go_wp2_with fail
      refine HA5.out.mono ?_
      rintro e wA5 ⟨rfl, hTA⟩
      have HTwA5 := hide (HTwA4.out.trans hTA)
      have HWwA5 := hide (HWwA4.out.turn0 hTA)
      clear hTA HA5
      go_wp2_with (first | ((with_reducible refine keep_answer _ _ (nAn 77) ?_ ?_ ?_); rfl; rfl; intro wB5 hRB hTB _ _; have HTwB5 := hide (HTwA5.out.trans hTB); have HWwB5 := hide (HWwA5.out.turn0 hTB); have cB5 : wB5.cell? ⟨wA5.heap.size, 3, none⟩ = some (.int .i64 (77)) := hRB 3 _ rfl; have hgB5 := lt_of_cell cB5; clear hTB hRB) | fail)
      clear K1 K2 K3 K4 K5 cB5 hgB5
      go_loopw [5, 15] (fun u i wr => ∃ (j : Nat) (wa : Option Addr) (wc : Nat) (x : List Ent), j ≤ 20 ∧ j ≤ l.length ∧ u = .slice wa 12 wc ∧ i = .int .i64 (j : Int) ∧ Hid (x.length = 12) ∧ Hid (∀ y ∈ x, 100 + s < y.id ∧ y.id < 200000 + j) ∧ Hid (WinAt wr wa wc x) ∧ Turn [] w wr) (fun _ i _ => 21 - (intOf i).toNat)
      case atStart => exact ⟨0, a4, c4, x2, by omega, Nat.zero_le _, rfl, rfl, HL13, fun y hy => by have := HBd.out y hy; omega, HWwB5, HTwB5.out⟩
      case round =>
        obtain ⟨j, va, vc, z, hj, hjl, rfl, rfl, HZl, HZb, HWv, hTv⟩ := hrel
        have HTv := hide hTv
        have hz : z.length ≤ 1000 := by rw [HZl.out]; omega
        clear hTv HBd HL13 HWwB5 HTwB5
        by_cases hjl2 : j < l.length
        · by_cases hj20 : j < 20
          · obtain ⟨b, off, rfl, cw⟩ := HL.out.at hjl2
            have HCW := hide cw
            have c0 := (HTv.out.cell (p := ⟨b, off + j, none⟩) (lt_of_cell cw) (by simp)).trans cw
            clear cw
            have hb := lt_of_cell c0
            have HN : Hid (note z ⟨200000 + (j : Int), nAn (l.getD j 0)⟩ = z.drop 1 ++ [⟨200000 + (j : Int), nAn (l.getD j 0)⟩]) := note_great HZl.out fun y hy => (HZb.out y hy).2
            have HKg := hide (kind_great (x := z.drop 1) (e := ⟨200000 + (j : Int), nAn (l.getD j 0)⟩) fun y hy => (HZb.out y (List.mem_of_mem_drop hy)).2)
            have HLg : Hid ((z.drop 1 ++ [(⟨200000 + (j : Int), nAn (l.getD j 0)⟩ : Ent)]).length = 12) := by unfold Hid; rw [List.length_append, List.length_drop, HZl.out]; rfl
            have HBg : Hid (∀ y ∈ z.drop 1 ++ [(⟨200000 + (j : Int), nAn (l.getD j 0)⟩ : Ent)], 100 + s < y.id ∧ y.id < 200000 + ((j + 1 : Nat) : Int)) := fun y hy => by
              rcases List.mem_append.1 hy with h | h
              · have := HZb.out y (List.mem_of_mem_drop h)
                omega
              · obtain rfl := List.mem_singleton.1 h
                simp only
                omega
            have HKb := hide (kind_below HLg.out fun y hy => (HBg.out y hy).1)
            generalize l.getD j 0 = q at *
            have HC := hide (note_any va vc z (200000 + (j : Int)) (nAn q) wr hz HWv.out)
            rw [HN.out] at HC
            generalize z.drop 1 ++ [(⟨200000 + (j : Int), nAn q⟩ : Ent)] = x3 at *
            unfold Noted at HC
            rw [HLg.out, HZl.out] at HC
            clear HN HZb
            go_wp2_with fail
            refine HC.out.mono ?_
            rintro e w6 ⟨a6, c6, rfl, hW6, hT6⟩
            have HWw6 := hide hW6
            have HTw6 := hide (HTv.out.trans hT6)
            have hx3 : x3.length ≤ 1000 := by rw [HLg.out]; omega
            clear hW6 hT6 HC c0 hb
            have HA7 := hide (ask_any a6 c6 x3 (200000 + (j : Int)) w6 (by omega) HWw6.out.1)
            unfold askV at HA7
            rw [HKg.out.1, HKg.out.2, HLg.out] at HA7
            go_wp2_with fail
            refine HA7.out.mono ?_
            rintro e wA7 ⟨rfl, hTA⟩
            have HTwA7 := hide (HTw6.out.trans hTA)
            have HWwA7 := hide (HWw6.out.turn0 hTA)
            clear hTA HA7
            go_wp2_with (first | ((with_reducible refine keep_answer _ _ (nAn q) ?_ ?_ ?_); rfl; rfl; intro wB7 hRB hTB _ _; have HTwB7 := hide (HTwA7.out.trans hTB); have HWwB7 := hide (HWwA7.out.turn0 hTB); have cB7 : wB7.cell? ⟨wA7.heap.size, 3, none⟩ = some (.int .i64 (q)) := hRB 3 _ rfl; have hgB7 := lt_of_cell cB7; clear hTB hRB) | fail)
            have HA8 := hide (ask_any a6 c6 x3 (100 + s) wB7 (by omega) HWwB7.out.1)
            unfold askV at HA8
            rw [HKb.out, HLg.out] at HA8
            go_wp2_with fail
            refine HA8.out.mono ?_
            rintro e wA8 ⟨rfl, hTA⟩
            have HTwA8 := hide (HTwB7.out.trans hTA)
            have HWwA8 := hide (HWwB7.out.turn0 hTA)
            have dB := (hTA.cell (p := ⟨wA7.heap.size, 3, none⟩) hgB7 (by simp)).trans cB7
            have hgB8 := lt_of_cell dB
            clear hTA HA8
            generalize ansOf x3 (100 + s) = y8 at *
            have c8 := (HTwA8.out.cell (p := ⟨b, off + j, none⟩) (lt_of_cell HCW.out) (by simp)).trans HCW.out
            have hb8 := lt_of_cell c8
            clear cB7 hgB7
            go_wp2_with fail
            go_quiet (fail)
            clear dB c8
            go_wp2_with fail
            go_roundw
            case rel => exact ⟨j + 1, a6, c6, x3, by omega, by omega, rfl, by go_num, HLg, HBg, HWwA8.out.turn0 ((Turn.refl [] wA8).drewN _), HTwA8.out.drewN _⟩
            case measure => simp [intOf]; omega
          · go_wp2_with fail
            go_ret
            exact ⟨rfl, HTv.out⟩
        · go_wp2_with fail
          go_ret
          exact ⟨rfl, HTv.out⟩

end Go.Proofs.Ytbkphdemmnjhcaa.Wi
