/-
  LotsFields, walked.
-/
import Derived.Test.YtegbinlpojpffabLHead
import Derived.Test.YtegbinlpojpffabLFieldsP
import Derived.Test.YtegbinlpojpffabLChk2
import Derived.BigRegion
namespace Go.Proofs.Ytegbinlpojpffab
open Go.RowKit Go.Maps Lo

set_option maxRecDepth 100000 in
set_option maxHeartbeats 8000000 in
theorem fields_any (a : Option Addr) (cap : Nat) (l : List Lt) (now which field by0 : Int) (w : World) (hlen : l.length ≤ 9223372036854775807) (hL : LotsAt w a l) :
    Calls Try.prog 4 #[.slice a l.length cap, .int .i64 now, .int .i64 which, .int .i64 field, .int .i64 by0] w fun e w' => e = .returned (.bool true) ∧ Turn [] w w' := by
  have HL := hide hL
  clear hL
  go_enter Try.func4, Try.ntmps4
  go_wp2_with fail
  refine (known_any w).mono ?_
  rintro e w1 ⟨rfl, hT1⟩
  have HT1 := hide hT1
  clear hT1
  go_wp2_with fail
  refine (within_any _ _ _ (by omega) (by omega)).mono ?_
  rintro e w1 ⟨rfl, rfl⟩
  obtain ⟨t, ht⟩ : ∃ t, t = now % 100000 := ⟨_, rfl⟩
  rw [← ht]
  have ht1 : 0 ≤ t ∧ t < 100000 := by omega
  clear ht
  go_wp2_with fail
  refine (goodAt_any a cap l t w1 hlen (HL.out.turn0 HT1.out) (by omega) (by omega)).mono ?_
  rintro e w2 ⟨ga, gc, G, rfl, hG, hT2⟩
  have HG := hide hG
  have HT2 := hide (HT1.out.trans hT2)
  have hGl := hG.good.len
  have hGc := hG.cap
  have HW1 : Hid (w.heap.size ≤ w1.heap.size) := HT1.out.size
  clear hG hT2 HL
  by_cases hz : G.length = 0
  · have hz2 : ((G.length : Int) == 0) = true := by simp; exact List.eq_nil_of_length_eq_zero hz
    go_wp2_with fail
    go_ret
    exact ⟨rfl, HT2.out⟩
  · have hne : G ≠ [] := fun e => hz (by rw [e]; rfl)
    have hz2 : ((G.length : Int) == 0) = false := by simp; exact hne
    obtain ⟨b, off, hga, _⟩ := HG.out.lots.at (show 0 < G.length by omega)
    obtain ⟨e1, hb0, hO⟩ := HG.out.own _ hga
    obtain rfl : off = 0 := congrArg Addr.off e1
    subst hga
    simp only at hb0 hO
    have HO := hide hO
    have HGd := hide HG.out.good
    clear e1 hO HG
    go_wp2_with fail
    refine (within_any _ _ _ (by omega) (by omega)).mono ?_
    rintro e w2 ⟨rfl, rfl⟩
    obtain ⟨k, hkk, hkl⟩ : ∃ k : Nat, which % (G.length : Int) = k ∧ k < G.length := by
      have h1 := Int.emod_nonneg which (show (G.length : Int) ≠ 0 by omega)
      have h2 := Int.emod_lt_of_pos which (show 0 < (G.length : Int) by omega)
      exact ⟨(which % (G.length : Int)).toNat, by omega, by omega⟩
    rw [hkk]
    clear hkk
    go_wp2_with fail
    refine (within_any _ _ _ (by omega) (by omega)).mono ?_
    rintro e w2 ⟨rfl, rfl⟩
    obtain ⟨y, hy⟩ : ∃ y, y = by0 % 100 := ⟨_, rfl⟩
    rw [← hy]
    have hy1 : 0 ≤ y ∧ y < 100 := by omega
    clear hy
    have hx := HO.out.lots k hkl
    have HGx := hide (HGd.out.at hkl)
    have hfz := HO.out.fz
    have hbl := HO.out.lt
    have HCS := fun {e : Int} (he : e ≠ 0) {y : Lt} hy => hide (HGd.out.chk_set (show t ≤ 200000 by omega) hkl he (y := y) hy)
    generalize hxx : G.getD k Lt.nil = x at *
    have HX := hide hx
    simp only [Nat.zero_add] at hx
    obtain ⟨c0, c1, c2, c3, c4, c5, c6, c7, c8⟩ := hx
    have hT2b : Hid (Turn [] w w2) := HT2
    obtain ⟨f, hf⟩ : ∃ f, f = field % 8 := ⟨_, rfl⟩
    have hf1 : f = 0 ∨ f = 1 ∨ f = 2 ∨ f = 3 ∨ f = 4 ∨ f = 5 ∨ f = 6 ∨ f = 7 := by omega
    have HWf := fun w => hide (within_any field 8 w (by omega) (by omega))
    rw [← hf] at HWf
    clear hf
    have HEnd : Hid (∀ (W : World) (y' : Lt) (e : Int), Turn [b] w2 W → LotIn W b (0 + k * 9) y' → (∀ q, (q < 0 + k * 9 ∨ 0 + k * 9 + 8 < q) → W.cell? ⟨b, q, none⟩ = w2.cell? ⟨b, q, none⟩) → chk (G.set k y') = e → Calls Try.prog 13 #[.slice (some ⟨b, 0, none⟩) G.length gc] W fun r w' => r = .returned (.int .i64 e) ∧ Turn [] w w') := fun W y' e h0 h1 h2 h3 => by
      have h := check_any (some ⟨b, 0, none⟩) gc (G.set k y') W (by rw [List.length_set]; omega) (HO.out.lots.put hkl h1 h2).at
      rw [List.length_set, h3] at h
      refine h.mono ?_
      rintro r w' ⟨rfl, hT⟩
      exact ⟨rfl, (HT2.out.then h0 (by simp; have := HW1.out; omega)).trans hT⟩
    clear HO HT2 hT2b HGd
    rcases hf1 with rfl | rfl | rfl | rfl | rfl | rfl | rfl | rfl
    · have HQ := hide (HEnd.out (w2.setCell ⟨b, k * 9, none⟩ (.int .i64 (-(1 + y)))) { x with id := -(1 + y) } 1 ((Turn.refl [b] w2).setCell (b := b) (by simp) _ _) (by have := HX.out.set_id (-(1 + y)); simp only [Nat.zero_add] at this ⊢; exact this) (fun q hq => World.cell?_setCell_other _ _ _ _ (off_ne (by omega))) (HCS (by omega) (y := ({ x with id := -(1 + y) } : Lt)) (fun p hp1 hp2 hp3 => bad0 (by omega) hp1)).out)
      clear HEnd HCS HX
      by_cases hl1 : 1 < G.length
      all_goals
        go_wp2_with (first | (go_at_call 8; refine (HWf _).out.mono ?_; rintro e w2 ⟨rfl, rfl⟩) | fail)
        refine HQ.out.mono ?_
        rintro r w3 ⟨rfl, hT3⟩
        have HT3 := hide hT3
        clear hT3
        go_wp2_with fail
        go_ret
        exact ⟨rfl, HT3.out⟩
    · by_cases hl1 : 1 < G.length
      · by_cases hk0 : 0 < k
        · have HQ := hide (HEnd.out ((w2.setCell ⟨b, k * 9 + 1, none⟩ (.int .i64 (2 + (1 + y)))).setCell ⟨b, k * 9 + 1, none⟩ (.int .i64 (-(1 + y)))) { x with kd := -(1 + y) } 3 (((Turn.refl [b] w2).setCell (b := b) (by simp) _ _).setCell (b := b) (by simp) _ _) (by have := (HX.out.set_kd (2 + (1 + y))).set_kd (-(1 + y)); simp only [Nat.zero_add] at this ⊢; exact this) (fun q hq => (World.cell?_setCell_other _ _ _ _ (off_ne (by omega))).trans (World.cell?_setCell_other _ _ _ _ (off_ne (by omega)))) (HCS (by omega) (y := ({ x with kd := -(1 + y) } : Lt)) (fun p hp1 hp2 hp3 => bad1 (by omega) hp2 hp3)).out)
          clear HEnd HCS HX
          go_wp2_with (first | (go_at_call 8; refine (HWf _).out.mono ?_; rintro e w2 ⟨rfl, rfl⟩) | fail)
          refine HQ.out.mono ?_
          rintro r w3 ⟨rfl, hT3⟩
          have HT3 := hide hT3
          clear hT3
          go_wp2_with fail
          go_ret
          exact ⟨rfl, HT3.out⟩
        · have HQ := hide (HEnd.out (w2.setCell ⟨b, k * 9 + 1, none⟩ (.int .i64 (2 + (1 + y)))) { x with kd := 2 + (1 + y) } 3 ((Turn.refl [b] w2).setCell (b := b) (by simp) _ _) (by have := HX.out.set_kd (2 + (1 + y)); simp only [Nat.zero_add] at this ⊢; exact this) (fun q hq => World.cell?_setCell_other _ _ _ _ (off_ne (by omega))) (HCS (by omega) (y := ({ x with kd := 2 + (1 + y) } : Lt)) (fun p hp1 hp2 hp3 => bad1 (by omega) hp2 hp3)).out)
          clear HEnd HCS HX
          go_wp2_with (first | (go_at_call 8; refine (HWf _).out.mono ?_; rintro e w2 ⟨rfl, rfl⟩) | fail)
          refine HQ.out.mono ?_
          rintro r w3 ⟨rfl, hT3⟩
          have HT3 := hide hT3
          clear hT3
          go_wp2_with fail
          go_ret
          exact ⟨rfl, HT3.out⟩
      · have hkz : Hid (k = 0) := by rw [Hid]; omega
        have HQ := hide (HEnd.out (w2.setCell ⟨b, k * 9 + 1, none⟩ (.int .i64 (2 + (1 + y)))) { x with kd := 2 + (1 + y) } 3 ((Turn.refl [b] w2).setCell (b := b) (by simp) _ _) (by have := HX.out.set_kd (2 + (1 + y)); simp only [Nat.zero_add] at this ⊢; exact this) (fun q hq => World.cell?_setCell_other _ _ _ _ (off_ne (by omega))) (HCS (by omega) (y := ({ x with kd := 2 + (1 + y) } : Lt)) (fun p hp1 hp2 hp3 => bad1 (by omega) hp2 hp3)).out)
        clear HEnd HCS HX
        go_wp2_with (first | (go_at_call 8; refine (HWf _).out.mono ?_; rintro e w2 ⟨rfl, rfl⟩) | fail)
        refine HQ.out.mono ?_
        rintro r w3 ⟨rfl, hT3⟩
        have HT3 := hide hT3
        clear hT3
        go_wp2_with fail
        go_ret
        exact ⟨rfl, HT3.out⟩
    · have HQ := hide (HEnd.out (w2.setCell ⟨b, k * 9 + 2, none⟩ (.int .i64 (-(1 + y)))) { x with fr := -(1 + y) } 1 ((Turn.refl [b] w2).setCell (b := b) (by simp) _ _) (by have := HX.out.set_fr (-(1 + y)); simp only [Nat.zero_add] at this ⊢; exact this) (fun q hq => World.cell?_setCell_other _ _ _ _ (off_ne (by omega))) (HCS (by omega) (y := ({ x with fr := -(1 + y) } : Lt)) (fun p hp1 hp2 hp3 => bad2 HGx.out (by omega) hp2 hp3)).out)
      clear HEnd HCS HX
      by_cases hl1 : 1 < G.length
      all_goals
        go_wp2_with (first | (go_at_call 8; refine (HWf _).out.mono ?_; rintro e w2 ⟨rfl, rfl⟩) | fail)
        refine HQ.out.mono ?_
        rintro r w3 ⟨rfl, hT3⟩
        have HT3 := hide hT3
        clear hT3
        go_wp2_with fail
        go_ret
        exact ⟨rfl, HT3.out⟩
    · have HQ := hide (HEnd.out (w2.setCell ⟨b, k * 9 + 3, none⟩ (.int .i64 (x.fr))) { x with un := x.fr } 1 ((Turn.refl [b] w2).setCell (b := b) (by simp) _ _) (by have := HX.out.set_un (x.fr); simp only [Nat.zero_add] at this ⊢; exact this) (fun q hq => World.cell?_setCell_other _ _ _ _ (off_ne (by omega))) (HCS (by omega) (y := ({ x with un := x.fr } : Lt)) (fun p hp1 hp2 hp3 => bad3 HGx.out hp2 hp3)).out)
      clear HEnd HCS HX
      by_cases hl1 : 1 < G.length
      all_goals
        go_wp2_with (first | (go_at_call 8; refine (HWf _).out.mono ?_; rintro e w2 ⟨rfl, rfl⟩) | fail)
        refine HQ.out.mono ?_
        rintro r w3 ⟨rfl, hT3⟩
        have HT3 := hide hT3
        clear hT3
        go_wp2_with fail
        go_ret
        exact ⟨rfl, HT3.out⟩
    · have HQ := hide (HEnd.out (w2.setCell ⟨b, k * 9 + 6, none⟩ (.int .i64 (-(1 + y)))) { x with he := -(1 + y) } 11 ((Turn.refl [b] w2).setCell (b := b) (by simp) _ _) (by have := HX.out.set_he (-(1 + y)); simp only [Nat.zero_add] at this ⊢; exact this) (fun q hq => World.cell?_setCell_other _ _ _ _ (off_ne (by omega))) (HCS (by omega) (y := ({ x with he := -(1 + y) } : Lt)) (fun p hp1 hp2 hp3 => badA HGx.out (by omega) hp2 hp3 rfl rfl rfl rfl (not_adds 2 (by omega) (by simp only [five]; omega)))).out)
      clear HEnd HCS HX
      by_cases hl1 : 1 < G.length
      all_goals
        go_wp2_with (first | (go_at_call 8; refine (HWf _).out.mono ?_; rintro e w2 ⟨rfl, rfl⟩) | fail)
        refine HQ.out.mono ?_
        rintro r w3 ⟨rfl, hT3⟩
        have HT3 := hide hT3
        clear hT3
        go_wp2_with fail
        go_ret
        exact ⟨rfl, HT3.out⟩
    · have HQ := hide (HEnd.out (w2.setCell ⟨b, k * 9 + 4, none⟩ (.int .i64 (x.co + x.ex + x.ro - (1 + y)))).drew { x with gr := x.co + x.ex + x.ro - (1 + y) } 11 ((Turn.refl [b] w2).setCell (b := b) (by simp) _ _).drew (by have := (HX.out.set_gr (x.co + x.ex + x.ro - (1 + y))).turn ((Turn.refl [] _).drew) (by simp); simp only [Nat.zero_add] at this ⊢; exact this) (fun q hq => World.cell?_setCell_other _ _ _ _ (off_ne (by omega))) (HCS (by omega) (y := ({ x with gr := x.co + x.ex + x.ro - (1 + y) } : Lt)) (fun p hp1 hp2 hp3 => badA HGx.out (by omega) hp2 hp3 rfl rfl rfl rfl (not_adds_rest (by have := HGx.out.he; unfold rest; simp only; omega)))).out)
      have hgb := HGx.out
      have hw1 : IntKind.i64.wrap (x.co + x.ex) = x.co + x.ex := by rw [IntKind.wrap_i64]; have := hgb.co; have := hgb.ex; omega
      have hw2 : IntKind.i64.wrap (x.co + x.ex + x.ro) = x.co + x.ex + x.ro := by rw [IntKind.wrap_i64]; have := hgb.co; have := hgb.ex; have := hgb.ro; omega
      have hw3 : IntKind.i64.wrap (x.co + x.ex + x.ro - (1 + y)) = x.co + x.ex + x.ro - (1 + y) := by rw [IntKind.wrap_i64]; have := hgb.co; have := hgb.ex; have := hgb.ro; omega
      clear HEnd HCS HX hgb
      go_wp2_with (first | (go_at_call 8; refine (HWf _).out.mono ?_; rintro e w2 ⟨rfl, rfl⟩) | fail)
      go_region_held (fun w' => w'.cell? ⟨b, k * 9 + 5, none⟩ = some (.int .i64 x.co) ∧ w'.cell? ⟨b, k * 9 + 7, none⟩ = some (.int .i64 x.ex) ∧ w'.cell? ⟨b, k * 9 + 8, none⟩ = some (.int .i64 x.ro)) (first | assumption | exact ⟨(World.cell?_setCell_other _ _ _ _ (off_ne (by omega))).trans c5, (World.cell?_setCell_other _ _ _ _ (off_ne (by omega))).trans c7, (World.cell?_setCell_other _ _ _ _ (off_ne (by omega))).trans c8⟩ | go_keep) (fail)
      have HQ2 := hide HQ.out
      clear c0 c1 c2 c3 c4 c5 c6 c7 c8 HQ hfz
      generalize (w2.setCell ⟨b, k * 9 + 4, none⟩ (.int .i64 (x.co + x.ex + x.ro - (1 + y)))).drew = W5 at *
      by_cases hl1 : 1 < G.length
      all_goals
        go_wp2_with (first | (go_at_call 8; refine (HWf _).out.mono ?_; rintro e W5 ⟨rfl, rfl⟩) | fail)
        refine HQ2.out.mono ?_
        rintro r w3 ⟨rfl, hT3⟩
        have HT3 := hide hT3
        clear hT3
        go_wp2_with fail
        go_ret
        exact ⟨rfl, HT3.out⟩
    · have HQ := hide (HEnd.out (w2.setCell ⟨b, k * 9 + 7, none⟩ (.int .i64 (1099511627776 + (1 + y)))) { x with ex := 1099511627776 + (1 + y) } 11 ((Turn.refl [b] w2).setCell (b := b) (by simp) _ _) (by have := HX.out.set_ex (1099511627776 + (1 + y)); simp only [Nat.zero_add] at this ⊢; exact this) (fun q hq => World.cell?_setCell_other _ _ _ _ (off_ne (by omega))) (HCS (by omega) (y := ({ x with ex := 1099511627776 + (1 + y) } : Lt)) (fun p hp1 hp2 hp3 => badA HGx.out (by omega) hp2 hp3 rfl rfl rfl rfl (not_adds 3 (by omega) (by simp only [five]; omega)))).out)
      clear HEnd HCS HX
      by_cases hl1 : 1 < G.length
      all_goals
        go_wp2_with (first | (go_at_call 8; refine (HWf _).out.mono ?_; rintro e w2 ⟨rfl, rfl⟩) | fail)
        refine HQ.out.mono ?_
        rintro r w3 ⟨rfl, hT3⟩
        have HT3 := hide hT3
        clear hT3
        go_wp2_with fail
        go_ret
        exact ⟨rfl, HT3.out⟩
    · have HQ := hide (HEnd.out (w2.setCell ⟨b, k * 9 + 3, none⟩ (.int .i64 (1099511627776 + (1 + y)))) { x with un := 1099511627776 + (1 + y) } 1 ((Turn.refl [b] w2).setCell (b := b) (by simp) _ _) (by have := HX.out.set_un (1099511627776 + (1 + y)); simp only [Nat.zero_add] at this ⊢; exact this) (fun q hq => World.cell?_setCell_other _ _ _ _ (off_ne (by omega))) (HCS (by omega) (y := ({ x with un := 1099511627776 + (1 + y) } : Lt)) (fun p hp1 hp2 hp3 => bad7 HGx.out (by omega) hp2 hp3)).out)
      clear HEnd HCS HX
      by_cases hl1 : 1 < G.length
      all_goals
        go_wp2_with (first | (go_at_call 8; refine (HWf _).out.mono ?_; rintro e w2 ⟨rfl, rfl⟩) | fail)
        refine HQ.out.mono ?_
        rintro r w3 ⟨rfl, hT3⟩
        have HT3 := hide hT3
        clear hT3
        go_wp2_with fail
        go_ret
        exact ⟨rfl, HT3.out⟩

end Go.Proofs.Ytegbinlpojpffab
