/-
  The law TreeLimits, walked.
-/
import Derived.Test.YthehkckdecckhaaGreatDoorTKnown
import Derived.Deep.CutRange
namespace Go.Proofs.YthehkckdecckhaaGreatDoor
open Go.RowKit Go.Maps

theorem Turn.undrew {X : List Nat} {w w' : World} (h : Turn X w.drew w') : Turn X w w' := ⟨h.os, h.tape, h.output, h.size, h.block⟩

def rowS (n f : Nat) : ByteArray := textOf (List.replicate n f)
theorem rowS_size (n f : Nat) : (rowS n f).size = n := by unfold rowS; rw [textOf_size, List.length_replicate]

set_option maxRecDepth 100000 in
set_option maxHeartbeats 3200000 in
theorem limits_any (x : Int) (f : Nat) (hx : -9223372036854775808 ≤ x ∧ x ≤ 9223372036854775807) (w : World) (hTab : Tab w) : Calls Tryz.prog 8 #[.int .i64 x, .int .u8 (f : Nat)] w fun e w' => e = .returned (.bool true) ∧ Turn [] w w' := by
  have HTab := hide hTab
  have hs0 : 1 < w.heap.size := lt_of_cell (hTab 0 (by omega))
  clear hTab
  go_enter Tryz.func8, Tryz.ntmps8
  go_wp2_with fail
  refine (known_any w HTab.out).mono ?_
  rintro e w0 ⟨rfl, hT0⟩
  have HTab0 := hide (HTab.out.turn hT0 (by simp))
  have HT0 := hide hT0
  have h0s := hT0.size
  clear hT0
  go_wp2_with fail
  refine (made_new 512 (by omega) (by omega) w0 HTab0.out).mono ?_
  rintro e w1 ⟨t, p, b, m, sm, rb, r, rfl, g1, g2, g3, g4, g5, g6, g7, hO, hTr1, hA1, hT1⟩
  have HTr1 := hide hTr1
  have HA1 := hide hA1
  have HT1 := hide (HT0.out.then hT1 (by simp))
  have HO := hide hO
  have h1s := hT1.size
  clear hTr1 hA1 hT1 hO
  go_wp2_with fail
  refine (within_any x 60 (by omega) (by omega) w1).mono ?_
  rintro e w2 ⟨⟨kn, hkn, rfl⟩, rfl⟩
  go_wp2_with fail
  refine (within_any (x.tdiv 60) 140 (by omega) (by omega) w2).mono ?_
  rintro e w3 ⟨⟨vn, hvn, rfl⟩, rfl⟩
  have HMk := make_bytes vn (by omega)
  have HZ := hide (fun W : World => bytes_new W (List.replicate vn 0) 5)
  have hcv : ∀ W : World, (convert 52 9 (.slice (some ⟨W.heap.size, 0, none⟩) vn vn)).run Tryz.prog (W.alloc (.cells ((List.replicate vn 0).map byteCell).toArray 5)) = .ok (.string (rowS vn 0)) (W.alloc (.cells ((List.replicate vn 0).map byteCell).toArray 5)) := fun W => text_at (HZ.out W) vn vn (by simp)
  have HCv2 : Hid (∀ W w' : World, Turn [] (W.alloc (.cells ((List.replicate vn 0).map byteCell).toArray 5)) w' → (convert 52 9 (.slice (some ⟨W.heap.size, 0, none⟩) vn vn)).run Tryz.prog w' = .ok (.string (rowS vn 0)) w') := fun W w' h => text_at ((HZ.out W).turn h (by simp)) vn vn (by simp)
  have HRow : Hid (∀ W : World, Calls Tryz.prog 32 #[.int .i64 (kn : Nat), .int .u8 (f : Nat)] W fun e w' => e = .returned (.string (rowS kn f)) ∧ Turn [] W w') := fun W => row_any kn f (by omega) W
  have hk1 := rowS_size kn f
  have hv1 := rowS_size vn 0
  have HK1 := hide hk1
  have HV1 := hide hv1
  clear hk1 hv1
  generalize hZ : ((List.replicate vn 0).map byteCell).toArray = Z at *
  generalize hks : rowS kn f = ks at *
  generalize hvs : rowS vn 0 = vs at *
  clear hks hvs
  have hcv5 := HCv2.out w3 (w3.alloc (.cells Z 5)).drew ((Turn.refl [] _).drew)
  have HSz := hide HTr1.out.lt
  have HPr := hide (show (noPages r).left (St.new 512).n = 512 - 4 from noPages_left r 512 (by omega))
  by_cases hok : kn ≠ 0 ∧ kn ≤ 48 ∧ vn ≤ 120
  · have HPut : Hid (∀ W : World, Turn [] w3 W → Calls Tryz.prog 12 #[.pointer (some ⟨t, 0, none⟩), .string ks, .string vs] W fun e w' => e = .returned (.int .i64 0) ∧ ∃ a g cap, w3.heap.size ≤ a ∧ w3.heap.size ≤ g ∧ g < a ∧ LeafAt w' a 0 0 g 0 cap [(ks, vs)] ∧ TreeAt w' t p ⟨none, 0, false, 0, .slice none 0 0⟩ ⟨some a, 1, true, 1, .slice none 0 0⟩ ∧ Turn [t, p] w3 w') := fun W hW => by
      refine (put_nil t p b m sm rb (St.new 512) (noPages r) _ ⟨none, 0, false, 0, .slice none 0 0⟩ rfl rfl HO.out rfl (by simp) (by simp) (by simp) ks vs (by rw [HK1.out]; omega) (by rw [HK1.out]; omega) (by rw [HV1.out]; omega) W (HA1.out.turn0 hW) (HTr1.out.turn hW (by simp))).mono ?_
      rintro e w' ⟨rfl, a, g, cap, ha, hg, hga, hL, hTr, _, hT⟩
      have := hW.size
      exact ⟨rfl, a, g, cap, by omega, by omega, hga, hL, hTr, (show Turn [t, p] w3 W from ⟨hW.os, hW.tape, hW.output, hW.size, fun i hi _ => hW.block i hi (by simp)⟩).trans hT⟩
    have HMay : Hid (mayE ks vs = 0) := by
      show _ = _
      unfold mayE
      rw [HK1.out, HV1.out, if_neg (by omega), if_neg (by omega)]
    go_wp2_with fail
    go_region_with (first
      | (go_at_call 32; refine (HRow.out _).mono ?_; rintro e w4 ⟨rfl, hT4⟩; have HT4 : Hid (Turn [] w3 w4) := (by first | exact (Turn.refl [] w3).drew.then hT4 (by simp) | exact ((Turn.refl [] w3).drew.alloc _).then hT4 (by simp)); (try have hcv4 : (convert 52 9 (.slice (some ⟨w3.heap.size, 0, none⟩) vn vn)).run Tryz.prog w4 = .ok (.string vs) w4 := HCv2.out w3 w4 (Turn.undrew hT4)); clear hT4)
      | (go_at_call 12; refine (HPut.out _ ?_).mono ?_; (first | exact HT4.out.alloc _ | exact HT4.out); rintro e w5 ⟨rfl, a, g, cap, ha, hg, hga, hL5, hTr5, hT5⟩; have HL5 := hide hL5; have HTr5 := hide hTr5; have HT5 := hide hT5; clear hL5 hTr5 hT5))
    all_goals
      have hcv7 := HCv2.out w5 (w5.alloc (.cells Z 5)).drew ((Turn.refl [] _).drew)
      clear hcv5 HPut
      go_wp2_with fail
      go_region_with (first
        | (go_at_call 32; refine (HRow.out _).mono ?_; rintro e w6 ⟨rfl, hT6⟩; have HT6 : Hid (Turn [] w5 w6) := (by first | exact (Turn.refl [] w5).drew.then hT6 (by simp) | exact ((Turn.refl [] w5).drew.alloc _).then hT6 (by simp)); (try have hcv6 : (convert 52 9 (.slice (some ⟨w5.heap.size, 0, none⟩) vn vn)).run Tryz.prog w6 = .ok (.string vs) w6 := HCv2.out w5 w6 (Turn.undrew hT6)); clear hT6)
        | (go_at_call 13; refine (may_any ks vs (by rw [HK1.out]; omega) (by rw [HV1.out]; omega) _).mono ?_; rintro e w7 ⟨rfl, hw7⟩; have HT7 : Hid (Turn [] w5 w7) := (by subst hw7; first | exact HT6.out.alloc _ | exact HT6.out); clear hw7))
      all_goals
        clear hcv7 hcv
        rw [HMay.out]
        go_wp2_with fail
        refine (HRow.out _).mono ?_
        rintro e w8 ⟨rfl, hT8⟩
        have HT8 := hide (HT7.out.then hT8 (by simp))
        clear hT8
        go_wp2_with fail
        refine (get_leaf t p a 0 0 g 0 cap [(ks, vs)] _ ⟨some a, 1, true, 1, .slice none 0 0⟩ rfl (fun _ => by omega) (by simp [Rises, keysOf]) (by simp) ks w8 (HTr5.out.turn HT8.out (by simp)) ⟨HL5.out.place.turn HT8.out (by simp), .inl rfl, HL5.out.kv.turn0 HT8.out, HL5.out.cap⟩).mono ?_
        rintro e w9 ⟨val, fl, rfl, hG, _, hT9⟩
        obtain ⟨rfl, rfl⟩ : fl = true ∧ vs = val := by
          rcases hG with ⟨rfl, i, hi, _, e⟩ | ⟨_, _, h⟩
          · have : i = 0 := by simpa using hi
            subst this
            exact ⟨rfl, e⟩
          · exact absurd rfl (h (ks, vs) (by simp))
        have HTr9 := hide ((HTr5.out.turn HT8.out (by simp)).turn hT9 (by simp; have := HSz.out; omega))
        have HT9 := hide (HT8.out)
        have HT9' := hide hT9
        have hvs := HV1.out
        clear hG hT9
        go_wp2_with fail
        refine (length_any true vn w9).mono ?_
        rintro e w10 ⟨rfl, rfl⟩
        go_wp2_with fail
        refine (len_any t p _ ⟨some a, 1, true, 1, .slice none 0 0⟩ w10 HTr9.out).mono ?_
        rintro e w11 ⟨rfl, rfl⟩
        go_wp2_with fail
        refine (length_any true 1 w11).mono ?_
        rintro e w12 ⟨rfl, rfl⟩
        go_wp2_with fail
        go_ret
        refine ⟨rfl, ?_⟩
        have h5 : Turn [] w w5 := HT1.out.then HT5.out (by simp; omega)
        have h8 : Turn [] w w8 := h5.then HT9.out (by simp)
        exact h8.then HT9'.out (by simp; omega)
  · obtain ⟨E, hE, hE0⟩ : ∃ E : Int, mayE ks vs = E ∧ (E = 1 ∨ E = 5) := by
      refine ⟨_, rfl, ?_⟩
      unfold mayE
      rw [HK1.out, HV1.out]
      by_cases h1 : kn = 0 ∨ 48 < kn
      · rw [if_pos h1]
        exact .inl rfl
      · rw [if_neg h1, if_pos (by omega)]
        exact .inr rfl
    have HMay := hide hE
    have HBad : Hid ((E == 0) = false) := by
      show _ = _
      rw [beq_eq_false_iff_ne]
      omega
    have HPut : Hid (∀ W : World, Turn [] w3 W → Calls Tryz.prog 12 #[.pointer (some ⟨t, 0, none⟩), .string ks, .string vs] W fun e w' => e = .returned (.int .i64 E) ∧ TreeAt w' t p ⟨none, 0, false, 0, .slice none 0 0⟩ ⟨none, 0, false, 0, .slice none 0 0⟩ ∧ Turn [p] w3 w') := fun W hW => by
      refine (put_bad t p b m sm rb (St.new 512) (noPages r) _ ⟨none, 0, false, 0, .slice none 0 0⟩ rfl rfl ks vs (by rw [HK1.out, HV1.out]; omega) (by rw [HK1.out]; omega) (by rw [HV1.out]; omega) W (HA1.out.turn0 hW) (HTr1.out.turn hW (by simp))).mono ?_
      rintro e w' ⟨rfl, _, hT⟩
      refine ⟨?_, (HTr1.out.turn hW (by simp)).turn hT (by simp; exact HO.out.p), (show Turn [p] w3 W from ⟨hW.os, hW.tape, hW.output, hW.size, fun i hi _ => hW.block i hi (by simp)⟩).trans hT⟩
      have h := HMay.out
      unfold mayE at h
      rw [← h]
      by_cases h1 : ks.size = 0 ∨ 48 < ks.size
      · rw [if_pos h1, if_pos h1]
      · rw [if_neg h1, if_neg h1, if_pos (by rw [HK1.out] at h1; rw [HV1.out]; omega)]
    clear hE hok
    go_wp2_with fail
    go_region_with (first
      | (go_at_call 32; refine (HRow.out _).mono ?_; rintro e w4 ⟨rfl, hT4⟩; have HT4 : Hid (Turn [] w3 w4) := (by first | exact (Turn.refl [] w3).drew.then hT4 (by simp) | exact ((Turn.refl [] w3).drew.alloc _).then hT4 (by simp)); (try have hcv4 : (convert 52 9 (.slice (some ⟨w3.heap.size, 0, none⟩) vn vn)).run Tryz.prog w4 = .ok (.string vs) w4 := HCv2.out w3 w4 (Turn.undrew hT4)); clear hT4)
      | (go_at_call 12; refine (HPut.out _ ?_).mono ?_; (first | exact HT4.out.alloc _ | exact HT4.out); rintro e w5 ⟨rfl, hTr5, hT5⟩; have HTr5 := hide hTr5; have HT5 := hide hT5; clear hTr5 hT5))
    all_goals
      have hcv7 := HCv2.out w5 (w5.alloc (.cells Z 5)).drew ((Turn.refl [] _).drew)
      clear hcv5 HPut
      go_wp2_with fail
      go_region_with (first
        | (go_at_call 32; refine (HRow.out _).mono ?_; rintro e w6 ⟨rfl, hT6⟩; have HT6 : Hid (Turn [] w5 w6) := (by first | exact (Turn.refl [] w5).drew.then hT6 (by simp) | exact ((Turn.refl [] w5).drew.alloc _).then hT6 (by simp)); (try have hcv6 : (convert 52 9 (.slice (some ⟨w5.heap.size, 0, none⟩) vn vn)).run Tryz.prog w6 = .ok (.string vs) w6 := HCv2.out w5 w6 (Turn.undrew hT6)); clear hT6)
        | (go_at_call 13; refine (may_any ks vs (by rw [HK1.out]; omega) (by rw [HV1.out]; omega) _).mono ?_; rintro e w7 ⟨rfl, hw7⟩; have HT7 : Hid (Turn [] w5 w7) := (by subst hw7; first | exact HT6.out.alloc _ | exact HT6.out); clear hw7))
      all_goals
        clear hcv7 hcv
        rw [HMay.out]
        go_wp2_with fail
        refine (HRow.out _).mono ?_
        rintro e w8 ⟨rfl, hT8⟩
        have HT8 := hide (HT7.out.then hT8 (by simp))
        clear hT8
        go_wp2_with fail
        refine (get_nil t p _ ⟨none, 0, false, 0, .slice none 0 0⟩ rfl ks w8 (HTr5.out.turn HT8.out (by simp))).mono ?_
        rintro e w9 ⟨rfl, hT9⟩
        have HTr9 := hide ((HTr5.out.turn HT8.out (by simp)).turn hT9 (by simp))
        have HT9 := hide (HT8.out.then hT9 (by simp))
        have hb := HBad.out
        clear hT9
        go_wp2_with fail
        refine (length_any false vn w9).mono ?_
        rintro e w10 ⟨rfl, rfl⟩
        go_wp2_with fail
        refine (len_any t p _ ⟨none, 0, false, 0, .slice none 0 0⟩ w10 HTr9.out).mono ?_
        rintro e w11 ⟨rfl, rfl⟩
        go_wp2_with fail
        refine (length_any false 1 w11).mono ?_
        rintro e w12 ⟨rfl, rfl⟩
        go_wp2_with fail
        go_ret
        refine ⟨rfl, ?_⟩
        have h5 : Turn [] w w5 := HT1.out.then HT5.out (by simp; omega)
        exact h5.then HT9.out (by simp)
end Go.Proofs.YthehkckdecckhaaGreatDoor
