/-
  EncodeRequest of the reference, walked.
-/
import Derived.Test.YtkbboingeacgjaaFRe
namespace Go.Proofs.Ytkbboingeacgjaa
open Go.RowKit

set_option maxRecDepth 100000 in
set_option maxHeartbeats 6400000 in
theorem renc1 (w : World) (key : ByteArray) (id n ttl o : Int) (nm sec pn : ByteArray) (p1 p2 p3 p4 p5 p6 p7 p8 p9 : Int) (hz : key.size ≤ 9223372036854775807 ∧ nm.size ≤ 9223372036854775807 ∧ sec.size ≤ 9223372036854775807 ∧ pn.size ≤ 9223372036854775807) :
    Calls Try.prog 12 #[.agg #[.int .i64 1, .string key, .int .i64 id, .int .i64 n, .int .i64 ttl, .int .i64 o, .string nm, .string sec, .string pn, .int .i64 p1, .int .i64 p2, .int .i64 p3, .int .i64 p4, .int .i64 p5, .int .i64 p6, .int .i64 p7, .int .i64 p8, .int .i64 p9]] w fun e w' => ∃ v m, e = .returned (.tuple #[v, .int .i64 (m : Nat)]) ∧ RencP w w' [key] ([1] ++ txB key ++ be8 id ++ be8 n ++ be8 ttl) v m := by
  obtain ⟨F, hF⟩ : ∃ F, [1] ++ txB key ++ be8 id ++ be8 n ++ be8 ttl = F := ⟨_, rfl⟩
  rw [hF]
  have HF := hide hF
  clear hF
  have HZ := hide hz
  clear hz
  have hT0 : Turn [] w (w.alloc (.cells #[.int .i64 1, .string key, .int .i64 id, .int .i64 n, .int .i64 ttl, .int .i64 o, .string nm, .string sec, .string pn, .int .i64 p1, .int .i64 p2, .int .i64 p3, .int .i64 p4, .int .i64 p5, .int .i64 p6, .int .i64 p7, .int .i64 p8, .int .i64 p9] 25)) := (Turn.refl [] w).alloc _
  have hc : ∀ (i : Nat) (u : Value), (#[.int .i64 1, .string key, .int .i64 id, .int .i64 n, .int .i64 ttl, .int .i64 o, .string nm, .string sec, .string pn, .int .i64 p1, .int .i64 p2, .int .i64 p3, .int .i64 p4, .int .i64 p5, .int .i64 p6, .int .i64 p7, .int .i64 p8, .int .i64 p9] : Array Value)[i]? = some u → (w.alloc (.cells #[.int .i64 1, .string key, .int .i64 id, .int .i64 n, .int .i64 ttl, .int .i64 o, .string nm, .string sec, .string pn, .int .i64 p1, .int .i64 p2, .int .i64 p3, .int .i64 p4, .int .i64 p5, .int .i64 p6, .int .i64 p7, .int .i64 p8, .int .i64 p9] 25)).cell? ⟨w.heap.size, i, none⟩ = some u := fun i u hu => by
    rw [World.cell?_alloc_at _ _ _ _ rfl]
    exact hu
  have hs0 : (w.alloc (.cells #[.int .i64 1, .string key, .int .i64 id, .int .i64 n, .int .i64 ttl, .int .i64 o, .string nm, .string sec, .string pn, .int .i64 p1, .int .i64 p2, .int .i64 p3, .int .i64 p4, .int .i64 p5, .int .i64 p6, .int .i64 p7, .int .i64 p8, .int .i64 p9] 25)).heap.size = w.heap.size + 1 := by simp
  have c0 := hc 0 _ rfl
  have c1 := hc 1 _ rfl
  have HC := hide hc
  have HT0 := hide hT0
  clear hc hT0
  generalize hrk : w.heap.size = rk at *
  go_enter Try.func12, Try.ntmps12
  go_upto_region 1 with fail
  have HRk := hide hrk
  clear hrk
  generalize w.alloc (.cells #[.int .i64 1, .string key, .int .i64 id, .int .i64 n, .int .i64 ttl, .int .i64 o, .string nm, .string sec, .string pn, .int .i64 p1, .int .i64 p2, .int .i64 p3, .int .i64 p4, .int .i64 p5, .int .i64 p6, .int .i64 p7, .int .i64 p8, .int .i64 p9] 25) = w0 at *
  have HS0 := hide hs0
  clear hs0
  go_upto_region 4 with (first | (go_at_call 26; refine (rk1 _).mono ?_; rintro e w' ⟨rfl, hw'⟩; subst w') | fail)
  have hO1 := own_str1 w0 (rk + 1) key (by have := HS0.out; omega)
  have hT1 : Turn [] w0 (w0.alloc (.cells #[.string key] 9)) := (Turn.refl [] w0).alloc _
  have hz1 : (w0.alloc (.cells #[.string key] 9)).heap.size = rk + 2 := by have := HS0.out; simp; omega
  have hwe : w0.heap.size = rk + 1 := HS0.out
  rw [hwe] at hO1
  rw [hwe]
  clear hwe
  have HO1 := hide hO1
  have HT1 := hide hT1
  have HZ1 := hide hz1
  clear hO1 hT1 hz1 c0 c1
  generalize w0.alloc (.cells #[.string key] 9) = w1 at *
  have HC1 : Hid (∀ w' : World, Turn [] w0 w' → ∀ (i : Nat) (u : Value), (#[.int .i64 1, .string key, .int .i64 id, .int .i64 n, .int .i64 ttl, .int .i64 o, .string nm, .string sec, .string pn, .int .i64 p1, .int .i64 p2, .int .i64 p3, .int .i64 p4, .int .i64 p5, .int .i64 p6, .int .i64 p7, .int .i64 p8, .int .i64 p9] : Array Value)[i]? = some u → w'.cell? ⟨rk, i, none⟩ = some u) := fun w' h i u hu => (h.cell (p := ⟨rk, i, none⟩) (by have := HS0.out; show rk < _; omega) (by simp)).trans (HC.out i u hu)
  have d0 := HC1.out _ HT1.out 0 _ rfl
  go_upto_region 13 with fail
  obtain ⟨w2, hw2⟩ : ∃ w2, w1 = w2 := ⟨_, rfl⟩
  rw [hw2]
  obtain ⟨v2, hv2⟩ : ∃ v2, Value.slice (some ⟨rk + 1, 0, none⟩) 1 1 = v2 := ⟨_, rfl⟩
  have HO2 : Hid (OwnS w2 (rk + 1) v2 [key]) := by rw [← hw2, ← hv2]; exact HO1.out
  have HT2 : Hid (Turn [] w0 w2) := by rw [← hw2]; exact HT1.out
  try rw [hv2]
  clear hv2 hw2
  clear d0
  have hg := HO2.out.get (i := 0) (by show 0 < 1; omega)
  obtain ⟨g, cap, hv2, hcell⟩ := hg
  have hv2' : v2 = .slice (some ⟨g, 0, none⟩) 1 cap := hv2
  subst hv2'
  clear hv2
  have HCell : Hid (∀ j : Nat, j < 1 → w2.cell? ⟨g, j, none⟩ = some (.string ([key].getD j ByteArray.empty))) := hcell
  have HSz : Hid (∀ j : Nat, j < 1 → ([key].getD j ByteArray.empty).size ≤ 9223372036854775807) := fun j hj => by
    obtain ⟨z1, z2, z3, z4⟩ := HZ.out
    have hj2 : j = 0 := by omega
    subst hj2; assumption
  clear hcell
  have HFit : Hid ((∀ j : Nat, j < 1 → ([key].getD j ByteArray.empty).size ≤ 255) → key.size ≤ 255 ∧ True) := fun h => ⟨h 0 (by omega), trivial⟩
  have HNo : Hid (∀ (j : Nat), j < 1 → ¬ ([key].getD j ByteArray.empty).size ≤ 255 → RencP w w2 [key] F (.slice none 0 0) 5) := fun j hj h => by
    refine ⟨fun hf => absurd (hf ([key].getD j ByteArray.empty) ?_) h, fun _ => ⟨rfl, rfl⟩, HT0.out.trans HT2.out⟩
    rw [List.getD_eq_getElem?_getD, List.getElem?_eq_getElem (show j < [key].length from hj)]
    exact List.getElem_mem _
  go_wp2_with fail
  go_loopw [5] (fun i wr => ∃ j : Nat, j ≤ 1 ∧ i = .int .i64 j ∧ wr = w2 ∧ Hid (∀ q : Nat, q < j → ([key].getD q ByteArray.empty).size ≤ 255)) (fun i _ => 1 - (intOf i).toNat)
  case atStart => exact ⟨0, by omega, rfl, rfl, fun q hq => by omega⟩
  case round =>
    obtain ⟨j, hj, rfl, hwr, HJ⟩ := hrel
    subst wr
    by_cases hlt : j < 1
    · have hcj := HCell.out j hlt
      have hsj := HSz.out j hlt
      have HNj := hide (HNo.out j hlt)
      have HJ2 : Hid (([key].getD j ByteArray.empty).size ≤ 255 → ∀ q : Nat, q < j + 1 → ([key].getD q ByteArray.empty).size ≤ 255) := fun h q hq => by
        rcases Nat.lt_or_ge q j with h1 | h1
        · exact HJ.out q h1
        · obtain rfl : q = j := by omega
          exact h
      generalize [key].getD j ByteArray.empty = t at hcj hsj HNj HJ2
      by_cases ht : t.size ≤ 255
      · have HJ3 := hide (HJ2.out ht)
        go_wp2_with fail
        go_roundw
        case rel => exact ⟨j + 1, by omega, by go_num, by first | rfl | trivial, HJ3.out⟩
        case measure => simp [intOf]; omega
      · have HN := hide (HNj.out ht)
        go_wp2_with fail
        go_ret2
        exact ⟨_, 5, rfl, HN.out⟩
    · obtain rfl : j = 1 := by omega
      have hfit := HFit.out HJ.out
      obtain ⟨f_key, _⟩ := hfit
      clear HNo HSz HCell HJ HFit
      have e0 := HC1.out _ HT2.out 0 _ rfl
      have e1 := HC1.out _ HT2.out 1 _ rfl
      have hO3 : (w2.alloc (.cells #[.int .u8 1] 5)).ownsRow 0 5 1 (.slice (some ⟨w2.heap.size, 0, none⟩) 1 1) 1 ([1].map byteCell) := World.ownsRow_lit w2 #[.int .u8 1] 1 (Nat.zero_le _) (by unfold maxLen; omega) rfl
      have HX := hide (rtext (w := w2.alloc (.cells #[.int .u8 1] 5)) (.slice (some ⟨w2.heap.size, 0, none⟩) 1 1) [1] key f_key (by simp) hO3)
      clear hO3
      obtain ⟨L, hL⟩ : ∃ L, [1] ++ txB key = L := ⟨_, rfl⟩
      have hLl : L.length ≤ 300 := by rw [← hL, List.length_append, txB_len]; simp; omega
      have HL := hide hL
      have HL2 : Hid ([1] ++ [key.size] ++ natBytes key = L) := by
        show _ = _
        rw [← hL]
        unfold txB
        rw [List.append_assoc]
      clear hL
      have hrk2 : rk < w2.heap.size := by have := HT2.out.size; have := HS0.out; omega
      have HRkA : Hid (rk < (w2.alloc (.cells #[.int .u8 1] 5)).heap.size) := by show _ < _; simp; omega
      have HRkB : Hid ((w2.alloc (.cells #[.int .u8 1] 5)).heap[rk]? = w2.heap[rk]?) := Below.heap_alloc w2 _ rk hrk2
      have HRkN : Hid ((Value.slice (some ⟨w2.heap.size, 0, none⟩) 1 1).ownBlock ≠ some rk) := fun e => by
        have e2 : some w2.heap.size = some rk := e
        injection e2 with e2
        omega
      have HFin : Hid (∀ w' v', Gr (w2.alloc (.cells #[.int .u8 1] 5)) w' (.slice (some ⟨w2.heap.size, 0, none⟩) 1 1) v' F → RencP w w' [key] F v' 0) := fun w' v' h => by
        have hw02 := HT0.out.trans HT2.out
        have hT : Turn [] w w' := (hw02.alloc _).grown h.grown (fun k e => .inr (by
          have e2 : some w2.heap.size = some k := e
          injection e2 with e2
          have := hw02.size
          omega))
        refine ⟨fun _ => ⟨rfl, own_from h.own (fun q e hq => ?_)⟩, fun hf => absurd ?_ hf, hT⟩
        · rcases h.loc q e with e2 | e2
          · have e3 : some w2.heap.size = some q := e2
            injection e3 with e3
            have := hw02.size
            omega
          · have := hw02.size
            simp at e2
            omega
        · intro t ht
          simp only [List.mem_cons, List.not_mem_nil, or_false] at ht
          subst ht; assumption
      obtain ⟨L1, hL1⟩ : ∃ M, L ++ be8 id = M := ⟨_, rfl⟩
      have hl1 : L1.length ≤ 800 := by rw [← hL1, List.length_append, be8_length]; omega
      have HL3 := hide hL1
      obtain ⟨L2, hL2⟩ : ∃ M, L1 ++ be8 n = M := ⟨_, rfl⟩
      have hl2 : L2.length ≤ 1200 := by rw [← hL2, List.length_append, be8_length]; omega
      have HL4 := hide hL2
      obtain ⟨L3, hL3⟩ : ∃ M, L2 ++ be8 ttl = M := ⟨_, rfl⟩
      have hl3 : L3.length ≤ 1600 := by rw [← hL3, List.length_append, be8_length]; omega
      have HL5 := hide hL3
      have HFF : Hid (L3 = F) := by
        have h := HF.out
        rw [HL.out, hL1, hL2, hL3] at h
        exact h
      clear hL1 hL2 hL3
      go_upto_region 22 with (first | (go_at_call 27; refine HX.out.mono ?_; rintro e w3 ⟨v3, rfl, hG⟩; rw [HL2.out] at hG; obtain ⟨va3, vc3, rfl⟩ := own_form hG.own; have HG3 := hide hG; clear hG; have e30 := (World.cell?_of_block (a := ⟨rk, 0, none⟩) ((HG3.out.other (x := rk) (HRkA.out) (HRkN.out)).trans HRkB.out)).trans e0) | fail)
      clear HX e30 e0 e1
      have hb3 : w3.drew.heap[rk]? = w2.heap[rk]? := (HG3.out.other (x := rk) HRkA.out HRkN.out).trans HRkB.out
      have hov3 := HG3.out.apart (x := rk) HRkA.out HRkN.out
      have hz3 : rk < w3.drew.heap.size := Nat.lt_of_lt_of_le HRkA.out HG3.out.grown.size
      have HGd : Hid (Gr (w2.alloc (.cells #[.int .u8 1] 5)) w3.drew (.slice (some ⟨w2.heap.size, 0, none⟩) 1 1) (.slice va3 L.length vc3) L) := ⟨HG3.out.own, ⟨HG3.out.grown.os, HG3.out.grown.tape, HG3.out.grown.output, HG3.out.grown.size, HG3.out.grown.block⟩, HG3.out.loc⟩
      clear HG3
      have HG3 := hide HGd.out
      clear HGd
      have HAll : Hid (∀ w' : World, w'.heap[rk]? = w2.heap[rk]? → w'.cell? ⟨rk, 2, none⟩ = some (.int .i64 id) ∧ w'.cell? ⟨rk, 3, none⟩ = some (.int .i64 n) ∧ w'.cell? ⟨rk, 4, none⟩ = some (.int .i64 ttl)) := fun w' e => ⟨(World.cell?_of_block (a := ⟨rk, 2, none⟩) e).trans (HC1.out _ HT2.out 2 _ rfl), (World.cell?_of_block (a := ⟨rk, 3, none⟩) e).trans (HC1.out _ HT2.out 3 _ rfl), (World.cell?_of_block (a := ⟨rk, 4, none⟩) e).trans (HC1.out _ HT2.out 4 _ rfl)⟩
      go_region_held_law (fun w' => w'.cell? ⟨rk, 2, none⟩ = some (.int .i64 id) ∧ w'.cell? ⟨rk, 3, none⟩ = some (.int .i64 n) ∧ w'.cell? ⟨rk, 4, none⟩ = some (.int .i64 ttl))
        (first | assumption | exact HAll.out _ hb6 | exact HAll.out _ hb5 | exact HAll.out _ hb4 | exact HAll.out _ hb3)
        (first
        | (go_at_call 28; refine (rint _ L2 ttl (by omega) HG5.out.own).mono ?_; rintro e w6 ⟨v6, rfl, hG⟩; rw [HL5.out] at hG; obtain ⟨va6, vc6, rfl⟩ := own_form hG.own; have hb6 := (hG.other (x := rk) (by omega) hov5).trans hb5; have hov6 := hG.apart (x := rk) (by omega) hov5; have hz6 := Nat.lt_of_lt_of_le hz5 hG.grown.size; have HG6 := hide hG; clear hG)
        | (go_at_call 28; refine (rint _ L1 n (by omega) HG4.out.own).mono ?_; rintro e w5 ⟨v5, rfl, hG⟩; rw [HL4.out] at hG; obtain ⟨va5, vc5, rfl⟩ := own_form hG.own; have hb5 := (hG.other (x := rk) (by omega) hov4).trans hb4; have hov5 := hG.apart (x := rk) (by omega) hov4; have hz5 := Nat.lt_of_lt_of_le hz4 hG.grown.size; have HG5 := hide hG; clear hG)
        | (go_at_call 28; refine (rint _ L id (by omega) HG3.out.own).mono ?_; rintro e w4 ⟨v4, rfl, hG⟩; rw [HL3.out] at hG; obtain ⟨va4, vc4, rfl⟩ := own_form hG.own; have hb4 := (hG.other (x := rk) (by omega) hov3).trans hb3; have hov4 := hG.apart (x := rk) (by omega) hov3; have hz4 := Nat.lt_of_lt_of_le hz3 hG.grown.size; have HG4 := hide hG; clear hG)
        | fail)
      all_goals
        go_wp2_with fail
        go_ret2
        exact ⟨_, 0, rfl, HFin.out _ _ (by rw [← HFF.out]; exact (((HG3.out).trans HG4.out).trans HG5.out).trans HG6.out)⟩

set_option maxRecDepth 100000 in
set_option maxHeartbeats 6400000 in
theorem renc4 (w : World) (key : ByteArray) (id n ttl o : Int) (nm sec pn : ByteArray) (p1 p2 p3 p4 p5 p6 p7 p8 p9 : Int) (hz : key.size ≤ 9223372036854775807 ∧ nm.size ≤ 9223372036854775807 ∧ sec.size ≤ 9223372036854775807 ∧ pn.size ≤ 9223372036854775807) :
    Calls Try.prog 12 #[.agg #[.int .i64 4, .string key, .int .i64 id, .int .i64 n, .int .i64 ttl, .int .i64 o, .string nm, .string sec, .string pn, .int .i64 p1, .int .i64 p2, .int .i64 p3, .int .i64 p4, .int .i64 p5, .int .i64 p6, .int .i64 p7, .int .i64 p8, .int .i64 p9]] w fun e w' => ∃ v m, e = .returned (.tuple #[v, .int .i64 (m : Nat)]) ∧ RencP w w' [key] ([4] ++ txB key ++ be8 id ++ be8 n ++ be8 ttl) v m := by
  obtain ⟨F, hF⟩ : ∃ F, [4] ++ txB key ++ be8 id ++ be8 n ++ be8 ttl = F := ⟨_, rfl⟩
  rw [hF]
  have HF := hide hF
  clear hF
  have HZ := hide hz
  clear hz
  have hT0 : Turn [] w (w.alloc (.cells #[.int .i64 4, .string key, .int .i64 id, .int .i64 n, .int .i64 ttl, .int .i64 o, .string nm, .string sec, .string pn, .int .i64 p1, .int .i64 p2, .int .i64 p3, .int .i64 p4, .int .i64 p5, .int .i64 p6, .int .i64 p7, .int .i64 p8, .int .i64 p9] 25)) := (Turn.refl [] w).alloc _
  have hc : ∀ (i : Nat) (u : Value), (#[.int .i64 4, .string key, .int .i64 id, .int .i64 n, .int .i64 ttl, .int .i64 o, .string nm, .string sec, .string pn, .int .i64 p1, .int .i64 p2, .int .i64 p3, .int .i64 p4, .int .i64 p5, .int .i64 p6, .int .i64 p7, .int .i64 p8, .int .i64 p9] : Array Value)[i]? = some u → (w.alloc (.cells #[.int .i64 4, .string key, .int .i64 id, .int .i64 n, .int .i64 ttl, .int .i64 o, .string nm, .string sec, .string pn, .int .i64 p1, .int .i64 p2, .int .i64 p3, .int .i64 p4, .int .i64 p5, .int .i64 p6, .int .i64 p7, .int .i64 p8, .int .i64 p9] 25)).cell? ⟨w.heap.size, i, none⟩ = some u := fun i u hu => by
    rw [World.cell?_alloc_at _ _ _ _ rfl]
    exact hu
  have hs0 : (w.alloc (.cells #[.int .i64 4, .string key, .int .i64 id, .int .i64 n, .int .i64 ttl, .int .i64 o, .string nm, .string sec, .string pn, .int .i64 p1, .int .i64 p2, .int .i64 p3, .int .i64 p4, .int .i64 p5, .int .i64 p6, .int .i64 p7, .int .i64 p8, .int .i64 p9] 25)).heap.size = w.heap.size + 1 := by simp
  have c0 := hc 0 _ rfl
  have c1 := hc 1 _ rfl
  have HC := hide hc
  have HT0 := hide hT0
  clear hc hT0
  generalize hrk : w.heap.size = rk at *
  go_enter Try.func12, Try.ntmps12
  go_upto_region 1 with fail
  have HRk := hide hrk
  clear hrk
  generalize w.alloc (.cells #[.int .i64 4, .string key, .int .i64 id, .int .i64 n, .int .i64 ttl, .int .i64 o, .string nm, .string sec, .string pn, .int .i64 p1, .int .i64 p2, .int .i64 p3, .int .i64 p4, .int .i64 p5, .int .i64 p6, .int .i64 p7, .int .i64 p8, .int .i64 p9] 25) = w0 at *
  have HS0 := hide hs0
  clear hs0
  go_upto_region 4 with (first | (go_at_call 26; refine (rk4 _).mono ?_; rintro e w' ⟨rfl, hw'⟩; subst w') | fail)
  have hO1 := own_str1 w0 (rk + 1) key (by have := HS0.out; omega)
  have hT1 : Turn [] w0 (w0.alloc (.cells #[.string key] 9)) := (Turn.refl [] w0).alloc _
  have hz1 : (w0.alloc (.cells #[.string key] 9)).heap.size = rk + 2 := by have := HS0.out; simp; omega
  have hwe : w0.heap.size = rk + 1 := HS0.out
  rw [hwe] at hO1
  rw [hwe]
  clear hwe
  have HO1 := hide hO1
  have HT1 := hide hT1
  have HZ1 := hide hz1
  clear hO1 hT1 hz1 c0 c1
  generalize w0.alloc (.cells #[.string key] 9) = w1 at *
  have HC1 : Hid (∀ w' : World, Turn [] w0 w' → ∀ (i : Nat) (u : Value), (#[.int .i64 4, .string key, .int .i64 id, .int .i64 n, .int .i64 ttl, .int .i64 o, .string nm, .string sec, .string pn, .int .i64 p1, .int .i64 p2, .int .i64 p3, .int .i64 p4, .int .i64 p5, .int .i64 p6, .int .i64 p7, .int .i64 p8, .int .i64 p9] : Array Value)[i]? = some u → w'.cell? ⟨rk, i, none⟩ = some u) := fun w' h i u hu => (h.cell (p := ⟨rk, i, none⟩) (by have := HS0.out; show rk < _; omega) (by simp)).trans (HC.out i u hu)
  have d0 := HC1.out _ HT1.out 0 _ rfl
  go_upto_region 13 with fail
  obtain ⟨w2, hw2⟩ : ∃ w2, w1 = w2 := ⟨_, rfl⟩
  rw [hw2]
  obtain ⟨v2, hv2⟩ : ∃ v2, Value.slice (some ⟨rk + 1, 0, none⟩) 1 1 = v2 := ⟨_, rfl⟩
  have HO2 : Hid (OwnS w2 (rk + 1) v2 [key]) := by rw [← hw2, ← hv2]; exact HO1.out
  have HT2 : Hid (Turn [] w0 w2) := by rw [← hw2]; exact HT1.out
  try rw [hv2]
  clear hv2 hw2
  clear d0
  have hg := HO2.out.get (i := 0) (by show 0 < 1; omega)
  obtain ⟨g, cap, hv2, hcell⟩ := hg
  have hv2' : v2 = .slice (some ⟨g, 0, none⟩) 1 cap := hv2
  subst hv2'
  clear hv2
  have HCell : Hid (∀ j : Nat, j < 1 → w2.cell? ⟨g, j, none⟩ = some (.string ([key].getD j ByteArray.empty))) := hcell
  have HSz : Hid (∀ j : Nat, j < 1 → ([key].getD j ByteArray.empty).size ≤ 9223372036854775807) := fun j hj => by
    obtain ⟨z1, z2, z3, z4⟩ := HZ.out
    have hj2 : j = 0 := by omega
    subst hj2; assumption
  clear hcell
  have HFit : Hid ((∀ j : Nat, j < 1 → ([key].getD j ByteArray.empty).size ≤ 255) → key.size ≤ 255 ∧ True) := fun h => ⟨h 0 (by omega), trivial⟩
  have HNo : Hid (∀ (j : Nat), j < 1 → ¬ ([key].getD j ByteArray.empty).size ≤ 255 → RencP w w2 [key] F (.slice none 0 0) 5) := fun j hj h => by
    refine ⟨fun hf => absurd (hf ([key].getD j ByteArray.empty) ?_) h, fun _ => ⟨rfl, rfl⟩, HT0.out.trans HT2.out⟩
    rw [List.getD_eq_getElem?_getD, List.getElem?_eq_getElem (show j < [key].length from hj)]
    exact List.getElem_mem _
  go_wp2_with fail
  go_loopw [5] (fun i wr => ∃ j : Nat, j ≤ 1 ∧ i = .int .i64 j ∧ wr = w2 ∧ Hid (∀ q : Nat, q < j → ([key].getD q ByteArray.empty).size ≤ 255)) (fun i _ => 1 - (intOf i).toNat)
  case atStart => exact ⟨0, by omega, rfl, rfl, fun q hq => by omega⟩
  case round =>
    obtain ⟨j, hj, rfl, hwr, HJ⟩ := hrel
    subst wr
    by_cases hlt : j < 1
    · have hcj := HCell.out j hlt
      have hsj := HSz.out j hlt
      have HNj := hide (HNo.out j hlt)
      have HJ2 : Hid (([key].getD j ByteArray.empty).size ≤ 255 → ∀ q : Nat, q < j + 1 → ([key].getD q ByteArray.empty).size ≤ 255) := fun h q hq => by
        rcases Nat.lt_or_ge q j with h1 | h1
        · exact HJ.out q h1
        · obtain rfl : q = j := by omega
          exact h
      generalize [key].getD j ByteArray.empty = t at hcj hsj HNj HJ2
      by_cases ht : t.size ≤ 255
      · have HJ3 := hide (HJ2.out ht)
        go_wp2_with fail
        go_roundw
        case rel => exact ⟨j + 1, by omega, by go_num, by first | rfl | trivial, HJ3.out⟩
        case measure => simp [intOf]; omega
      · have HN := hide (HNj.out ht)
        go_wp2_with fail
        go_ret2
        exact ⟨_, 5, rfl, HN.out⟩
    · obtain rfl : j = 1 := by omega
      have hfit := HFit.out HJ.out
      obtain ⟨f_key, _⟩ := hfit
      clear HNo HSz HCell HJ HFit
      have e0 := HC1.out _ HT2.out 0 _ rfl
      have e1 := HC1.out _ HT2.out 1 _ rfl
      have hO3 : (w2.alloc (.cells #[.int .u8 4] 5)).ownsRow 0 5 1 (.slice (some ⟨w2.heap.size, 0, none⟩) 1 1) 1 ([4].map byteCell) := World.ownsRow_lit w2 #[.int .u8 4] 1 (Nat.zero_le _) (by unfold maxLen; omega) rfl
      have HX := hide (rtext (w := w2.alloc (.cells #[.int .u8 4] 5)) (.slice (some ⟨w2.heap.size, 0, none⟩) 1 1) [4] key f_key (by simp) hO3)
      clear hO3
      obtain ⟨L, hL⟩ : ∃ L, [4] ++ txB key = L := ⟨_, rfl⟩
      have hLl : L.length ≤ 300 := by rw [← hL, List.length_append, txB_len]; simp; omega
      have HL := hide hL
      have HL2 : Hid ([4] ++ [key.size] ++ natBytes key = L) := by
        show _ = _
        rw [← hL]
        unfold txB
        rw [List.append_assoc]
      clear hL
      have hrk2 : rk < w2.heap.size := by have := HT2.out.size; have := HS0.out; omega
      have HRkA : Hid (rk < (w2.alloc (.cells #[.int .u8 4] 5)).heap.size) := by show _ < _; simp; omega
      have HRkB : Hid ((w2.alloc (.cells #[.int .u8 4] 5)).heap[rk]? = w2.heap[rk]?) := Below.heap_alloc w2 _ rk hrk2
      have HRkN : Hid ((Value.slice (some ⟨w2.heap.size, 0, none⟩) 1 1).ownBlock ≠ some rk) := fun e => by
        have e2 : some w2.heap.size = some rk := e
        injection e2 with e2
        omega
      have HFin : Hid (∀ w' v', Gr (w2.alloc (.cells #[.int .u8 4] 5)) w' (.slice (some ⟨w2.heap.size, 0, none⟩) 1 1) v' F → RencP w w' [key] F v' 0) := fun w' v' h => by
        have hw02 := HT0.out.trans HT2.out
        have hT : Turn [] w w' := (hw02.alloc _).grown h.grown (fun k e => .inr (by
          have e2 : some w2.heap.size = some k := e
          injection e2 with e2
          have := hw02.size
          omega))
        refine ⟨fun _ => ⟨rfl, own_from h.own (fun q e hq => ?_)⟩, fun hf => absurd ?_ hf, hT⟩
        · rcases h.loc q e with e2 | e2
          · have e3 : some w2.heap.size = some q := e2
            injection e3 with e3
            have := hw02.size
            omega
          · have := hw02.size
            simp at e2
            omega
        · intro t ht
          simp only [List.mem_cons, List.not_mem_nil, or_false] at ht
          subst ht; assumption
      obtain ⟨L1, hL1⟩ : ∃ M, L ++ be8 id = M := ⟨_, rfl⟩
      have hl1 : L1.length ≤ 800 := by rw [← hL1, List.length_append, be8_length]; omega
      have HL3 := hide hL1
      obtain ⟨L2, hL2⟩ : ∃ M, L1 ++ be8 n = M := ⟨_, rfl⟩
      have hl2 : L2.length ≤ 1200 := by rw [← hL2, List.length_append, be8_length]; omega
      have HL4 := hide hL2
      obtain ⟨L3, hL3⟩ : ∃ M, L2 ++ be8 ttl = M := ⟨_, rfl⟩
      have hl3 : L3.length ≤ 1600 := by rw [← hL3, List.length_append, be8_length]; omega
      have HL5 := hide hL3
      have HFF : Hid (L3 = F) := by
        have h := HF.out
        rw [HL.out, hL1, hL2, hL3] at h
        exact h
      clear hL1 hL2 hL3
      go_upto_region 22 with (first | (go_at_call 27; refine HX.out.mono ?_; rintro e w3 ⟨v3, rfl, hG⟩; rw [HL2.out] at hG; obtain ⟨va3, vc3, rfl⟩ := own_form hG.own; have HG3 := hide hG; clear hG; have e30 := (World.cell?_of_block (a := ⟨rk, 0, none⟩) ((HG3.out.other (x := rk) (HRkA.out) (HRkN.out)).trans HRkB.out)).trans e0) | fail)
      clear HX e30 e0 e1
      have hb3 : w3.drew.heap[rk]? = w2.heap[rk]? := (HG3.out.other (x := rk) HRkA.out HRkN.out).trans HRkB.out
      have hov3 := HG3.out.apart (x := rk) HRkA.out HRkN.out
      have hz3 : rk < w3.drew.heap.size := Nat.lt_of_lt_of_le HRkA.out HG3.out.grown.size
      have HGd : Hid (Gr (w2.alloc (.cells #[.int .u8 4] 5)) w3.drew (.slice (some ⟨w2.heap.size, 0, none⟩) 1 1) (.slice va3 L.length vc3) L) := ⟨HG3.out.own, ⟨HG3.out.grown.os, HG3.out.grown.tape, HG3.out.grown.output, HG3.out.grown.size, HG3.out.grown.block⟩, HG3.out.loc⟩
      clear HG3
      have HG3 := hide HGd.out
      clear HGd
      have HAll : Hid (∀ w' : World, w'.heap[rk]? = w2.heap[rk]? → w'.cell? ⟨rk, 2, none⟩ = some (.int .i64 id) ∧ w'.cell? ⟨rk, 3, none⟩ = some (.int .i64 n) ∧ w'.cell? ⟨rk, 4, none⟩ = some (.int .i64 ttl)) := fun w' e => ⟨(World.cell?_of_block (a := ⟨rk, 2, none⟩) e).trans (HC1.out _ HT2.out 2 _ rfl), (World.cell?_of_block (a := ⟨rk, 3, none⟩) e).trans (HC1.out _ HT2.out 3 _ rfl), (World.cell?_of_block (a := ⟨rk, 4, none⟩) e).trans (HC1.out _ HT2.out 4 _ rfl)⟩
      go_region_held_law (fun w' => w'.cell? ⟨rk, 2, none⟩ = some (.int .i64 id) ∧ w'.cell? ⟨rk, 3, none⟩ = some (.int .i64 n) ∧ w'.cell? ⟨rk, 4, none⟩ = some (.int .i64 ttl))
        (first | assumption | exact HAll.out _ hb6 | exact HAll.out _ hb5 | exact HAll.out _ hb4 | exact HAll.out _ hb3)
        (first
        | (go_at_call 28; refine (rint _ L2 ttl (by omega) HG5.out.own).mono ?_; rintro e w6 ⟨v6, rfl, hG⟩; rw [HL5.out] at hG; obtain ⟨va6, vc6, rfl⟩ := own_form hG.own; have hb6 := (hG.other (x := rk) (by omega) hov5).trans hb5; have hov6 := hG.apart (x := rk) (by omega) hov5; have hz6 := Nat.lt_of_lt_of_le hz5 hG.grown.size; have HG6 := hide hG; clear hG)
        | (go_at_call 28; refine (rint _ L1 n (by omega) HG4.out.own).mono ?_; rintro e w5 ⟨v5, rfl, hG⟩; rw [HL4.out] at hG; obtain ⟨va5, vc5, rfl⟩ := own_form hG.own; have hb5 := (hG.other (x := rk) (by omega) hov4).trans hb4; have hov5 := hG.apart (x := rk) (by omega) hov4; have hz5 := Nat.lt_of_lt_of_le hz4 hG.grown.size; have HG5 := hide hG; clear hG)
        | (go_at_call 28; refine (rint _ L id (by omega) HG3.out.own).mono ?_; rintro e w4 ⟨v4, rfl, hG⟩; rw [HL3.out] at hG; obtain ⟨va4, vc4, rfl⟩ := own_form hG.own; have hb4 := (hG.other (x := rk) (by omega) hov3).trans hb3; have hov4 := hG.apart (x := rk) (by omega) hov3; have hz4 := Nat.lt_of_lt_of_le hz3 hG.grown.size; have HG4 := hide hG; clear hG)
        | fail)
      all_goals
        go_wp2_with fail
        go_ret2
        exact ⟨_, 0, rfl, HFin.out _ _ (by rw [← HFF.out]; exact (((HG3.out).trans HG4.out).trans HG5.out).trans HG6.out)⟩

set_option maxRecDepth 100000 in
set_option maxHeartbeats 6400000 in
theorem renc2 (w : World) (key : ByteArray) (id n ttl o : Int) (nm sec pn : ByteArray) (p1 p2 p3 p4 p5 p6 p7 p8 p9 : Int) (hz : key.size ≤ 9223372036854775807 ∧ nm.size ≤ 9223372036854775807 ∧ sec.size ≤ 9223372036854775807 ∧ pn.size ≤ 9223372036854775807) :
    Calls Try.prog 12 #[.agg #[.int .i64 2, .string key, .int .i64 id, .int .i64 n, .int .i64 ttl, .int .i64 o, .string nm, .string sec, .string pn, .int .i64 p1, .int .i64 p2, .int .i64 p3, .int .i64 p4, .int .i64 p5, .int .i64 p6, .int .i64 p7, .int .i64 p8, .int .i64 p9]] w fun e w' => ∃ v m, e = .returned (.tuple #[v, .int .i64 (m : Nat)]) ∧ RencP w w' [key] ([2] ++ txB key ++ be8 id ++ be8 o ++ be8 n) v m := by
  obtain ⟨F, hF⟩ : ∃ F, [2] ++ txB key ++ be8 id ++ be8 o ++ be8 n = F := ⟨_, rfl⟩
  rw [hF]
  have HF := hide hF
  clear hF
  have HZ := hide hz
  clear hz
  have hT0 : Turn [] w (w.alloc (.cells #[.int .i64 2, .string key, .int .i64 id, .int .i64 n, .int .i64 ttl, .int .i64 o, .string nm, .string sec, .string pn, .int .i64 p1, .int .i64 p2, .int .i64 p3, .int .i64 p4, .int .i64 p5, .int .i64 p6, .int .i64 p7, .int .i64 p8, .int .i64 p9] 25)) := (Turn.refl [] w).alloc _
  have hc : ∀ (i : Nat) (u : Value), (#[.int .i64 2, .string key, .int .i64 id, .int .i64 n, .int .i64 ttl, .int .i64 o, .string nm, .string sec, .string pn, .int .i64 p1, .int .i64 p2, .int .i64 p3, .int .i64 p4, .int .i64 p5, .int .i64 p6, .int .i64 p7, .int .i64 p8, .int .i64 p9] : Array Value)[i]? = some u → (w.alloc (.cells #[.int .i64 2, .string key, .int .i64 id, .int .i64 n, .int .i64 ttl, .int .i64 o, .string nm, .string sec, .string pn, .int .i64 p1, .int .i64 p2, .int .i64 p3, .int .i64 p4, .int .i64 p5, .int .i64 p6, .int .i64 p7, .int .i64 p8, .int .i64 p9] 25)).cell? ⟨w.heap.size, i, none⟩ = some u := fun i u hu => by
    rw [World.cell?_alloc_at _ _ _ _ rfl]
    exact hu
  have hs0 : (w.alloc (.cells #[.int .i64 2, .string key, .int .i64 id, .int .i64 n, .int .i64 ttl, .int .i64 o, .string nm, .string sec, .string pn, .int .i64 p1, .int .i64 p2, .int .i64 p3, .int .i64 p4, .int .i64 p5, .int .i64 p6, .int .i64 p7, .int .i64 p8, .int .i64 p9] 25)).heap.size = w.heap.size + 1 := by simp
  have c0 := hc 0 _ rfl
  have c1 := hc 1 _ rfl
  have HC := hide hc
  have HT0 := hide hT0
  clear hc hT0
  generalize hrk : w.heap.size = rk at *
  go_enter Try.func12, Try.ntmps12
  go_upto_region 1 with fail
  have HRk := hide hrk
  clear hrk
  generalize w.alloc (.cells #[.int .i64 2, .string key, .int .i64 id, .int .i64 n, .int .i64 ttl, .int .i64 o, .string nm, .string sec, .string pn, .int .i64 p1, .int .i64 p2, .int .i64 p3, .int .i64 p4, .int .i64 p5, .int .i64 p6, .int .i64 p7, .int .i64 p8, .int .i64 p9] 25) = w0 at *
  have HS0 := hide hs0
  clear hs0
  go_upto_region 4 with (first | (go_at_call 26; refine (rk2 _).mono ?_; rintro e w' ⟨rfl, hw'⟩; subst w') | fail)
  have hO1 := own_str1 w0 (rk + 1) key (by have := HS0.out; omega)
  have hT1 : Turn [] w0 (w0.alloc (.cells #[.string key] 9)) := (Turn.refl [] w0).alloc _
  have hz1 : (w0.alloc (.cells #[.string key] 9)).heap.size = rk + 2 := by have := HS0.out; simp; omega
  have hwe : w0.heap.size = rk + 1 := HS0.out
  rw [hwe] at hO1
  rw [hwe]
  clear hwe
  have HO1 := hide hO1
  have HT1 := hide hT1
  have HZ1 := hide hz1
  clear hO1 hT1 hz1 c0 c1
  generalize w0.alloc (.cells #[.string key] 9) = w1 at *
  have HC1 : Hid (∀ w' : World, Turn [] w0 w' → ∀ (i : Nat) (u : Value), (#[.int .i64 2, .string key, .int .i64 id, .int .i64 n, .int .i64 ttl, .int .i64 o, .string nm, .string sec, .string pn, .int .i64 p1, .int .i64 p2, .int .i64 p3, .int .i64 p4, .int .i64 p5, .int .i64 p6, .int .i64 p7, .int .i64 p8, .int .i64 p9] : Array Value)[i]? = some u → w'.cell? ⟨rk, i, none⟩ = some u) := fun w' h i u hu => (h.cell (p := ⟨rk, i, none⟩) (by have := HS0.out; show rk < _; omega) (by simp)).trans (HC.out i u hu)
  have d0 := HC1.out _ HT1.out 0 _ rfl
  go_upto_region 13 with fail
  obtain ⟨w2, hw2⟩ : ∃ w2, w1 = w2 := ⟨_, rfl⟩
  rw [hw2]
  obtain ⟨v2, hv2⟩ : ∃ v2, Value.slice (some ⟨rk + 1, 0, none⟩) 1 1 = v2 := ⟨_, rfl⟩
  have HO2 : Hid (OwnS w2 (rk + 1) v2 [key]) := by rw [← hw2, ← hv2]; exact HO1.out
  have HT2 : Hid (Turn [] w0 w2) := by rw [← hw2]; exact HT1.out
  try rw [hv2]
  clear hv2 hw2
  clear d0
  have hg := HO2.out.get (i := 0) (by show 0 < 1; omega)
  obtain ⟨g, cap, hv2, hcell⟩ := hg
  have hv2' : v2 = .slice (some ⟨g, 0, none⟩) 1 cap := hv2
  subst hv2'
  clear hv2
  have HCell : Hid (∀ j : Nat, j < 1 → w2.cell? ⟨g, j, none⟩ = some (.string ([key].getD j ByteArray.empty))) := hcell
  have HSz : Hid (∀ j : Nat, j < 1 → ([key].getD j ByteArray.empty).size ≤ 9223372036854775807) := fun j hj => by
    obtain ⟨z1, z2, z3, z4⟩ := HZ.out
    have hj2 : j = 0 := by omega
    subst hj2; assumption
  clear hcell
  have HFit : Hid ((∀ j : Nat, j < 1 → ([key].getD j ByteArray.empty).size ≤ 255) → key.size ≤ 255 ∧ True) := fun h => ⟨h 0 (by omega), trivial⟩
  have HNo : Hid (∀ (j : Nat), j < 1 → ¬ ([key].getD j ByteArray.empty).size ≤ 255 → RencP w w2 [key] F (.slice none 0 0) 5) := fun j hj h => by
    refine ⟨fun hf => absurd (hf ([key].getD j ByteArray.empty) ?_) h, fun _ => ⟨rfl, rfl⟩, HT0.out.trans HT2.out⟩
    rw [List.getD_eq_getElem?_getD, List.getElem?_eq_getElem (show j < [key].length from hj)]
    exact List.getElem_mem _
  go_wp2_with fail
  go_loopw [5] (fun i wr => ∃ j : Nat, j ≤ 1 ∧ i = .int .i64 j ∧ wr = w2 ∧ Hid (∀ q : Nat, q < j → ([key].getD q ByteArray.empty).size ≤ 255)) (fun i _ => 1 - (intOf i).toNat)
  case atStart => exact ⟨0, by omega, rfl, rfl, fun q hq => by omega⟩
  case round =>
    obtain ⟨j, hj, rfl, hwr, HJ⟩ := hrel
    subst wr
    by_cases hlt : j < 1
    · have hcj := HCell.out j hlt
      have hsj := HSz.out j hlt
      have HNj := hide (HNo.out j hlt)
      have HJ2 : Hid (([key].getD j ByteArray.empty).size ≤ 255 → ∀ q : Nat, q < j + 1 → ([key].getD q ByteArray.empty).size ≤ 255) := fun h q hq => by
        rcases Nat.lt_or_ge q j with h1 | h1
        · exact HJ.out q h1
        · obtain rfl : q = j := by omega
          exact h
      generalize [key].getD j ByteArray.empty = t at hcj hsj HNj HJ2
      by_cases ht : t.size ≤ 255
      · have HJ3 := hide (HJ2.out ht)
        go_wp2_with fail
        go_roundw
        case rel => exact ⟨j + 1, by omega, by go_num, by first | rfl | trivial, HJ3.out⟩
        case measure => simp [intOf]; omega
      · have HN := hide (HNj.out ht)
        go_wp2_with fail
        go_ret2
        exact ⟨_, 5, rfl, HN.out⟩
    · obtain rfl : j = 1 := by omega
      have hfit := HFit.out HJ.out
      obtain ⟨f_key, _⟩ := hfit
      clear HNo HSz HCell HJ HFit
      have e0 := HC1.out _ HT2.out 0 _ rfl
      have e1 := HC1.out _ HT2.out 1 _ rfl
      have hO3 : (w2.alloc (.cells #[.int .u8 2] 5)).ownsRow 0 5 1 (.slice (some ⟨w2.heap.size, 0, none⟩) 1 1) 1 ([2].map byteCell) := World.ownsRow_lit w2 #[.int .u8 2] 1 (Nat.zero_le _) (by unfold maxLen; omega) rfl
      have HX := hide (rtext (w := w2.alloc (.cells #[.int .u8 2] 5)) (.slice (some ⟨w2.heap.size, 0, none⟩) 1 1) [2] key f_key (by simp) hO3)
      clear hO3
      obtain ⟨L, hL⟩ : ∃ L, [2] ++ txB key = L := ⟨_, rfl⟩
      have hLl : L.length ≤ 300 := by rw [← hL, List.length_append, txB_len]; simp; omega
      have HL := hide hL
      have HL2 : Hid ([2] ++ [key.size] ++ natBytes key = L) := by
        show _ = _
        rw [← hL]
        unfold txB
        rw [List.append_assoc]
      clear hL
      have hrk2 : rk < w2.heap.size := by have := HT2.out.size; have := HS0.out; omega
      have HRkA : Hid (rk < (w2.alloc (.cells #[.int .u8 2] 5)).heap.size) := by show _ < _; simp; omega
      have HRkB : Hid ((w2.alloc (.cells #[.int .u8 2] 5)).heap[rk]? = w2.heap[rk]?) := Below.heap_alloc w2 _ rk hrk2
      have HRkN : Hid ((Value.slice (some ⟨w2.heap.size, 0, none⟩) 1 1).ownBlock ≠ some rk) := fun e => by
        have e2 : some w2.heap.size = some rk := e
        injection e2 with e2
        omega
      have HFin : Hid (∀ w' v', Gr (w2.alloc (.cells #[.int .u8 2] 5)) w' (.slice (some ⟨w2.heap.size, 0, none⟩) 1 1) v' F → RencP w w' [key] F v' 0) := fun w' v' h => by
        have hw02 := HT0.out.trans HT2.out
        have hT : Turn [] w w' := (hw02.alloc _).grown h.grown (fun k e => .inr (by
          have e2 : some w2.heap.size = some k := e
          injection e2 with e2
          have := hw02.size
          omega))
        refine ⟨fun _ => ⟨rfl, own_from h.own (fun q e hq => ?_)⟩, fun hf => absurd ?_ hf, hT⟩
        · rcases h.loc q e with e2 | e2
          · have e3 : some w2.heap.size = some q := e2
            injection e3 with e3
            have := hw02.size
            omega
          · have := hw02.size
            simp at e2
            omega
        · intro t ht
          simp only [List.mem_cons, List.not_mem_nil, or_false] at ht
          subst ht; assumption
      obtain ⟨L1, hL1⟩ : ∃ M, L ++ be8 id = M := ⟨_, rfl⟩
      have hl1 : L1.length ≤ 800 := by rw [← hL1, List.length_append, be8_length]; omega
      have HL3 := hide hL1
      obtain ⟨L2, hL2⟩ : ∃ M, L1 ++ be8 o = M := ⟨_, rfl⟩
      have hl2 : L2.length ≤ 1200 := by rw [← hL2, List.length_append, be8_length]; omega
      have HL4 := hide hL2
      obtain ⟨L3, hL3⟩ : ∃ M, L2 ++ be8 n = M := ⟨_, rfl⟩
      have hl3 : L3.length ≤ 1600 := by rw [← hL3, List.length_append, be8_length]; omega
      have HL5 := hide hL3
      have HFF : Hid (L3 = F) := by
        have h := HF.out
        rw [HL.out, hL1, hL2, hL3] at h
        exact h
      clear hL1 hL2 hL3
      go_upto_region 24 with (first | (go_at_call 27; refine HX.out.mono ?_; rintro e w3 ⟨v3, rfl, hG⟩; rw [HL2.out] at hG; obtain ⟨va3, vc3, rfl⟩ := own_form hG.own; have HG3 := hide hG; clear hG; have e30 := (World.cell?_of_block (a := ⟨rk, 0, none⟩) ((HG3.out.other (x := rk) (HRkA.out) (HRkN.out)).trans HRkB.out)).trans e0) | fail)
      clear HX e30 e0 e1
      have hb3 : w3.drew.heap[rk]? = w2.heap[rk]? := (HG3.out.other (x := rk) HRkA.out HRkN.out).trans HRkB.out
      have hov3 := HG3.out.apart (x := rk) HRkA.out HRkN.out
      have hz3 : rk < w3.drew.heap.size := Nat.lt_of_lt_of_le HRkA.out HG3.out.grown.size
      have HGd : Hid (Gr (w2.alloc (.cells #[.int .u8 2] 5)) w3.drew (.slice (some ⟨w2.heap.size, 0, none⟩) 1 1) (.slice va3 L.length vc3) L) := ⟨HG3.out.own, ⟨HG3.out.grown.os, HG3.out.grown.tape, HG3.out.grown.output, HG3.out.grown.size, HG3.out.grown.block⟩, HG3.out.loc⟩
      clear HG3
      have HG3 := hide HGd.out
      clear HGd
      have HAll : Hid (∀ w' : World, w'.heap[rk]? = w2.heap[rk]? → w'.cell? ⟨rk, 2, none⟩ = some (.int .i64 id) ∧ w'.cell? ⟨rk, 5, none⟩ = some (.int .i64 o) ∧ w'.cell? ⟨rk, 3, none⟩ = some (.int .i64 n)) := fun w' e => ⟨(World.cell?_of_block (a := ⟨rk, 2, none⟩) e).trans (HC1.out _ HT2.out 2 _ rfl), (World.cell?_of_block (a := ⟨rk, 5, none⟩) e).trans (HC1.out _ HT2.out 5 _ rfl), (World.cell?_of_block (a := ⟨rk, 3, none⟩) e).trans (HC1.out _ HT2.out 3 _ rfl)⟩
      go_region_held_law (fun w' => w'.cell? ⟨rk, 2, none⟩ = some (.int .i64 id) ∧ w'.cell? ⟨rk, 5, none⟩ = some (.int .i64 o) ∧ w'.cell? ⟨rk, 3, none⟩ = some (.int .i64 n))
        (first | assumption | exact HAll.out _ hb6 | exact HAll.out _ hb5 | exact HAll.out _ hb4 | exact HAll.out _ hb3)
        (first
        | (go_at_call 28; refine (rint _ L2 n (by omega) HG5.out.own).mono ?_; rintro e w6 ⟨v6, rfl, hG⟩; rw [HL5.out] at hG; obtain ⟨va6, vc6, rfl⟩ := own_form hG.own; have hb6 := (hG.other (x := rk) (by omega) hov5).trans hb5; have hov6 := hG.apart (x := rk) (by omega) hov5; have hz6 := Nat.lt_of_lt_of_le hz5 hG.grown.size; have HG6 := hide hG; clear hG)
        | (go_at_call 28; refine (rint _ L1 o (by omega) HG4.out.own).mono ?_; rintro e w5 ⟨v5, rfl, hG⟩; rw [HL4.out] at hG; obtain ⟨va5, vc5, rfl⟩ := own_form hG.own; have hb5 := (hG.other (x := rk) (by omega) hov4).trans hb4; have hov5 := hG.apart (x := rk) (by omega) hov4; have hz5 := Nat.lt_of_lt_of_le hz4 hG.grown.size; have HG5 := hide hG; clear hG)
        | (go_at_call 28; refine (rint _ L id (by omega) HG3.out.own).mono ?_; rintro e w4 ⟨v4, rfl, hG⟩; rw [HL3.out] at hG; obtain ⟨va4, vc4, rfl⟩ := own_form hG.own; have hb4 := (hG.other (x := rk) (by omega) hov3).trans hb3; have hov4 := hG.apart (x := rk) (by omega) hov3; have hz4 := Nat.lt_of_lt_of_le hz3 hG.grown.size; have HG4 := hide hG; clear hG)
        | fail)
      all_goals
        go_wp2_with fail
        go_ret2
        exact ⟨_, 0, rfl, HFin.out _ _ (by rw [← HFF.out]; exact (((HG3.out).trans HG4.out).trans HG5.out).trans HG6.out)⟩

set_option maxRecDepth 100000 in
set_option maxHeartbeats 6400000 in
theorem renc18 (w : World) (key : ByteArray) (id n ttl o : Int) (nm sec pn : ByteArray) (p1 p2 p3 p4 p5 p6 p7 p8 p9 : Int) (hz : key.size ≤ 9223372036854775807 ∧ nm.size ≤ 9223372036854775807 ∧ sec.size ≤ 9223372036854775807 ∧ pn.size ≤ 9223372036854775807) :
    Calls Try.prog 12 #[.agg #[.int .i64 18, .string key, .int .i64 id, .int .i64 n, .int .i64 ttl, .int .i64 o, .string nm, .string sec, .string pn, .int .i64 p1, .int .i64 p2, .int .i64 p3, .int .i64 p4, .int .i64 p5, .int .i64 p6, .int .i64 p7, .int .i64 p8, .int .i64 p9]] w fun e w' => ∃ v m, e = .returned (.tuple #[v, .int .i64 (m : Nat)]) ∧ RencP w w' [key, nm, pn] ([18] ++ txB key ++ txB nm ++ txB pn ++ be8 p1) v m := by
  obtain ⟨F, hF⟩ : ∃ F, [18] ++ txB key ++ txB nm ++ txB pn ++ be8 p1 = F := ⟨_, rfl⟩
  rw [hF]
  have HF := hide hF
  clear hF
  have HZ := hide hz
  clear hz
  have hT0 : Turn [] w (w.alloc (.cells #[.int .i64 18, .string key, .int .i64 id, .int .i64 n, .int .i64 ttl, .int .i64 o, .string nm, .string sec, .string pn, .int .i64 p1, .int .i64 p2, .int .i64 p3, .int .i64 p4, .int .i64 p5, .int .i64 p6, .int .i64 p7, .int .i64 p8, .int .i64 p9] 25)) := (Turn.refl [] w).alloc _
  have hc : ∀ (i : Nat) (u : Value), (#[.int .i64 18, .string key, .int .i64 id, .int .i64 n, .int .i64 ttl, .int .i64 o, .string nm, .string sec, .string pn, .int .i64 p1, .int .i64 p2, .int .i64 p3, .int .i64 p4, .int .i64 p5, .int .i64 p6, .int .i64 p7, .int .i64 p8, .int .i64 p9] : Array Value)[i]? = some u → (w.alloc (.cells #[.int .i64 18, .string key, .int .i64 id, .int .i64 n, .int .i64 ttl, .int .i64 o, .string nm, .string sec, .string pn, .int .i64 p1, .int .i64 p2, .int .i64 p3, .int .i64 p4, .int .i64 p5, .int .i64 p6, .int .i64 p7, .int .i64 p8, .int .i64 p9] 25)).cell? ⟨w.heap.size, i, none⟩ = some u := fun i u hu => by
    rw [World.cell?_alloc_at _ _ _ _ rfl]
    exact hu
  have hs0 : (w.alloc (.cells #[.int .i64 18, .string key, .int .i64 id, .int .i64 n, .int .i64 ttl, .int .i64 o, .string nm, .string sec, .string pn, .int .i64 p1, .int .i64 p2, .int .i64 p3, .int .i64 p4, .int .i64 p5, .int .i64 p6, .int .i64 p7, .int .i64 p8, .int .i64 p9] 25)).heap.size = w.heap.size + 1 := by simp
  have c0 := hc 0 _ rfl
  have c1 := hc 1 _ rfl
  have HC := hide hc
  have HT0 := hide hT0
  clear hc hT0
  generalize hrk : w.heap.size = rk at *
  go_enter Try.func12, Try.ntmps12
  go_upto_region 1 with fail
  have HRk := hide hrk
  clear hrk
  generalize w.alloc (.cells #[.int .i64 18, .string key, .int .i64 id, .int .i64 n, .int .i64 ttl, .int .i64 o, .string nm, .string sec, .string pn, .int .i64 p1, .int .i64 p2, .int .i64 p3, .int .i64 p4, .int .i64 p5, .int .i64 p6, .int .i64 p7, .int .i64 p8, .int .i64 p9] 25) = w0 at *
  have HS0 := hide hs0
  clear hs0
  go_upto_region 4 with (first | (go_at_call 26; refine (rk18 _).mono ?_; rintro e w' ⟨rfl, hw'⟩; subst w') | fail)
  have hO1 := own_str1 w0 (rk + 1) key (by have := HS0.out; omega)
  have hT1 : Turn [] w0 (w0.alloc (.cells #[.string key] 9)) := (Turn.refl [] w0).alloc _
  have hz1 : (w0.alloc (.cells #[.string key] 9)).heap.size = rk + 2 := by have := HS0.out; simp; omega
  have hwe : w0.heap.size = rk + 1 := HS0.out
  rw [hwe] at hO1
  rw [hwe]
  clear hwe
  have HO1 := hide hO1
  have HT1 := hide hT1
  have HZ1 := hide hz1
  clear hO1 hT1 hz1 c0 c1
  generalize w0.alloc (.cells #[.string key] 9) = w1 at *
  have HC1 : Hid (∀ w' : World, Turn [] w0 w' → ∀ (i : Nat) (u : Value), (#[.int .i64 18, .string key, .int .i64 id, .int .i64 n, .int .i64 ttl, .int .i64 o, .string nm, .string sec, .string pn, .int .i64 p1, .int .i64 p2, .int .i64 p3, .int .i64 p4, .int .i64 p5, .int .i64 p6, .int .i64 p7, .int .i64 p8, .int .i64 p9] : Array Value)[i]? = some u → w'.cell? ⟨rk, i, none⟩ = some u) := fun w' h i u hu => (h.cell (p := ⟨rk, i, none⟩) (by have := HS0.out; show rk < _; omega) (by simp)).trans (HC.out i u hu)
  have d0 := HC1.out _ HT1.out 0 _ rfl
  have d6 := HC1.out _ HT1.out 6 _ rfl
  have d8 := HC1.out _ HT1.out 8 _ rfl
  have HOA : Hid (OwnS (w1.alloc (.cells #[.string nm, .string pn] 9)) (rk + 1) (.slice (some ⟨rk + 1, 0, none⟩) 1 1) [key]) := HO1.out.alloc _
  have HTA : Hid (Turn [] w0 (w1.alloc (.cells #[.string nm, .string pn] 9))) := HT1.out.alloc _
  have HCA : Hid (∀ (j : Nat) (u : Value), ([nm, pn].map sc)[j]? = some u → (w1.alloc (.cells #[.string nm, .string pn] 9)).cell? ⟨w1.heap.size, j, none⟩ = some u) := fun j u hu => by
    rw [World.cell?_alloc_at _ _ _ _ rfl, ← Array.getElem?_toList]
    exact hu
  go_upto_region 13 with (first | (at_builtin; refine append_strs rfl _ _ rfl (rk + 1) (.slice (some ⟨rk + 1, 0, none⟩) 1 1) [key] [nm, pn] rfl HOA.out w1.heap.size 2 rfl rfl HCA.out (by show 1 + 2 < _; omega) (by have := HZ1.out; simp; omega) ?_; intro v2 w2 hO2 hg2) | fail)
  have HT2 : Hid (Turn [] w0 w2) := HTA.out.grown hg2 (fun k e => .inr (by have := HS0.out; have e2 : some (rk + 1) = some k := e; injection e2 with e2; omega))
  have HO2 : Hid (OwnS w2 (rk + 1) v2 [key, nm, pn]) := hO2
  clear HCA HOA HTA hO2 hg2 d6 d8
  clear d0
  have hg := HO2.out.get (i := 0) (by show 0 < 3; omega)
  obtain ⟨g, cap, hv2, hcell⟩ := hg
  have hv2' : v2 = .slice (some ⟨g, 0, none⟩) 3 cap := hv2
  subst hv2'
  clear hv2
  have HCell : Hid (∀ j : Nat, j < 3 → w2.cell? ⟨g, j, none⟩ = some (.string ([key, nm, pn].getD j ByteArray.empty))) := hcell
  have HSz : Hid (∀ j : Nat, j < 3 → ([key, nm, pn].getD j ByteArray.empty).size ≤ 9223372036854775807) := fun j hj => by
    obtain ⟨z1, z2, z3, z4⟩ := HZ.out
    have hj2 : j = 0 ∨ j = 1 ∨ j = 2 := by omega
    rcases hj2 with rfl | rfl | rfl <;> assumption
  clear hcell
  have HFit : Hid ((∀ j : Nat, j < 3 → ([key, nm, pn].getD j ByteArray.empty).size ≤ 255) → key.size ≤ 255 ∧ nm.size ≤ 255 ∧ pn.size ≤ 255) := fun h => ⟨h 0 (by omega), h 1 (by omega), h 2 (by omega)⟩
  have HNo : Hid (∀ (j : Nat), j < 3 → ¬ ([key, nm, pn].getD j ByteArray.empty).size ≤ 255 → RencP w w2 [key, nm, pn] F (.slice none 0 0) 5) := fun j hj h => by
    refine ⟨fun hf => absurd (hf ([key, nm, pn].getD j ByteArray.empty) ?_) h, fun _ => ⟨rfl, rfl⟩, HT0.out.trans HT2.out⟩
    rw [List.getD_eq_getElem?_getD, List.getElem?_eq_getElem (show j < [key, nm, pn].length from hj)]
    exact List.getElem_mem _
  go_wp2_with fail
  go_loopw [5] (fun i wr => ∃ j : Nat, j ≤ 3 ∧ i = .int .i64 j ∧ wr = w2 ∧ Hid (∀ q : Nat, q < j → ([key, nm, pn].getD q ByteArray.empty).size ≤ 255)) (fun i _ => 3 - (intOf i).toNat)
  case atStart => exact ⟨0, by omega, rfl, rfl, fun q hq => by omega⟩
  case round =>
    obtain ⟨j, hj, rfl, hwr, HJ⟩ := hrel
    subst wr
    by_cases hlt : j < 3
    · have hcj := HCell.out j hlt
      have hsj := HSz.out j hlt
      have HNj := hide (HNo.out j hlt)
      have HJ2 : Hid (([key, nm, pn].getD j ByteArray.empty).size ≤ 255 → ∀ q : Nat, q < j + 1 → ([key, nm, pn].getD q ByteArray.empty).size ≤ 255) := fun h q hq => by
        rcases Nat.lt_or_ge q j with h1 | h1
        · exact HJ.out q h1
        · obtain rfl : q = j := by omega
          exact h
      generalize [key, nm, pn].getD j ByteArray.empty = t at hcj hsj HNj HJ2
      by_cases ht : t.size ≤ 255
      · have HJ3 := hide (HJ2.out ht)
        go_wp2_with fail
        go_roundw
        case rel => exact ⟨j + 1, by omega, by go_num, by first | rfl | trivial, HJ3.out⟩
        case measure => simp [intOf]; omega
      · have HN := hide (HNj.out ht)
        go_wp2_with fail
        go_ret2
        exact ⟨_, 5, rfl, HN.out⟩
    · obtain rfl : j = 3 := by omega
      have hfit := HFit.out HJ.out
      obtain ⟨f_key, f_nm, f_pn⟩ := hfit
      clear HNo HSz HCell HJ HFit
      have e0 := HC1.out _ HT2.out 0 _ rfl
      have e1 := HC1.out _ HT2.out 1 _ rfl
      have hO3 : (w2.alloc (.cells #[.int .u8 18] 5)).ownsRow 0 5 1 (.slice (some ⟨w2.heap.size, 0, none⟩) 1 1) 1 ([18].map byteCell) := World.ownsRow_lit w2 #[.int .u8 18] 1 (Nat.zero_le _) (by unfold maxLen; omega) rfl
      have HX := hide (rtext (w := w2.alloc (.cells #[.int .u8 18] 5)) (.slice (some ⟨w2.heap.size, 0, none⟩) 1 1) [18] key f_key (by simp) hO3)
      clear hO3
      obtain ⟨L, hL⟩ : ∃ L, [18] ++ txB key = L := ⟨_, rfl⟩
      have hLl : L.length ≤ 300 := by rw [← hL, List.length_append, txB_len]; simp; omega
      have HL := hide hL
      have HL2 : Hid ([18] ++ [key.size] ++ natBytes key = L) := by
        show _ = _
        rw [← hL]
        unfold txB
        rw [List.append_assoc]
      clear hL
      have hrk2 : rk < w2.heap.size := by have := HT2.out.size; have := HS0.out; omega
      have HRkA : Hid (rk < (w2.alloc (.cells #[.int .u8 18] 5)).heap.size) := by show _ < _; simp; omega
      have HRkB : Hid ((w2.alloc (.cells #[.int .u8 18] 5)).heap[rk]? = w2.heap[rk]?) := Below.heap_alloc w2 _ rk hrk2
      have HRkN : Hid ((Value.slice (some ⟨w2.heap.size, 0, none⟩) 1 1).ownBlock ≠ some rk) := fun e => by
        have e2 : some w2.heap.size = some rk := e
        injection e2 with e2
        omega
      have HFin : Hid (∀ w' v', Gr (w2.alloc (.cells #[.int .u8 18] 5)) w' (.slice (some ⟨w2.heap.size, 0, none⟩) 1 1) v' F → RencP w w' [key, nm, pn] F v' 0) := fun w' v' h => by
        have hw02 := HT0.out.trans HT2.out
        have hT : Turn [] w w' := (hw02.alloc _).grown h.grown (fun k e => .inr (by
          have e2 : some w2.heap.size = some k := e
          injection e2 with e2
          have := hw02.size
          omega))
        refine ⟨fun _ => ⟨rfl, own_from h.own (fun q e hq => ?_)⟩, fun hf => absurd ?_ hf, hT⟩
        · rcases h.loc q e with e2 | e2
          · have e3 : some w2.heap.size = some q := e2
            injection e3 with e3
            have := hw02.size
            omega
          · have := hw02.size
            simp at e2
            omega
        · intro t ht
          simp only [List.mem_cons, List.not_mem_nil, or_false] at ht
          rcases ht with rfl | rfl | rfl <;> assumption
      obtain ⟨L1, hL1⟩ : ∃ M, L ++ txB nm = M := ⟨_, rfl⟩
      have hl1 : L1.length ≤ 800 := by rw [← hL1, List.length_append, txB_len]; omega
      have HL3 := hide hL1
      obtain ⟨L2, hL2⟩ : ∃ M, L1 ++ txB pn = M := ⟨_, rfl⟩
      have hl2 : L2.length ≤ 1200 := by rw [← hL2, List.length_append, txB_len]; omega
      have HL4 := hide hL2
      obtain ⟨L3, hL3⟩ : ∃ M, L2 ++ be8 p1 = M := ⟨_, rfl⟩
      have hl3 : L3.length ≤ 1600 := by rw [← hL3, List.length_append, be8_length]; omega
      have HL5 := hide hL3
      have HFF : Hid (L3 = F) := by
        have h := HF.out
        rw [HL.out, hL1, hL2, hL3] at h
        exact h
      clear hL1 hL2 hL3
      have HT5 : Hid (L ++ [nm.size] ++ natBytes nm = L1) := by
        show _ = _
        rw [← HL3.out]
        unfold txB
        rw [List.append_assoc]
      have HT6 : Hid (L1 ++ [pn.size] ++ natBytes pn = L2) := by
        show _ = _
        rw [← HL4.out]
        unfold txB
        rw [List.append_assoc]
      go_upto_region 32 with (first | (go_at_call 27; refine HX.out.mono ?_; rintro e w3 ⟨v3, rfl, hG⟩; rw [HL2.out] at hG; obtain ⟨va3, vc3, rfl⟩ := own_form hG.own; have HG3 := hide hG; clear hG; have e30 := (World.cell?_of_block (a := ⟨rk, 0, none⟩) ((HG3.out.other (x := rk) (HRkA.out) (HRkN.out)).trans HRkB.out)).trans e0) | fail)
      clear HX e30 e0 e1
      have hb3 : w3.drew.heap[rk]? = w2.heap[rk]? := (HG3.out.other (x := rk) HRkA.out HRkN.out).trans HRkB.out
      have hov3 := HG3.out.apart (x := rk) HRkA.out HRkN.out
      have hz3 : rk < w3.drew.heap.size := Nat.lt_of_lt_of_le HRkA.out HG3.out.grown.size
      have HGd : Hid (Gr (w2.alloc (.cells #[.int .u8 18] 5)) w3.drew (.slice (some ⟨w2.heap.size, 0, none⟩) 1 1) (.slice va3 L.length vc3) L) := ⟨HG3.out.own, ⟨HG3.out.grown.os, HG3.out.grown.tape, HG3.out.grown.output, HG3.out.grown.size, HG3.out.grown.block⟩, HG3.out.loc⟩
      clear HG3
      have HG3 := hide HGd.out
      clear HGd
      have HAll : Hid (∀ w' : World, w'.heap[rk]? = w2.heap[rk]? → w'.cell? ⟨rk, 6, none⟩ = some (.string nm) ∧ w'.cell? ⟨rk, 8, none⟩ = some (.string pn) ∧ w'.cell? ⟨rk, 9, none⟩ = some (.int .i64 p1)) := fun w' e => ⟨(World.cell?_of_block (a := ⟨rk, 6, none⟩) e).trans (HC1.out _ HT2.out 6 _ rfl), (World.cell?_of_block (a := ⟨rk, 8, none⟩) e).trans (HC1.out _ HT2.out 8 _ rfl), (World.cell?_of_block (a := ⟨rk, 9, none⟩) e).trans (HC1.out _ HT2.out 9 _ rfl)⟩
      go_region_held_law (fun w' => w'.cell? ⟨rk, 6, none⟩ = some (.string nm) ∧ w'.cell? ⟨rk, 8, none⟩ = some (.string pn) ∧ w'.cell? ⟨rk, 9, none⟩ = some (.int .i64 p1))
        (first | assumption | exact HAll.out _ hb6 | exact HAll.out _ hb5 | exact HAll.out _ hb4 | exact HAll.out _ hb3)
        (first
        | (go_at_call 28; refine (rint _ L2 p1 (by omega) HG5.out.own).mono ?_; rintro e w6 ⟨v6, rfl, hG⟩; rw [HL5.out] at hG; obtain ⟨va6, vc6, rfl⟩ := own_form hG.own; have hb6 := (hG.other (x := rk) (by omega) hov5).trans hb5; have hov6 := hG.apart (x := rk) (by omega) hov5; have hz6 := Nat.lt_of_lt_of_le hz5 hG.grown.size; have HG6 := hide hG; clear hG)
        | (go_at_call 27; refine (rtext _ L1 pn f_pn (by omega) HG4.out.own).mono ?_; rintro e w5 ⟨v5, rfl, hG⟩; rw [HT6.out] at hG; obtain ⟨va5, vc5, rfl⟩ := own_form hG.own; have hb5 := (hG.other (x := rk) (by omega) hov4).trans hb4; have hov5 := hG.apart (x := rk) (by omega) hov4; have hz5 := Nat.lt_of_lt_of_le hz4 hG.grown.size; have HG5 := hide hG; clear hG)
        | (go_at_call 27; refine (rtext _ L nm f_nm (by omega) HG3.out.own).mono ?_; rintro e w4 ⟨v4, rfl, hG⟩; rw [HT5.out] at hG; obtain ⟨va4, vc4, rfl⟩ := own_form hG.own; have hb4 := (hG.other (x := rk) (by omega) hov3).trans hb3; have hov4 := hG.apart (x := rk) (by omega) hov3; have hz4 := Nat.lt_of_lt_of_le hz3 hG.grown.size; have HG4 := hide hG; clear hG)
        | fail)
      all_goals
        go_wp2_with fail
        go_ret2
        exact ⟨_, 0, rfl, HFin.out _ _ (by rw [← HFF.out]; exact (((HG3.out).trans HG4.out).trans HG5.out).trans HG6.out)⟩

set_option maxRecDepth 100000 in
set_option maxHeartbeats 6400000 in
theorem renc19 (w : World) (key : ByteArray) (id n ttl o : Int) (nm sec pn : ByteArray) (p1 p2 p3 p4 p5 p6 p7 p8 p9 : Int) (hz : key.size ≤ 9223372036854775807 ∧ nm.size ≤ 9223372036854775807 ∧ sec.size ≤ 9223372036854775807 ∧ pn.size ≤ 9223372036854775807) :
    Calls Try.prog 12 #[.agg #[.int .i64 19, .string key, .int .i64 id, .int .i64 n, .int .i64 ttl, .int .i64 o, .string nm, .string sec, .string pn, .int .i64 p1, .int .i64 p2, .int .i64 p3, .int .i64 p4, .int .i64 p5, .int .i64 p6, .int .i64 p7, .int .i64 p8, .int .i64 p9]] w fun e w' => ∃ v m, e = .returned (.tuple #[v, .int .i64 (m : Nat)]) ∧ RencP w w' [key] ([19] ++ txB key ++ be8 n) v m := by
  obtain ⟨F, hF⟩ : ∃ F, [19] ++ txB key ++ be8 n = F := ⟨_, rfl⟩
  rw [hF]
  have HF := hide hF
  clear hF
  have HZ := hide hz
  clear hz
  have hT0 : Turn [] w (w.alloc (.cells #[.int .i64 19, .string key, .int .i64 id, .int .i64 n, .int .i64 ttl, .int .i64 o, .string nm, .string sec, .string pn, .int .i64 p1, .int .i64 p2, .int .i64 p3, .int .i64 p4, .int .i64 p5, .int .i64 p6, .int .i64 p7, .int .i64 p8, .int .i64 p9] 25)) := (Turn.refl [] w).alloc _
  have hc : ∀ (i : Nat) (u : Value), (#[.int .i64 19, .string key, .int .i64 id, .int .i64 n, .int .i64 ttl, .int .i64 o, .string nm, .string sec, .string pn, .int .i64 p1, .int .i64 p2, .int .i64 p3, .int .i64 p4, .int .i64 p5, .int .i64 p6, .int .i64 p7, .int .i64 p8, .int .i64 p9] : Array Value)[i]? = some u → (w.alloc (.cells #[.int .i64 19, .string key, .int .i64 id, .int .i64 n, .int .i64 ttl, .int .i64 o, .string nm, .string sec, .string pn, .int .i64 p1, .int .i64 p2, .int .i64 p3, .int .i64 p4, .int .i64 p5, .int .i64 p6, .int .i64 p7, .int .i64 p8, .int .i64 p9] 25)).cell? ⟨w.heap.size, i, none⟩ = some u := fun i u hu => by
    rw [World.cell?_alloc_at _ _ _ _ rfl]
    exact hu
  have hs0 : (w.alloc (.cells #[.int .i64 19, .string key, .int .i64 id, .int .i64 n, .int .i64 ttl, .int .i64 o, .string nm, .string sec, .string pn, .int .i64 p1, .int .i64 p2, .int .i64 p3, .int .i64 p4, .int .i64 p5, .int .i64 p6, .int .i64 p7, .int .i64 p8, .int .i64 p9] 25)).heap.size = w.heap.size + 1 := by simp
  have c0 := hc 0 _ rfl
  have c1 := hc 1 _ rfl
  have HC := hide hc
  have HT0 := hide hT0
  clear hc hT0
  generalize hrk : w.heap.size = rk at *
  go_enter Try.func12, Try.ntmps12
  go_upto_region 1 with fail
  have HRk := hide hrk
  clear hrk
  generalize w.alloc (.cells #[.int .i64 19, .string key, .int .i64 id, .int .i64 n, .int .i64 ttl, .int .i64 o, .string nm, .string sec, .string pn, .int .i64 p1, .int .i64 p2, .int .i64 p3, .int .i64 p4, .int .i64 p5, .int .i64 p6, .int .i64 p7, .int .i64 p8, .int .i64 p9] 25) = w0 at *
  have HS0 := hide hs0
  clear hs0
  go_upto_region 4 with (first | (go_at_call 26; refine (rk19 _).mono ?_; rintro e w' ⟨rfl, hw'⟩; subst w') | fail)
  have hO1 := own_str1 w0 (rk + 1) key (by have := HS0.out; omega)
  have hT1 : Turn [] w0 (w0.alloc (.cells #[.string key] 9)) := (Turn.refl [] w0).alloc _
  have hz1 : (w0.alloc (.cells #[.string key] 9)).heap.size = rk + 2 := by have := HS0.out; simp; omega
  have hwe : w0.heap.size = rk + 1 := HS0.out
  rw [hwe] at hO1
  rw [hwe]
  clear hwe
  have HO1 := hide hO1
  have HT1 := hide hT1
  have HZ1 := hide hz1
  clear hO1 hT1 hz1 c0 c1
  generalize w0.alloc (.cells #[.string key] 9) = w1 at *
  have HC1 : Hid (∀ w' : World, Turn [] w0 w' → ∀ (i : Nat) (u : Value), (#[.int .i64 19, .string key, .int .i64 id, .int .i64 n, .int .i64 ttl, .int .i64 o, .string nm, .string sec, .string pn, .int .i64 p1, .int .i64 p2, .int .i64 p3, .int .i64 p4, .int .i64 p5, .int .i64 p6, .int .i64 p7, .int .i64 p8, .int .i64 p9] : Array Value)[i]? = some u → w'.cell? ⟨rk, i, none⟩ = some u) := fun w' h i u hu => (h.cell (p := ⟨rk, i, none⟩) (by have := HS0.out; show rk < _; omega) (by simp)).trans (HC.out i u hu)
  have d0 := HC1.out _ HT1.out 0 _ rfl
  go_upto_region 13 with fail
  obtain ⟨w2, hw2⟩ : ∃ w2, w1 = w2 := ⟨_, rfl⟩
  rw [hw2]
  obtain ⟨v2, hv2⟩ : ∃ v2, Value.slice (some ⟨rk + 1, 0, none⟩) 1 1 = v2 := ⟨_, rfl⟩
  have HO2 : Hid (OwnS w2 (rk + 1) v2 [key]) := by rw [← hw2, ← hv2]; exact HO1.out
  have HT2 : Hid (Turn [] w0 w2) := by rw [← hw2]; exact HT1.out
  try rw [hv2]
  clear hv2 hw2
  clear d0
  have hg := HO2.out.get (i := 0) (by show 0 < 1; omega)
  obtain ⟨g, cap, hv2, hcell⟩ := hg
  have hv2' : v2 = .slice (some ⟨g, 0, none⟩) 1 cap := hv2
  subst hv2'
  clear hv2
  have HCell : Hid (∀ j : Nat, j < 1 → w2.cell? ⟨g, j, none⟩ = some (.string ([key].getD j ByteArray.empty))) := hcell
  have HSz : Hid (∀ j : Nat, j < 1 → ([key].getD j ByteArray.empty).size ≤ 9223372036854775807) := fun j hj => by
    obtain ⟨z1, z2, z3, z4⟩ := HZ.out
    have hj2 : j = 0 := by omega
    subst hj2; assumption
  clear hcell
  have HFit : Hid ((∀ j : Nat, j < 1 → ([key].getD j ByteArray.empty).size ≤ 255) → key.size ≤ 255 ∧ True) := fun h => ⟨h 0 (by omega), trivial⟩
  have HNo : Hid (∀ (j : Nat), j < 1 → ¬ ([key].getD j ByteArray.empty).size ≤ 255 → RencP w w2 [key] F (.slice none 0 0) 5) := fun j hj h => by
    refine ⟨fun hf => absurd (hf ([key].getD j ByteArray.empty) ?_) h, fun _ => ⟨rfl, rfl⟩, HT0.out.trans HT2.out⟩
    rw [List.getD_eq_getElem?_getD, List.getElem?_eq_getElem (show j < [key].length from hj)]
    exact List.getElem_mem _
  go_wp2_with fail
  go_loopw [5] (fun i wr => ∃ j : Nat, j ≤ 1 ∧ i = .int .i64 j ∧ wr = w2 ∧ Hid (∀ q : Nat, q < j → ([key].getD q ByteArray.empty).size ≤ 255)) (fun i _ => 1 - (intOf i).toNat)
  case atStart => exact ⟨0, by omega, rfl, rfl, fun q hq => by omega⟩
  case round =>
    obtain ⟨j, hj, rfl, hwr, HJ⟩ := hrel
    subst wr
    by_cases hlt : j < 1
    · have hcj := HCell.out j hlt
      have hsj := HSz.out j hlt
      have HNj := hide (HNo.out j hlt)
      have HJ2 : Hid (([key].getD j ByteArray.empty).size ≤ 255 → ∀ q : Nat, q < j + 1 → ([key].getD q ByteArray.empty).size ≤ 255) := fun h q hq => by
        rcases Nat.lt_or_ge q j with h1 | h1
        · exact HJ.out q h1
        · obtain rfl : q = j := by omega
          exact h
      generalize [key].getD j ByteArray.empty = t at hcj hsj HNj HJ2
      by_cases ht : t.size ≤ 255
      · have HJ3 := hide (HJ2.out ht)
        go_wp2_with fail
        go_roundw
        case rel => exact ⟨j + 1, by omega, by go_num, by first | rfl | trivial, HJ3.out⟩
        case measure => simp [intOf]; omega
      · have HN := hide (HNj.out ht)
        go_wp2_with fail
        go_ret2
        exact ⟨_, 5, rfl, HN.out⟩
    · obtain rfl : j = 1 := by omega
      have hfit := HFit.out HJ.out
      obtain ⟨f_key, _⟩ := hfit
      clear HNo HSz HCell HJ HFit
      have e0 := HC1.out _ HT2.out 0 _ rfl
      have e1 := HC1.out _ HT2.out 1 _ rfl
      have hO3 : (w2.alloc (.cells #[.int .u8 19] 5)).ownsRow 0 5 1 (.slice (some ⟨w2.heap.size, 0, none⟩) 1 1) 1 ([19].map byteCell) := World.ownsRow_lit w2 #[.int .u8 19] 1 (Nat.zero_le _) (by unfold maxLen; omega) rfl
      have HX := hide (rtext (w := w2.alloc (.cells #[.int .u8 19] 5)) (.slice (some ⟨w2.heap.size, 0, none⟩) 1 1) [19] key f_key (by simp) hO3)
      clear hO3
      obtain ⟨L, hL⟩ : ∃ L, [19] ++ txB key = L := ⟨_, rfl⟩
      have hLl : L.length ≤ 300 := by rw [← hL, List.length_append, txB_len]; simp; omega
      have HL := hide hL
      have HL2 : Hid ([19] ++ [key.size] ++ natBytes key = L) := by
        show _ = _
        rw [← hL]
        unfold txB
        rw [List.append_assoc]
      clear hL
      have hrk2 : rk < w2.heap.size := by have := HT2.out.size; have := HS0.out; omega
      have HRkA : Hid (rk < (w2.alloc (.cells #[.int .u8 19] 5)).heap.size) := by show _ < _; simp; omega
      have HRkB : Hid ((w2.alloc (.cells #[.int .u8 19] 5)).heap[rk]? = w2.heap[rk]?) := Below.heap_alloc w2 _ rk hrk2
      have HRkN : Hid ((Value.slice (some ⟨w2.heap.size, 0, none⟩) 1 1).ownBlock ≠ some rk) := fun e => by
        have e2 : some w2.heap.size = some rk := e
        injection e2 with e2
        omega
      have HFin : Hid (∀ w' v', Gr (w2.alloc (.cells #[.int .u8 19] 5)) w' (.slice (some ⟨w2.heap.size, 0, none⟩) 1 1) v' F → RencP w w' [key] F v' 0) := fun w' v' h => by
        have hw02 := HT0.out.trans HT2.out
        have hT : Turn [] w w' := (hw02.alloc _).grown h.grown (fun k e => .inr (by
          have e2 : some w2.heap.size = some k := e
          injection e2 with e2
          have := hw02.size
          omega))
        refine ⟨fun _ => ⟨rfl, own_from h.own (fun q e hq => ?_)⟩, fun hf => absurd ?_ hf, hT⟩
        · rcases h.loc q e with e2 | e2
          · have e3 : some w2.heap.size = some q := e2
            injection e3 with e3
            have := hw02.size
            omega
          · have := hw02.size
            simp at e2
            omega
        · intro t ht
          simp only [List.mem_cons, List.not_mem_nil, or_false] at ht
          subst ht; assumption
      obtain ⟨L1, hL1⟩ : ∃ M, L ++ be8 n = M := ⟨_, rfl⟩
      have hl1 : L1.length ≤ 800 := by rw [← hL1, List.length_append, be8_length]; omega
      have HL3 := hide hL1
      have HFF : Hid (L1 = F) := by
        have h := HF.out
        rw [HL.out, hL1] at h
        exact h
      clear hL1
      go_upto_region 34 with (first | (go_at_call 27; refine HX.out.mono ?_; rintro e w3 ⟨v3, rfl, hG⟩; rw [HL2.out] at hG; obtain ⟨va3, vc3, rfl⟩ := own_form hG.own; have HG3 := hide hG; clear hG; have e30 := (World.cell?_of_block (a := ⟨rk, 0, none⟩) ((HG3.out.other (x := rk) (HRkA.out) (HRkN.out)).trans HRkB.out)).trans e0) | fail)
      clear HX e30 e0 e1
      have e33 := (World.cell?_of_block (a := ⟨rk, 3, none⟩) ((HG3.out.other (x := rk) (HRkA.out) (HRkN.out)).trans HRkB.out)).trans (HC1.out _ HT2.out 3 _ rfl)
      go_wp2_with (first | (go_at_call 28; refine (rint _ L n (by omega) HG3.out.own).mono ?_; rintro e w4 ⟨v4, rfl, hG⟩; rw [HL3.out] at hG; obtain ⟨va4, vc4, rfl⟩ := own_form hG.own; have HG4 := hide hG; clear hG) | fail)
      go_ret2
      exact ⟨_, 0, rfl, HFin.out _ _ (by rw [← HFF.out]; exact HG3.out.trans HG4.out)⟩

set_option maxRecDepth 100000 in
set_option maxHeartbeats 6400000 in
theorem renc20 (w : World) (key : ByteArray) (id n ttl o : Int) (nm sec pn : ByteArray) (p1 p2 p3 p4 p5 p6 p7 p8 p9 : Int) (hz : key.size ≤ 9223372036854775807 ∧ nm.size ≤ 9223372036854775807 ∧ sec.size ≤ 9223372036854775807 ∧ pn.size ≤ 9223372036854775807) :
    Calls Try.prog 12 #[.agg #[.int .i64 20, .string key, .int .i64 id, .int .i64 n, .int .i64 ttl, .int .i64 o, .string nm, .string sec, .string pn, .int .i64 p1, .int .i64 p2, .int .i64 p3, .int .i64 p4, .int .i64 p5, .int .i64 p6, .int .i64 p7, .int .i64 p8, .int .i64 p9]] w fun e w' => ∃ v m, e = .returned (.tuple #[v, .int .i64 (m : Nat)]) ∧ RencP w w' [key, nm] ([20] ++ txB key ++ txB nm ++ be8 n) v m := by
  obtain ⟨F, hF⟩ : ∃ F, [20] ++ txB key ++ txB nm ++ be8 n = F := ⟨_, rfl⟩
  rw [hF]
  have HF := hide hF
  clear hF
  have HZ := hide hz
  clear hz
  have hT0 : Turn [] w (w.alloc (.cells #[.int .i64 20, .string key, .int .i64 id, .int .i64 n, .int .i64 ttl, .int .i64 o, .string nm, .string sec, .string pn, .int .i64 p1, .int .i64 p2, .int .i64 p3, .int .i64 p4, .int .i64 p5, .int .i64 p6, .int .i64 p7, .int .i64 p8, .int .i64 p9] 25)) := (Turn.refl [] w).alloc _
  have hc : ∀ (i : Nat) (u : Value), (#[.int .i64 20, .string key, .int .i64 id, .int .i64 n, .int .i64 ttl, .int .i64 o, .string nm, .string sec, .string pn, .int .i64 p1, .int .i64 p2, .int .i64 p3, .int .i64 p4, .int .i64 p5, .int .i64 p6, .int .i64 p7, .int .i64 p8, .int .i64 p9] : Array Value)[i]? = some u → (w.alloc (.cells #[.int .i64 20, .string key, .int .i64 id, .int .i64 n, .int .i64 ttl, .int .i64 o, .string nm, .string sec, .string pn, .int .i64 p1, .int .i64 p2, .int .i64 p3, .int .i64 p4, .int .i64 p5, .int .i64 p6, .int .i64 p7, .int .i64 p8, .int .i64 p9] 25)).cell? ⟨w.heap.size, i, none⟩ = some u := fun i u hu => by
    rw [World.cell?_alloc_at _ _ _ _ rfl]
    exact hu
  have hs0 : (w.alloc (.cells #[.int .i64 20, .string key, .int .i64 id, .int .i64 n, .int .i64 ttl, .int .i64 o, .string nm, .string sec, .string pn, .int .i64 p1, .int .i64 p2, .int .i64 p3, .int .i64 p4, .int .i64 p5, .int .i64 p6, .int .i64 p7, .int .i64 p8, .int .i64 p9] 25)).heap.size = w.heap.size + 1 := by simp
  have c0 := hc 0 _ rfl
  have c1 := hc 1 _ rfl
  have HC := hide hc
  have HT0 := hide hT0
  clear hc hT0
  generalize hrk : w.heap.size = rk at *
  go_enter Try.func12, Try.ntmps12
  go_upto_region 1 with fail
  have HRk := hide hrk
  clear hrk
  generalize w.alloc (.cells #[.int .i64 20, .string key, .int .i64 id, .int .i64 n, .int .i64 ttl, .int .i64 o, .string nm, .string sec, .string pn, .int .i64 p1, .int .i64 p2, .int .i64 p3, .int .i64 p4, .int .i64 p5, .int .i64 p6, .int .i64 p7, .int .i64 p8, .int .i64 p9] 25) = w0 at *
  have HS0 := hide hs0
  clear hs0
  go_upto_region 4 with (first | (go_at_call 26; refine (rk20 _).mono ?_; rintro e w' ⟨rfl, hw'⟩; subst w') | fail)
  have hO1 := own_str1 w0 (rk + 1) key (by have := HS0.out; omega)
  have hT1 : Turn [] w0 (w0.alloc (.cells #[.string key] 9)) := (Turn.refl [] w0).alloc _
  have hz1 : (w0.alloc (.cells #[.string key] 9)).heap.size = rk + 2 := by have := HS0.out; simp; omega
  have hwe : w0.heap.size = rk + 1 := HS0.out
  rw [hwe] at hO1
  rw [hwe]
  clear hwe
  have HO1 := hide hO1
  have HT1 := hide hT1
  have HZ1 := hide hz1
  clear hO1 hT1 hz1 c0 c1
  generalize w0.alloc (.cells #[.string key] 9) = w1 at *
  have HC1 : Hid (∀ w' : World, Turn [] w0 w' → ∀ (i : Nat) (u : Value), (#[.int .i64 20, .string key, .int .i64 id, .int .i64 n, .int .i64 ttl, .int .i64 o, .string nm, .string sec, .string pn, .int .i64 p1, .int .i64 p2, .int .i64 p3, .int .i64 p4, .int .i64 p5, .int .i64 p6, .int .i64 p7, .int .i64 p8, .int .i64 p9] : Array Value)[i]? = some u → w'.cell? ⟨rk, i, none⟩ = some u) := fun w' h i u hu => (h.cell (p := ⟨rk, i, none⟩) (by have := HS0.out; show rk < _; omega) (by simp)).trans (HC.out i u hu)
  have d0 := HC1.out _ HT1.out 0 _ rfl
  have d6 := HC1.out _ HT1.out 6 _ rfl
  have HOA : Hid (OwnS (w1.alloc (.cells #[.string nm] 9)) (rk + 1) (.slice (some ⟨rk + 1, 0, none⟩) 1 1) [key]) := HO1.out.alloc _
  have HTA : Hid (Turn [] w0 (w1.alloc (.cells #[.string nm] 9))) := HT1.out.alloc _
  have HCA : Hid (∀ (j : Nat) (u : Value), ([nm].map sc)[j]? = some u → (w1.alloc (.cells #[.string nm] 9)).cell? ⟨w1.heap.size, j, none⟩ = some u) := fun j u hu => by
    rw [World.cell?_alloc_at _ _ _ _ rfl, ← Array.getElem?_toList]
    exact hu
  go_upto_region 13 with (first | (at_builtin; refine append_strs rfl _ _ rfl (rk + 1) (.slice (some ⟨rk + 1, 0, none⟩) 1 1) [key] [nm] rfl HOA.out w1.heap.size 1 rfl rfl HCA.out (by show 1 + 1 < _; omega) (by have := HZ1.out; simp; omega) ?_; intro v2 w2 hO2 hg2) | fail)
  have HT2 : Hid (Turn [] w0 w2) := HTA.out.grown hg2 (fun k e => .inr (by have := HS0.out; have e2 : some (rk + 1) = some k := e; injection e2 with e2; omega))
  have HO2 : Hid (OwnS w2 (rk + 1) v2 [key, nm]) := hO2
  clear HCA HOA HTA hO2 hg2 d6
  clear d0
  have hg := HO2.out.get (i := 0) (by show 0 < 2; omega)
  obtain ⟨g, cap, hv2, hcell⟩ := hg
  have hv2' : v2 = .slice (some ⟨g, 0, none⟩) 2 cap := hv2
  subst hv2'
  clear hv2
  have HCell : Hid (∀ j : Nat, j < 2 → w2.cell? ⟨g, j, none⟩ = some (.string ([key, nm].getD j ByteArray.empty))) := hcell
  have HSz : Hid (∀ j : Nat, j < 2 → ([key, nm].getD j ByteArray.empty).size ≤ 9223372036854775807) := fun j hj => by
    obtain ⟨z1, z2, z3, z4⟩ := HZ.out
    have hj2 : j = 0 ∨ j = 1 := by omega
    rcases hj2 with rfl | rfl <;> assumption
  clear hcell
  have HFit : Hid ((∀ j : Nat, j < 2 → ([key, nm].getD j ByteArray.empty).size ≤ 255) → key.size ≤ 255 ∧ nm.size ≤ 255) := fun h => ⟨h 0 (by omega), h 1 (by omega)⟩
  have HNo : Hid (∀ (j : Nat), j < 2 → ¬ ([key, nm].getD j ByteArray.empty).size ≤ 255 → RencP w w2 [key, nm] F (.slice none 0 0) 5) := fun j hj h => by
    refine ⟨fun hf => absurd (hf ([key, nm].getD j ByteArray.empty) ?_) h, fun _ => ⟨rfl, rfl⟩, HT0.out.trans HT2.out⟩
    rw [List.getD_eq_getElem?_getD, List.getElem?_eq_getElem (show j < [key, nm].length from hj)]
    exact List.getElem_mem _
  go_wp2_with fail
  go_loopw [5] (fun i wr => ∃ j : Nat, j ≤ 2 ∧ i = .int .i64 j ∧ wr = w2 ∧ Hid (∀ q : Nat, q < j → ([key, nm].getD q ByteArray.empty).size ≤ 255)) (fun i _ => 2 - (intOf i).toNat)
  case atStart => exact ⟨0, by omega, rfl, rfl, fun q hq => by omega⟩
  case round =>
    obtain ⟨j, hj, rfl, hwr, HJ⟩ := hrel
    subst wr
    by_cases hlt : j < 2
    · have hcj := HCell.out j hlt
      have hsj := HSz.out j hlt
      have HNj := hide (HNo.out j hlt)
      have HJ2 : Hid (([key, nm].getD j ByteArray.empty).size ≤ 255 → ∀ q : Nat, q < j + 1 → ([key, nm].getD q ByteArray.empty).size ≤ 255) := fun h q hq => by
        rcases Nat.lt_or_ge q j with h1 | h1
        · exact HJ.out q h1
        · obtain rfl : q = j := by omega
          exact h
      generalize [key, nm].getD j ByteArray.empty = t at hcj hsj HNj HJ2
      by_cases ht : t.size ≤ 255
      · have HJ3 := hide (HJ2.out ht)
        go_wp2_with fail
        go_roundw
        case rel => exact ⟨j + 1, by omega, by go_num, by first | rfl | trivial, HJ3.out⟩
        case measure => simp [intOf]; omega
      · have HN := hide (HNj.out ht)
        go_wp2_with fail
        go_ret2
        exact ⟨_, 5, rfl, HN.out⟩
    · obtain rfl : j = 2 := by omega
      have hfit := HFit.out HJ.out
      obtain ⟨f_key, f_nm⟩ := hfit
      clear HNo HSz HCell HJ HFit
      have e0 := HC1.out _ HT2.out 0 _ rfl
      have e1 := HC1.out _ HT2.out 1 _ rfl
      have hO3 : (w2.alloc (.cells #[.int .u8 20] 5)).ownsRow 0 5 1 (.slice (some ⟨w2.heap.size, 0, none⟩) 1 1) 1 ([20].map byteCell) := World.ownsRow_lit w2 #[.int .u8 20] 1 (Nat.zero_le _) (by unfold maxLen; omega) rfl
      have HX := hide (rtext (w := w2.alloc (.cells #[.int .u8 20] 5)) (.slice (some ⟨w2.heap.size, 0, none⟩) 1 1) [20] key f_key (by simp) hO3)
      clear hO3
      obtain ⟨L, hL⟩ : ∃ L, [20] ++ txB key = L := ⟨_, rfl⟩
      have hLl : L.length ≤ 300 := by rw [← hL, List.length_append, txB_len]; simp; omega
      have HL := hide hL
      have HL2 : Hid ([20] ++ [key.size] ++ natBytes key = L) := by
        show _ = _
        rw [← hL]
        unfold txB
        rw [List.append_assoc]
      clear hL
      have hrk2 : rk < w2.heap.size := by have := HT2.out.size; have := HS0.out; omega
      have HRkA : Hid (rk < (w2.alloc (.cells #[.int .u8 20] 5)).heap.size) := by show _ < _; simp; omega
      have HRkB : Hid ((w2.alloc (.cells #[.int .u8 20] 5)).heap[rk]? = w2.heap[rk]?) := Below.heap_alloc w2 _ rk hrk2
      have HRkN : Hid ((Value.slice (some ⟨w2.heap.size, 0, none⟩) 1 1).ownBlock ≠ some rk) := fun e => by
        have e2 : some w2.heap.size = some rk := e
        injection e2 with e2
        omega
      have HFin : Hid (∀ w' v', Gr (w2.alloc (.cells #[.int .u8 20] 5)) w' (.slice (some ⟨w2.heap.size, 0, none⟩) 1 1) v' F → RencP w w' [key, nm] F v' 0) := fun w' v' h => by
        have hw02 := HT0.out.trans HT2.out
        have hT : Turn [] w w' := (hw02.alloc _).grown h.grown (fun k e => .inr (by
          have e2 : some w2.heap.size = some k := e
          injection e2 with e2
          have := hw02.size
          omega))
        refine ⟨fun _ => ⟨rfl, own_from h.own (fun q e hq => ?_)⟩, fun hf => absurd ?_ hf, hT⟩
        · rcases h.loc q e with e2 | e2
          · have e3 : some w2.heap.size = some q := e2
            injection e3 with e3
            have := hw02.size
            omega
          · have := hw02.size
            simp at e2
            omega
        · intro t ht
          simp only [List.mem_cons, List.not_mem_nil, or_false] at ht
          rcases ht with rfl | rfl <;> assumption
      obtain ⟨L1, hL1⟩ : ∃ M, L ++ txB nm = M := ⟨_, rfl⟩
      have hl1 : L1.length ≤ 800 := by rw [← hL1, List.length_append, txB_len]; omega
      have HL3 := hide hL1
      obtain ⟨L2, hL2⟩ : ∃ M, L1 ++ be8 n = M := ⟨_, rfl⟩
      have hl2 : L2.length ≤ 1200 := by rw [← hL2, List.length_append, be8_length]; omega
      have HL4 := hide hL2
      have HFF : Hid (L2 = F) := by
        have h := HF.out
        rw [HL.out, hL1, hL2] at h
        exact h
      clear hL1 hL2
      have HT5 : Hid (L ++ [nm.size] ++ natBytes nm = L1) := by
        show _ = _
        rw [← HL3.out]
        unfold txB
        rw [List.append_assoc]
      go_upto_region 36 with (first | (go_at_call 27; refine HX.out.mono ?_; rintro e w3 ⟨v3, rfl, hG⟩; rw [HL2.out] at hG; obtain ⟨va3, vc3, rfl⟩ := own_form hG.own; have HG3 := hide hG; clear hG; have e30 := (World.cell?_of_block (a := ⟨rk, 0, none⟩) ((HG3.out.other (x := rk) (HRkA.out) (HRkN.out)).trans HRkB.out)).trans e0) | fail)
      clear HX e30 e0 e1
      have hb3 : w3.drew.heap[rk]? = w2.heap[rk]? := (HG3.out.other (x := rk) HRkA.out HRkN.out).trans HRkB.out
      have hov3 := HG3.out.apart (x := rk) HRkA.out HRkN.out
      have hz3 : rk < w3.drew.heap.size := Nat.lt_of_lt_of_le HRkA.out HG3.out.grown.size
      have HGd : Hid (Gr (w2.alloc (.cells #[.int .u8 20] 5)) w3.drew (.slice (some ⟨w2.heap.size, 0, none⟩) 1 1) (.slice va3 L.length vc3) L) := ⟨HG3.out.own, ⟨HG3.out.grown.os, HG3.out.grown.tape, HG3.out.grown.output, HG3.out.grown.size, HG3.out.grown.block⟩, HG3.out.loc⟩
      clear HG3
      have HG3 := hide HGd.out
      clear HGd
      have HAll : Hid (∀ w' : World, w'.heap[rk]? = w2.heap[rk]? → w'.cell? ⟨rk, 6, none⟩ = some (.string nm) ∧ w'.cell? ⟨rk, 3, none⟩ = some (.int .i64 n)) := fun w' e => ⟨(World.cell?_of_block (a := ⟨rk, 6, none⟩) e).trans (HC1.out _ HT2.out 6 _ rfl), (World.cell?_of_block (a := ⟨rk, 3, none⟩) e).trans (HC1.out _ HT2.out 3 _ rfl)⟩
      go_region_held_law (fun w' => w'.cell? ⟨rk, 6, none⟩ = some (.string nm) ∧ w'.cell? ⟨rk, 3, none⟩ = some (.int .i64 n))
        (first | assumption | exact HAll.out _ hb5 | exact HAll.out _ hb4 | exact HAll.out _ hb3)
        (first
        | (go_at_call 28; refine (rint _ L1 n (by omega) HG4.out.own).mono ?_; rintro e w5 ⟨v5, rfl, hG⟩; rw [HL4.out] at hG; obtain ⟨va5, vc5, rfl⟩ := own_form hG.own; have hb5 := (hG.other (x := rk) (by omega) hov4).trans hb4; have hov5 := hG.apart (x := rk) (by omega) hov4; have hz5 := Nat.lt_of_lt_of_le hz4 hG.grown.size; have HG5 := hide hG; clear hG)
        | (go_at_call 27; refine (rtext _ L nm f_nm (by omega) HG3.out.own).mono ?_; rintro e w4 ⟨v4, rfl, hG⟩; rw [HT5.out] at hG; obtain ⟨va4, vc4, rfl⟩ := own_form hG.own; have hb4 := (hG.other (x := rk) (by omega) hov3).trans hb3; have hov4 := hG.apart (x := rk) (by omega) hov3; have hz4 := Nat.lt_of_lt_of_le hz3 hG.grown.size; have HG4 := hide hG; clear hG)
        | fail)
      all_goals
        go_wp2_with fail
        go_ret2
        exact ⟨_, 0, rfl, HFin.out _ _ (by rw [← HFF.out]; exact ((HG3.out).trans HG4.out).trans HG5.out)⟩

end Go.Proofs.Ytkbboingeacgjaa
