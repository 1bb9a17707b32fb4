/-
  The reference's Plan and Statement, walked.
-/
import Derived.Test.YtkbboingeacgjaaQRef
import Derived.Test.YtkbboingeacgjaaQStm
namespace Go.Proofs.Ytkbboingeacgjaa
open Go.RowKit

theorem flat8_length (xs : List Int) : (xs.flatMap be8).length = 8 * xs.length := by
  induction xs with
  | nil => rfl
  | cons x xs ih => rw [List.flatMap_cons, List.length_append, be8_length, ih, List.length_cons]; omega

set_option maxRecDepth 100000 in
set_option maxHeartbeats 1600000 in
theorem rplan {w : World} (v : Value) (l : List Nat) (nm : ByteArray) (x1 x2 x3 x4 x5 x6 x7 x8 x9 : Int) (hx : nm.size ≤ 255) (hl : l.length ≤ 900000000) (h : w.ownsRow 0 5 1 v l.length (l.map byteCell)) :
    Calls Try.prog 29 #[v, .agg #[Value.string nm, .int .i64 x1, .int .i64 x2, .int .i64 x3, .int .i64 x4, .int .i64 x5, .int .i64 x6, .int .i64 x7, .int .i64 x8, .int .i64 x9]] w fun e w' => ∃ v', e = .returned v' ∧ Gr w w' v v' (l ++ tiB nm [x1, x2, x3, x4, x5, x6, x7, x8, x9]) := by
  obtain ⟨F, hF⟩ : ∃ F, l ++ tiB nm [x1, x2, x3, x4, x5, x6, x7, x8, x9] = F := ⟨_, rfl⟩
  rw [hF]
  have HF := hide hF
  clear hF
  have hK0 : Keep (fun _ => True) w (w.alloc (.cells #[Value.string nm, .int .i64 x1, .int .i64 x2, .int .i64 x3, .int .i64 x4, .int .i64 x5, .int .i64 x6, .int .i64 x7, .int .i64 x8, .int .i64 x9] 23)) := (Keep.refl _ w).alloc _
  have hown0 := own_kept h (hK0.less (fun _ _ _ => trivial))
  have hlt := h.lt
  have hcell0 : ∀ i u, #[Value.string nm, .int .i64 x1, .int .i64 x2, .int .i64 x3, .int .i64 x4, .int .i64 x5, .int .i64 x6, .int .i64 x7, .int .i64 x8, .int .i64 x9][i]? = some u → (w.alloc (.cells #[Value.string nm, .int .i64 x1, .int .i64 x2, .int .i64 x3, .int .i64 x4, .int .i64 x5, .int .i64 x6, .int .i64 x7, .int .i64 x8, .int .i64 x9] 23)).cell? ⟨w.heap.size, i, none⟩ = some u := fun i u hu => (World.cell?_alloc_at _ _ _ _ rfl).trans hu
  have hs0 : (w.alloc (.cells #[Value.string nm, .int .i64 x1, .int .i64 x2, .int .i64 x3, .int .i64 x4, .int .i64 x5, .int .i64 x6, .int .i64 x7, .int .i64 x8, .int .i64 x9] 23)).heap.size = w.heap.size + 1 := by simp
  have HK0 := hide hK0
  have HO0 := hide hown0
  have HLt := hide hlt
  have HC0 := hide hcell0
  obtain ⟨va, vc, rfl⟩ := own_form h
  clear hK0 hown0 hlt hcell0 h
  go_enter Try.func29, Try.ntmps29
  go_wp2_with fail
  refine (rtext _ l nm hx (by omega) HO0.out).mono ?_
  rintro e w1 ⟨v1, rfl, hG1⟩
  have hcell : ∀ i u, #[Value.string nm, .int .i64 x1, .int .i64 x2, .int .i64 x3, .int .i64 x4, .int .i64 x5, .int .i64 x6, .int .i64 x7, .int .i64 x8, .int .i64 x9][i]? = some u → w1.cell? ⟨w.heap.size, i, none⟩ = some u := fun i u hu => (World.cell?_of_block (a := ⟨w.heap.size, i, none⟩) (hG1.grown.block w.heap.size (by rw [hs0]; omega) (fun e => by have := (HLt.out _ e.symm).2; omega))).trans (HC0.out i u hu)
  have c1 := hcell 1 _ rfl
  have c2 := hcell 2 _ rfl
  have c3 := hcell 3 _ rfl
  have c4 := hcell 4 _ rfl
  have c5 := hcell 5 _ rfl
  have c6 := hcell 6 _ rfl
  have c7 := hcell 7 _ rfl
  have c8 := hcell 8 _ rfl
  have c9 := hcell 9 _ rfl
  obtain ⟨L, hL⟩ : ∃ L, l ++ [nm.size] ++ natBytes nm = L := ⟨_, rfl⟩
  have hln : L.length = l.length + 1 + nm.size := by rw [← hL, List.length_append, List.length_append, natBytes_length]; rfl
  have hlm : L.length ≤ 900000300 := by omega
  rw [hL] at hG1
  have HFin : Hid (L ++ [x1, x2, x3, x4, x5, x6, x7, x8, x9].flatMap be8 = F) := by
    show _ = _
    rw [← HF.out, ← hL]
    unfold tiB
    simp only [List.append_assoc]
  have HG1 := hide hG1
  have hs1 := hG1.grown.size
  rw [hs0] at hs1
  obtain ⟨va1, vc1, rfl⟩ := own_form hG1.own
  have HK2 := hide (show Keep (fun _ => True) w1 (w1.alloc (.cells #[Value.int .i64 x1, Value.int .i64 x2, Value.int .i64 x3, Value.int .i64 x4, Value.int .i64 x5, Value.int .i64 x6, Value.int .i64 x7, Value.int .i64 x8, Value.int .i64 x9] 3)) from (Keep.refl _ w1).alloc _)
  have HO2 := hide (own_kept hG1.own (HK2.out.less (fun _ _ _ => trivial)))
  have HLt1 := hide hG1.own.lt
  have HRow : Hid (IntsAt (w1.alloc (.cells #[Value.int .i64 x1, Value.int .i64 x2, Value.int .i64 x3, Value.int .i64 x4, Value.int .i64 x5, Value.int .i64 x6, Value.int .i64 x7, Value.int .i64 x8, Value.int .i64 x9] 3)) w1.heap.size 0 [x1, x2, x3, x4, x5, x6, x7, x8, x9]) := fun i hi => by
    rw [World.cell?_alloc_at _ _ _ _ rfl, ← Array.getElem?_toList, Nat.zero_add]
    show ([x1, x2, x3, x4, x5, x6, x7, x8, x9].map (Value.int .i64))[i]? = _
    rw [List.getElem?_map, List.getElem?_eq_getElem hi]
    rfl
  have hs2 : (w1.alloc (.cells #[Value.int .i64 x1, Value.int .i64 x2, Value.int .i64 x3, Value.int .i64 x4, Value.int .i64 x5, Value.int .i64 x6, Value.int .i64 x7, Value.int .i64 x8, Value.int .i64 x9] 3)).heap.size = w1.heap.size + 1 := by simp
  have HS2 := hide hs2
  clear hG1 hcell hL hln hs2 HF
  go_wp2_with fail
  generalize hxs : [x1, x2, x3, x4, x5, x6, x7, x8, x9] = xs at HFin HRow
  have hxl : xs.length = 9 := by rw [← hxs]; rfl
  have HXl := hide hxl
  clear hxs hxl
  generalize w1.alloc (.cells #[Value.int .i64 x1, Value.int .i64 x2, Value.int .i64 x3, Value.int .i64 x4, Value.int .i64 x5, Value.int .i64 x6, Value.int .i64 x7, Value.int .i64 x8, Value.int .i64 x9] 3) = w2 at *
  go_loopw [0, 6] (fun u i wr => ∃ j : Nat, j ≤ 9 ∧ i = .int .i64 (j : Nat) ∧ Gr w2 wr (.slice va1 L.length vc1) u (L ++ (xs.take j).flatMap be8)) (fun _ i _ => 9 - (intOf i).toNat)
  case atStart => exact ⟨0, by omega, rfl, by simpa using Gr.refl HO2.out⟩
  case round =>
    obtain ⟨j, hj, rfl, hG⟩ := hrel
    by_cases hlt : j < 9
    · have hjl : j < xs.length := by rw [HXl.out]; exact hlt
      have hcj : wr.cell? ⟨w1.heap.size, j, none⟩ = some (.int .i64 xs[j]) := by
        have := HRow.out j hjl
        rw [Nat.zero_add] at this
        exact (World.cell?_of_block (a := ⟨w1.heap.size, j, none⟩) (hG.grown.block w1.heap.size (by rw [HS2.out]; omega) (fun e => by have := (HLt1.out _ e.symm).2; omega))).trans this
      obtain ⟨M, hM⟩ : ∃ M, L ++ (xs.take j).flatMap be8 = M := ⟨_, rfl⟩
      have hlj : M.length ≤ 900001000 := by
        rw [← hM, List.length_append, flat8_length, List.length_take]; omega
      have HT : Hid (L ++ (xs.take (j + 1)).flatMap be8 = M ++ be8 xs[j]) := by
        show _ = _
        rw [List.take_succ_eq_append_getElem hjl, List.flatMap_append, ← List.append_assoc, hM]
        simp
      rw [hM] at hG
      obtain ⟨ua, uc, rfl⟩ := own_form hG.own
      have HG := hide hG
      generalize xs[j] = xj at *
      clear hG hM hjl
      go_wp2_with fail
      refine (rint _ M xj (by omega) HG.out.own).mono ?_
      rintro e w3 ⟨v3, rfl, hG3⟩
      rw [← HT.out] at hG3
      have HG3 := hide (HG.out.trans hG3)
      clear hG3
      go_wp2_with fail
      go_roundw
      case rel => exact ⟨j + 1, hlt, by go_num, HG3.out⟩
      case measure => simp [intOf]; omega
    · obtain rfl : j = 9 := by omega
      rw [List.take_of_length_le (by rw [HXl.out]; omega), HFin.out] at hG
      have HG := hide hG
      obtain ⟨ua, uc, rfl⟩ := own_form hG.own
      clear hG
      go_wp2_with fail
      go_ret
      exact ⟨_, rfl, Gr.after HK0.out (HG1.out.trans (Gr.after HK2.out HG.out (fun g e => (HLt1.out g e).2))) (fun g e => (HLt.out g e).2)⟩

end Go.Proofs.Ytkbboingeacgjaa
