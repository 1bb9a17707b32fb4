/-
  Answers of the frame: written, walked.
-/
import Derived.Test.YtkbboingeacgjaaFEnc
import Derived.Test.YtkbboingeacgjaaQRS
import Derived.Test.YtkbboingeacgjaaFFrame
namespace Go.Proofs.Ytkbboingeacgjaa
open Go.RowKit

theorem awC_len (a : Aw) : (awC a).length = 13 := rfl
theorem awC_one (a : Aw) : ∀ v ∈ awC a, v.oneCell' = true := by
  intro v hv
  simp only [awC, List.mem_cons, List.not_mem_nil, or_false] at hv
  rcases hv with rfl | rfl | rfl | rfl | rfl | rfl | rfl | rfl | rfl | rfl | rfl | rfl | rfl <;> rfl
/-- An answer's bytes. -/
def awB (a : Aw) : List Nat := ansBy a.er.toNat [a.l1, a.l2, a.l3] a.nm [a.z1, a.z2, a.z3, a.z4, a.z5, a.z6, a.z7, a.z8]
/-- It can be written. -/
def Aw.Ok (a : Aw) : Prop := 0 ≤ a.er ∧ a.er ≤ 255 ∧ a.nm.size ≤ 255

set_option maxRecDepth 100000 in
set_option maxHeartbeats 1600000 in
theorem fwnums {w : World} {O : Nat → Prop} {b : Nat} {l : List Nat} {e : Nat} (q : Nat) (x1 x2 x3 : Int) (hq : O q) (hI : IntsAt w q 0 [x1, x2, x3]) (hl : l.length ≤ 900000000) (h : FwAt w O b l e) :
    Calls Try.prog 43 #[.pointer (some ⟨b, 0, none⟩), .slice (some ⟨q, 0, none⟩) 3 3] w fun r w' => r = .returned (.tuple #[]) ∧ FwAt w' O b (l ++ [x1, x2, x3].flatMap be8) e ∧ Keep O w w' := by
  have hql : q < w.heap.size := lt_of_cell (hI 0 (by simp))
  have H := hide h
  have HI := hide hI
  clear h hI
  go_enter Try.func43, Try.ntmps43
  go_wp2_with fail
  go_loopw [5, 8] (fun _ i wr => ∃ j : Nat, j ≤ 3 ∧ i = .int .i64 (j : Nat) ∧ FwAt wr O b (l ++ ([x1, x2, x3].take j).flatMap be8) e ∧ Keep O w wr) (fun _ i _ => 3 - (intOf i).toNat)
  case atStart => exact ⟨0, by omega, rfl, by simpa using H.out, Keep.refl _ _⟩
  case round =>
    obtain ⟨j, hj, rfl, hW, hK⟩ := hrel
    by_cases hlt : j < 3
    · have hjl : j < [x1, x2, x3].length := hlt
      have hc : wr.cell? ⟨q, j, none⟩ = some (.int .i64 [x1, x2, x3][j]) := by
        have := HI.out j hjl
        rw [Nat.zero_add] at this
        exact (hK.cell hql hq).trans this
      have HTk : Hid (l ++ ([x1, x2, x3].take (j + 1)).flatMap be8 = l ++ ([x1, x2, x3].take j).flatMap be8 ++ be8 [x1, x2, x3][j]) := by
        show _ = _
        rw [List.take_succ_eq_append_getElem hjl, List.flatMap_append, List.append_assoc]
        simp
      obtain ⟨L, hL⟩ : ∃ L, l ++ ([x1, x2, x3].take j).flatMap be8 = L := ⟨_, rfl⟩
      have hLl : L.length ≤ 1000000000 := by
        rw [← hL, List.length_append, flat8_length, List.length_take]
        omega
      rw [hL] at hW HTk
      have HW := hide hW
      have HK := hide hK
      generalize [x1, x2, x3][j] = x at *
      clear hL hW hK
      go_wp2_with fail
      refine (fwnum x hLl HW.out).mono ?_
      rintro r w2 ⟨rfl, hW2, hK2⟩
      have HW2 := hide hW2
      have HK2 := hide (HK.out.trans hK2)
      clear hW2 hK2
      go_wp2_with fail
      go_roundw
      case rel => exact ⟨j + 1, hlt, by go_num, by rw [HTk.out]; exact HW2.out, HK2.out⟩
      case measure => simp [intOf]; omega
    · obtain rfl : j = 3 := by omega
      have HW := hide hW
      have HK := hide hK
      clear hW hK
      go_wp2_with fail
      go_end0
      exact ⟨rfl, HW.out, HK.out⟩

set_option maxRecDepth 100000 in
set_option maxHeartbeats 3200000 in
theorem fwanswer {w : World} {O : Nat → Prop} {b : Nat} (a : Aw) (ha : a.Ok) (h : FwAt w O b [] 0) :
    Calls Try.prog 36 #[.pointer (some ⟨b, 0, none⟩), .agg (awC a).toArray] w fun r w' => r = .returned (.tuple #[]) ∧ FwAt w' O b (awB a) 0 ∧ Keep O w w' := by
  obtain ⟨ha1, ha2, ha3⟩ := ha
  obtain ⟨n, hn⟩ : ∃ n : Nat, a.er = (n : Int) := ⟨a.er.toNat, by omega⟩
  have hn2 : n ≤ 255 := by omega
  have hK0 : Keep (fun _ => True) w (w.alloc (.cells (awC a).toArray 43)) := (Keep.refl _ w).alloc _
  have hsz : (w.alloc (.cells (awC a).toArray 43)).heap.size = w.heap.size + 1 := by simp
  have hR := rng_new w (awC a) (awC a).toArray 43 rfl
  have hW0 : FwAt (w.alloc (.cells (awC a).toArray 43)) (fun x => O x ∨ x = w.heap.size) b [] 0 := h.more hK0 (fun x hx => by
    rcases hx with hx | hx
    · exact .inl hx
    · exact .inr (by rw [hsz]; omega))
  have HCell : Hid (∀ W : World, W.heap[w.heap.size]? = (w.alloc (.cells (awC a).toArray 43)).heap[w.heap.size]? → W.rangeAt w.heap.size 0 (awC a)) := fun W hW => rangeAt_keep hR hW
  have HBy : Hid (awB a = ansBy n [a.l1, a.l2, a.l3] a.nm [a.z1, a.z2, a.z3, a.z4, a.z5, a.z6, a.z7, a.z8]) := by show _ = _; unfold awB; rw [hn]; rfl
  have HCc : Hid (∀ W : World, W.rangeAt w.heap.size 0 (awC a) → W.cell? ⟨w.heap.size, 0, none⟩ = some (.int .i64 (n : Nat)) ∧ W.cell? ⟨w.heap.size, 1, none⟩ = some (.int .i64 a.l1) ∧ W.cell? ⟨w.heap.size, 2, none⟩ = some (.int .i64 a.l2) ∧ W.cell? ⟨w.heap.size, 3, none⟩ = some (.int .i64 a.l3) ∧ W.cell? ⟨w.heap.size, 5, none⟩ = some (.int .i64 a.z1) ∧ W.rangeAt w.heap.size 4 (stmC a.nm a.z1 a.z2 a.z3 a.z4 a.z5 a.z6 a.z7 a.z8)) := fun W hW => ⟨by rw [← hn]; exact hW 0 _ rfl, hW 1 _ rfl, hW 2 _ rfl, hW 3 _ rfl, hW 5 _ rfl, rangeAt_right (xs := [.int .i64 a.er, .int .i64 a.l1, .int .i64 a.l2, .int .i64 a.l3]) hW⟩
  have HK0 := hide hK0
  have HZ := hide hsz
  have HW0 := hide hW0
  rw [HBy.out]
  obtain ⟨er, l1, l2, l3, nm, z1, z2, z3, z4, z5, z6, z7, z8⟩ := a
  dsimp only at hn HCc ha3 ⊢
  clear hK0 hsz hW0 h ha1 ha2 hn HBy
  obtain ⟨c0, _⟩ := HCc.out _ hR
  clear hR
  generalize awC _ = cs at *
  generalize hrb : w.heap.size = rb at *
  go_enter Try.func36, Try.ntmps36
  go_wp2_with fail
  clear hrb
  generalize w.alloc (.cells cs.toArray 43) = w0 at *
  refine (fwoctet n hn2 (by simp) HW0.out).mono ?_
  rintro r w1 ⟨rfl, hW, hK⟩
  obtain ⟨_, c1, c2, c3, _⟩ := HCc.out w1 (HCell.out w1 (hK.block rb (by have := HZ.out; omega) (.inr rfl)))
  have hz1 : w0.heap.size ≤ w1.heap.size := hK.size
  have hW1 : FwAt (w1.alloc (.cells #[.int .i64 l1, .int .i64 l2, .int .i64 l3] 3)) (fun x => (O x ∨ x = rb) ∨ x = w1.heap.size) b ([] ++ [n]) 0 := hW.more ((Keep.refl _ w1).alloc _) (fun x hx => by
    rcases hx with hx | hx
    · exact .inl hx
    · exact .inr (by simp; omega))
  have hI1 : IntsAt (w1.alloc (.cells #[.int .i64 l1, .int .i64 l2, .int .i64 l3] 3)) w1.heap.size 0 [l1, l2, l3] := fun i hi => by
    rw [Nat.zero_add, World.cell?_alloc_at _ _ _ _ rfl]
    match i, hi with
    | 0, _ => rfl
    | 1, _ => rfl
    | 2, _ => rfl
  have HN := hide (fwnums w1.heap.size l1 l2 l3 (.inr rfl) hI1 (by simp) hW1)
  have HK1 : Hid (Keep (fun x => O x ∨ x = rb) w0 (w1.alloc (.cells #[.int .i64 l1, .int .i64 l2, .int .i64 l3] 3))) := hK.alloc _
  clear hW hK hW1 hI1 c0
  go_wp2_with fail
  refine HN.out.mono ?_
  rintro r w2 ⟨rfl, hW, hK⟩
  have hK2 : Keep (fun x => O x ∨ x = rb) w0 w2 := HK1.out.trans (hK.less (fun x _ hx => .inl hx))
  obtain ⟨_, _, _, _, c5, hr4⟩ := HCc.out w2 (HCell.out w2 (hK2.block rb (by have := HZ.out; omega) (.inr rfl)))
  have HW2 := hide (hW.less (fun x (hx : O x ∨ x = rb) => .inl hx))
  have HK2 := hide hK2
  have HR4 := hide hr4
  obtain ⟨L, hL⟩ : ∃ L, [] ++ [n] ++ [l1, l2, l3].flatMap be8 = L := ⟨_, rfl⟩
  have hLl : L.length = 25 := by rw [← hL]; simp [be8_length]
  rw [hL] at HW2
  have HL := hide hL
  clear hW hK hK2 hr4 hL HN HK1 c1 c2 c3
  by_cases hz : z1 = 0
  · have HB : Hid (ansBy n [l1, l2, l3] nm [z1, z2, z3, z4, z5, z6, z7, z8] = L ++ [0]) := by
      show _ = _
      unfold ansBy
      rw [if_pos (show [z1, z2, z3, z4, z5, z6, z7, z8].headD 0 = 0 from hz), ← HL.out]
      simp
    subst hz
    go_wp2_with fail
    refine (fwoctet 0 (by omega) (by omega) HW2.out).mono ?_
    rintro r w3 ⟨rfl, hW, hK⟩
    have HW3 := hide hW
    have HK3 := hide (HK2.out.trans hK)
    clear hW hK
    go_wp2_with fail
    refine bodyPost_ret (v := .tuple #[]) (by simp [results, Try.results36]) rfl ?_
    rw [HB.out]
    exact ⟨rfl, HW3.out.less (fun x hx => .inl hx), (HK0.out.less (fun _ _ _ => trivial)).trans (HK3.out.less (fun x _ hx => .inl hx))⟩
  · have HB : Hid (ansBy n [l1, l2, l3] nm [z1, z2, z3, z4, z5, z6, z7, z8] = L ++ [1] ++ tiB nm [z1, z2, z3, z4, z5, z6, z7, z8]) := by
      show _ = _
      unfold ansBy
      rw [if_neg (show ¬ [z1, z2, z3, z4, z5, z6, z7, z8].headD 0 = 0 from hz), ← HL.out]
      simp
    go_wp2_with fail
    refine (fwoctet 1 (by omega) (by omega) HW2.out).mono ?_
    rintro r w3 ⟨rfl, hW, hK⟩
    have hK3 := HK2.out.trans hK
    obtain ⟨_, _, _, _, _, hr5⟩ := HCc.out w3 (HCell.out w3 (hK3.block rb (by have := HZ.out; omega) (.inr rfl)))
    have hS := fwstm nm z1 z2 z3 z4 z5 z6 z7 z8 (by omega) (by rw [List.length_append, hLl]; simp) hW
    rw [show tiW (L ++ [1]) 0 nm [z1, z2, z3, z4, z5, z6, z7, z8] = ⟨L ++ [1] ++ tiB nm [z1, z2, z3, z4, z5, z6, z7, z8], 0⟩ by unfold tiW; rw [if_pos ha3]] at hS
    have HS := hide hS
    have HK3 := hide hK3
    have HR5 := hide hr5
    have hl9 : (stmC nm z1 z2 z3 z4 z5 z6 z7 z8).length = 9 := rfl
    clear hW hK hK3 hr5 hS
    go_wp2_with (first | ((with_reducible refine load_sz 41 9 sz40 _ rb 4 (stmC nm z1 z2 z3 z4 z5 z6 z7 z8) hl9 ?_ HR5.out ?_); rfl) | fail)
    refine HS.out.mono ?_
    rintro r w4 ⟨rfl, hW, hK⟩
    have HW4 := hide hW
    have HK4 := hide (HK3.out.trans hK)
    clear hW hK
    go_wp2_with fail
    go_end0
    rw [HB.out]
    exact ⟨rfl, HW4.out.less (fun x hx => .inl hx), (HK0.out.less (fun _ _ _ => trivial)).trans (HK4.out.less (fun x _ hx => .inl hx))⟩

set_option maxRecDepth 100000 in
set_option maxHeartbeats 1600000 in
theorem encans (w : World) (a : Aw) (ha : a.Ok) :
    Calls Try.prog 17 #[.agg (awC a).toArray] w fun e w' => ∃ v, e = .returned v ∧ Out w w' v (awB a) := by
  have hW : FwAt ((w.alloc (.cells (awC a).toArray 43)).alloc (.cells #[.int .i64 0, .slice none 0 0] 62)) (fun x => x < w.heap.size + 1) (w.heap.size + 1) [] 0 := by
    have := fw_new (w.alloc (.cells (awC a).toArray 43)) (fun x => x < w.heap.size + 1) (fun x hx => by simp; omega)
    rw [show (w.alloc (.cells (awC a).toArray 43)).heap.size = w.heap.size + 1 by simp] at this
    exact this
  have hR : ((w.alloc (.cells (awC a).toArray 43)).alloc (.cells #[.int .i64 0, .slice none 0 0] 62)).rangeAt w.heap.size 0 (awC a) := rangeAt_keep (rng_new w (awC a) (awC a).toArray 43 rfl) (Below.heap_alloc _ _ _ (by simp))
  have hK0 : Keep (fun _ => True) w ((w.alloc (.cells (awC a).toArray 43)).alloc (.cells #[.int .i64 0, .slice none 0 0] 62)) := ((Keep.refl _ w).alloc _).alloc _
  have HC := hide (fwanswer a ha hW)
  have HR := hide hR
  have HK0 := hide hK0
  have hlr := awC_len a
  clear hW hR hK0 ha
  generalize awB a = B at *
  generalize awC a = cs at *
  generalize hfb : w.heap.size = fb at *
  go_enter Try.func17, Try.ntmps17
  go_wp2_with (first | ((with_reducible refine load_sz 43 13 sz67 _ fb 0 cs hlr ?_ HR.out ?_); rfl) | fail)
  have HFb := hide hfb
  clear hfb
  generalize (w.alloc (.cells cs.toArray 43)).alloc (.cells #[.int .i64 0, .slice none 0 0] 62) = w0 at *
  refine HC.out.mono ?_
  rintro e w1 ⟨rfl, hA, hK⟩
  have HE := hide (fwend hA)
  have HK : Hid (Turn [] w w1) := by
    have h1 : Keep (fun x => x < fb + 1) w w1 := (HK0.out.less (fun _ _ _ => trivial)).trans hK
    exact ⟨h1.os, h1.tape, h1.output, h1.size, fun k hk _ => h1.block k hk (by have := HFb.out; omega)⟩
  clear hA hK
  go_wp2_with fail
  refine HE.out.mono ?_
  rintro e w2 ⟨⟨v, rfl, h1, _⟩, n, rfl⟩
  have HP : Hid (Out w (w1.drewN n) v B) := by
    obtain ⟨k1, k2⟩ := h1 (by first | exact rfl | trivial)
    exact ⟨own_from k1 (fun g e h => k2 g e (by have := HFb.out; omega)), ⟨HK.out.os, HK.out.tape, HK.out.output, HK.out.size, HK.out.block⟩⟩
  clear h1
  go_wp2_with fail
  go_ret
  exact ⟨v, rfl, by have := HFb.out; subst this; exact HP.out⟩

end Go.Proofs.Ytkbboingeacgjaa
