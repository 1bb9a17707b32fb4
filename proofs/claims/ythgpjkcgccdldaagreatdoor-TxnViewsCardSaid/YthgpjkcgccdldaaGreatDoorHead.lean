/-
  A head's block, walked; what is written is what is read.
-/
import Derived.Test.YthgpjkcgccdldaaGreatDoorPage
namespace Go.Proofs.YthgpjkcgccdldaaGreatDoor
open Go.RowKit

/-- A head's bytes, its sum aside. -/
def headB0 (c : Nat) (root : List Nat) : Nat → Nat := fun i => if 13 ≤ i ∧ i < 13 + root.length then root.getD (i - 13) 0 else setB (putN (fun _ => 0) 4 8 c) 12 root.length i
def headB (c : Nat) (root : List Nat) : Nat → Nat := putN (headB0 c root) 0 4 (hdCrc (headB0 c root))

set_option maxRecDepth 100000 in
theorem hdCrc_headB (c : Nat) (root : List Nat) : hdCrc (headB c root) = hdCrc (headB0 c root) := by
  have e : (bytesOf 508 fun i => headB c root (4 + i)) = bytesOf 508 fun i => headB0 c root (4 + i) := bytesOf_congr fun i _ => by
    unfold headB putN
    rw [if_neg (by omega)]
  unfold hdCrc
  rw [e]

set_option maxRecDepth 100000 in
theorem putN_lt {B : Nat → Nat} (h : ∀ i, B i < 256) (off k x : Nat) : ∀ i, putN B off k x i < 256 := by
  intro i
  unfold putN
  split
  · exact Nat.mod_lt _ (by decide)
  · exact h i

set_option maxRecDepth 100000 in
theorem headB0_lt (c : Nat) (root : List Nat) (hb : ∀ x ∈ root, x < 256) (hl : root.length ≤ 64) : ∀ i, headB0 c root i < 256 := by
  intro i
  unfold headB0
  split
  · rename_i h
    rw [List.getD_eq_getElem?_getD, List.getElem?_eq_getElem (by omega)]
    exact hb _ (List.getElem_mem _)
  · unfold setB
    split
    · omega
    · exact putN_lt (fun _ => by omega) _ _ _ i
set_option maxRecDepth 100000 in
theorem headB_lt (c : Nat) (root : List Nat) (hb : ∀ x ∈ root, x < 256) (hl : root.length ≤ 64) : ∀ i, headB c root i < 256 := putN_lt (headB0_lt c root hb hl) _ _ _

set_option maxRecDepth 100000 in
/-- What is written is what is read. -/
theorem head_back (c : Nat) (hc : c < 9223372036854775808) (root : List Nat) (hb : ∀ x ∈ root, x < 256) (hl : root.length ≤ 64) : hdNum (headB c root) = c ∧ hdC (headB c root) = c ∧ hdR (headB c root) = root := by
  have h1 : hdSum (headB c root) = hdCrc (headB c root) := by
    rw [hdCrc_headB]
    have := leNum_put (headB0 c root) 0 4 (hdCrc (headB0 c root))
    have e : (bytesOf 4 fun i => putN (headB0 c root) 0 4 (hdCrc (headB0 c root)) (0 + i)) = bytesOf 4 (headB c root) := bytesOf_congr fun i _ => by rw [Nat.zero_add]; rfl
    rw [e] at this
    unfold hdSum
    rw [this]
    exact Nat.mod_eq_of_lt (hdCrc_lt _ (headB0_lt c root hb hl))
  have hi : ∀ i, 4 ≤ i → headB c root i = headB0 c root i := fun i h => by unfold headB putN; rw [if_neg (by omega)]
  have h2 : hdNum (headB c root) = c := by
    have := leNum_put (fun _ => 0) 4 8 c
    have e : (bytesOf 8 fun i => putN (fun _ => 0) 4 8 c (4 + i)) = bytesOf 8 fun i => headB c root (4 + i) := bytesOf_congr fun i h => by
      rw [hi _ (by omega)]
      unfold headB0 setB
      rw [if_neg (by omega), if_neg (by omega)]
    rw [e] at this
    unfold hdNum
    rw [this]
    exact Nat.mod_eq_of_lt (by omega)
  refine ⟨h2, by unfold hdC; rw [if_pos h1, h2], ?_⟩
  unfold hdR
  rw [if_pos h1, hi 12 (by omega)]
  have e12 : headB0 c root 12 = root.length := by unfold headB0 setB; rw [if_neg (by omega), if_pos rfl]
  rw [e12]
  have e : (bytesOf root.length fun i => headB c root (13 + i)) = bytesOf root.length fun i => root.getD i 0 := bytesOf_congr fun i h => by
    rw [hi _ (by omega)]
    unfold headB0
    rw [if_pos (by omega), Nat.add_sub_cancel_left]
  rw [e]
  exact bytesOf_list root

set_option maxRecDepth 100000 in
/-- Noughts are no Commit's head. -/
theorem head_zero : hdNum (fun _ => 0) = 0 ∧ hdC (fun _ => 0) = 0 := by
  have h : hdNum (fun _ => 0) = 0 := by unfold hdNum bytesOf; decide
  refine ⟨h, ?_⟩
  unfold hdC
  rw [h]
  split <;> rfl

set_option maxRecDepth 100000 in
set_option maxHeartbeats 8000000 in
theorem headBlock_any (c : Nat) (hc : c < 9223372036854775808) (ra : Option Addr) (rc : Nat) (root : List Nat) (n : Nat) (hn : root.length = n) (hl : n ≤ 64) (hb : ∀ x ∈ root, x < 256) (w : World) (hB : BytesAt w ra root) :
    Calls Tryz.prog 168 #[.agg #[.int .i64 (c : Nat), .slice ra n rc]] w fun e w' => e = .returned (.slice (some ⟨w.heap.size + 1, 0, none⟩) 512 512) ∧ RowAt w' (w.heap.size + 1) 512 (headB c root) ∧ Turn [] w w' := by
  have hmk := make_512
  have hgl : w.heap.size + 1 < ((w.alloc (.cells #[.int .i64 (c : Nat), .slice ra n rc] 118)).alloc (.cells zcells 5)).heap.size := by simp
  have hT0 : Turn [] w ((w.alloc (.cells #[.int .i64 (c : Nat), .slice ra n rc] 118)).alloc (.cells zcells 5)) := ((Turn.refl [] w).alloc _).alloc _
  have hk0 : ((w.alloc (.cells #[.int .i64 (c : Nat), .slice ra n rc] 118)).alloc (.cells zcells 5)).cell? ⟨w.heap.size, 0, none⟩ = some (.int .i64 (c : Nat)) :=
    (World.cell?_alloc_past _ _ _ (by simp)).trans (World.cell?_alloc_at _ _ _ _ rfl)
  have hk1 : ((w.alloc (.cells #[.int .i64 (c : Nat), .slice ra n rc] 118)).alloc (.cells zcells 5)).cell? ⟨w.heap.size, 1, none⟩ = some (.slice ra n rc) :=
    (World.cell?_alloc_past _ _ _ (by simp)).trans (World.cell?_alloc_at _ _ _ _ rfl)
  have HR0 := hide (new_row (w.alloc (.cells #[.int .i64 (c : Nat), .slice ra n rc] 118)))
  rw [show (w.alloc (.cells #[.int .i64 (c : Nat), .slice ra n rc] 118)).heap.size = w.heap.size + 1 by simp] at HR0
  have HB0 := hide (hB.turn hT0 (by simp))
  have HBx := hide (fun (x : Addr) (h1 : root ≠ []) (h2 : ra = some x) => hB.lt x h1 h2)
  have HN := hide hn
  have HBb := hide hb
  clear hB hn hb
  go_enter Tryz.func168, Tryz.ntmps168
  go_wp2_with fail
  generalize hw0 : (w.alloc (.cells #[.int .i64 (c : Nat), .slice ra n rc] 118)).alloc (.cells zcells 5) = w0 at *
  clear hw0 hmk
  have hwr : IntKind.u64.wrap ((c : Nat) : Int) = ((c : Nat) : Int) := by rw [IntKind.wrap_u64]; omega
  have HP := hide (putNumber_any (w.heap.size + 1) 512 4 8 508 c (fun _ => 0) (by omega) (by omega) (by omega) (by omega) w0.drew HR0.out.drew)
  go_region_with (first | (go_at_call 196; refine HP.out.mono ?_; rintro e w2 ⟨rfl, hR2, hT2⟩; have HT2 := hide ((hT0.drew).then hT2 (by simp)); have h20 := (hT2.cell (p := ⟨w.heap.size, 0, none⟩) (show w.heap.size < w0.heap.size by omega) (by simp)).trans hk0; have h21 := (hT2.cell (p := ⟨w.heap.size, 1, none⟩) (show w.heap.size < w0.heap.size by omega) (by simp)).trans hk1; have HB2 := hide (HB0.out.turn (Turn.mk hT2.os hT2.tape hT2.output hT2.size hT2.block : Turn [w.heap.size + 1] w0 w2) (fun x h1 h2 => by have := HBx.out x h1 h2; simp; omega)); have HR2 := hide hR2; clear hR2 hT2))
  clear HP HR0 HB0 hk0 hk1 hT0 hgl
  have h12 := HR2.out.cell 12 (by omega)
  have f12 := HR2.out.fz 12
  have hw8 : IntKind.u8.wrap ((n : Nat) : Int) = ((n : Nat) : Int) := by simp [IntKind.wrap, IntKind.signed, IntKind.bits]; omega
  go_wp2_with fail
  have HR3 := hide (HR2.out.set 12 n (by omega))
  have HT3 := hide (HT2.out.own (g := w.heap.size + 1) (by omega) 12 (.int .u8 (n : Nat)))
  have h30 : (w2.setCell ⟨w.heap.size + 1, 12, none⟩ (.int .u8 (n : Nat))).cell? ⟨w.heap.size, 0, none⟩ = some (.int .i64 (c : Nat)) := (World.cell?_setCell_other _ _ _ _ (by simp)).trans h20
  have h31 : (w2.setCell ⟨w.heap.size + 1, 12, none⟩ (.int .u8 (n : Nat))).cell? ⟨w.heap.size, 1, none⟩ = some (.slice ra n rc) := (World.cell?_setCell_other _ _ _ _ (by simp)).trans h21
  have HB3 := hide (HB2.out.turn ((Turn.refl [w.heap.size + 1] w2).setCell (S := [w.heap.size + 1]) (List.mem_singleton.2 rfl) 12 (.int .u8 (n : Nat))) (fun x h1 h2 => by have := HBx.out x h1 h2; simp; omega))
  generalize w2.setCell ⟨w.heap.size + 1, 12, none⟩ (.int .u8 (n : Nat)) = w3 at *
  clear HR2 HT2 HB2 h20 h21 h12 f12
  have hcp : ∃ v w4, (Builtin.copy_ #[68, 68] 3 #[.slice (some ⟨w.heap.size + 1, 13, none⟩) 499 499, .slice ra n rc]).run Tryz.prog w3.drew = .ok v w4 ∧ RowAt w4 (w.heap.size + 1) 512 (headB0 c root) ∧ Turn [] w w4 := by
    have hn := HN.out
    by_cases hnil : root = []
    · subst hnil
      obtain rfl : 0 = n := hn
      refine ⟨_, _, run_copy_none (P := Tryz.prog) w3.drew 68 68 3 5 _ ra 499 499 0 rc Tryz.underlying68 info5s (by decide), HR3.out.drew.congr fun i hi => ?_, HT3.out.drew⟩
      unfold headB0
      rw [if_neg (by simp)]
      rfl
    · obtain ⟨b, off, rfl, _⟩ := HB3.out.at (k := 0) (List.length_pos_iff.2 hnil)
      refine ⟨_, _, run_copy_cells (P := Tryz.prog) w3.drew 68 68 3 5 (w.heap.size + 1) 13 499 499 ⟨b, off, none⟩ n rc (root.map byteCell) Tryz.underlying68 info5s (by rw [List.length_map]; exact hn.trans (Nat.min_eq_left (by omega)).symm)
        (src_bytes HB3.out) (fun j hj => by rw [HR3.out.drew.cell (13 + j) (by simp at hj; omega)]; rfl) (fun j _ => HR3.out.fz _) (src_one root), (setCells_row HR3.out.drew 13 root (by omega)).congr fun i hi => ?_, setCells_then HT3.out.drew (by omega) _ _⟩
      unfold headB0
      rw [hn]
  obtain ⟨cv, w4, hcp, hR4, hT4⟩ := hcp
  have HR4 := hide hR4
  clear hR4 HR3 HB3
  go_region
  have hlt := headB0_lt c root HBb.out (by have := HN.out; omega)
  have HK := hide (crc_row (w.heap.size + 1) (headB0 c root) hlt w4.drew HR4.out.drew)
  have hcl := hdCrc_lt (headB0 c root) hlt
  have hwr2 : IntKind.u64.wrap ((hdCrc (headB0 c root) : Nat) : Int) = ((hdCrc (headB0 c root) : Nat) : Int) := by rw [IntKind.wrap_u64]; omega
  have HQ := hide (fun w5 (h : RowAt w5 (w.heap.size + 1) 512 (headB0 c root)) => putNumber_any (w.heap.size + 1) 512 0 4 512 (hdCrc (headB0 c root)) (headB0 c root) (by omega) (by omega) (by omega) (by omega) w5 h)
  have HE : Hid (putN (headB0 c root) 0 4 (hdCrc (headB0 c root)) = headB c root) := rfl
  clear hlt hcp h30 h31
  generalize hdCrc (headB0 c root) = cc at *
  go_wp2_with fail
  go_region_with (first
    | (go_at_call 86; refine HK.out.mono ?_; rintro e w5 ⟨rfl, hT5⟩; have HR5 := hide (HR4.out.drew.turn0 hT5); have hT05 := hT4.drew.then hT5 (by simp); clear hT5)
    | (go_at_call 196; refine (HQ.out _ HR5.out).mono ?_; rintro e w6 ⟨rfl, hR6, hT6⟩; have HR6 := hide hR6; have hT06 := hT05.then hT6 (by simp); clear hR6 hT6))
  all_goals
    go_wp2_with fail
    go_ret
    refine ⟨rfl, ?_, hT06⟩
    rw [← HE.out]
    exact HR6.out
end Go.Proofs.YthgpjkcgccdldaaGreatDoor
