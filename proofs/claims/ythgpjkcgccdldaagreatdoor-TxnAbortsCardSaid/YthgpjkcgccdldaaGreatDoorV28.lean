/-
  A page's block and a head's, walked.
  A head's block, walked; what is written is what is read.
-/
import Derived.Test.YthgpjkcgccdldaaGreatDoorV26
import Derived.Test.YthgpjkcgccdldaaGreatDoorV20
import Derived.Deep.QuietTactic

namespace Go.Proofs.YthgpjkcgccdldaaGreatDoor
open Go.RowKit

/-- A page's block. -/
def pageB (l : List Nat) : Nat → Nat := fun i => if i < 2 then l.length / 2 ^ (8 * i) % 256 else if 16 ≤ i ∧ i < 16 + l.length then l.getD (i - 16) 0 else 0

set_option maxRecDepth 100000 in
theorem info5s : (Tryz.prog.info? 5).map (·.size) = some 1 := by kernel_rfl

set_option maxRecDepth 100000 in
set_option maxHeartbeats 4000000 in
theorem pageBlock_any (a : Option Addr) (cap : Nat) (l : List Nat) (n : Nat) (hn : l.length = n) (hl : n ≤ 496) (w : World) (hB : BytesAt w a l) :
    Calls Tryz.prog 163 #[.slice a n cap] w fun e w' => e = .returned (.slice (some ⟨w.heap.size, 0, none⟩) 512 512) ∧ RowAt w' w.heap.size 512 (pageB l) ∧ Turn [] w w' := by
  have hmk := make_512
  have HR := hide (new_row w)
  have HN := hide hn
  have hT0 : Turn [] w (w.alloc (.cells zcells 5)) := (Turn.refl [] w).alloc (.cells zcells 5)
  have HB := hide (hB.turn hT0 (by simp))
  have HBx := hide (fun (x : Addr) (h1 : l ≠ []) (h2 : a = some x) => hB.lt x h1 h2)
  clear hB hn
  go_enter Tryz.func163, Tryz.ntmps163
  go_wp2_with fail
  refine (putNumber_any w.heap.size 512 0 2 512 n (fun _ => 0) (by omega) (by omega) (by omega) (by omega) _ HR.out).mono ?_
  rintro e w2 ⟨rfl, hR2, hT2⟩
  have HB2 := hide (HB.out.turn hT2 (fun x h1 h2 => by have := HBx.out x h1 h2; simp; omega))
  have hTt : Turn [] w w2 := hT0.then hT2 (by simp)
  clear HB HR hT2 hT0
  by_cases hnil : l = []
  · subst hnil
    obtain rfl : 0 = n := HN.out
    have hcp := run_copy_none (P := Tryz.prog) w2 68 68 3 5 (some ⟨w.heap.size, 16, none⟩) a 496 496 0 cap Tryz.underlying68 info5s (by decide)
    have HR2 := hide hR2
    clear hR2
    go_wp2_with fail
    go_ret
    refine ⟨rfl, HR2.out.congr fun i hi => ?_, hTt⟩
    unfold putN pageB
    by_cases h : i < 2
    · rw [if_pos (by omega), if_pos h]; rfl
    · rw [if_neg (by omega), if_neg h, if_neg (by simp)]
  · obtain ⟨b, off, rfl, _⟩ := HB2.out.at (k := 0) (List.length_pos_iff.2 hnil)
    have hcp := run_copy_cells (P := Tryz.prog) w2 68 68 3 5 w.heap.size 16 496 496 ⟨b, off, none⟩ n cap (l.map byteCell) Tryz.underlying68 info5s (by rw [List.length_map]; exact HN.out.trans (Nat.min_eq_left hl).symm)
      (src_bytes HB2.out) (fun j hj => by rw [hR2.cell (16 + j) (by have := HN.out; simp at hj; omega)]; rfl) (fun j _ => hR2.fz _) (src_one l)
    have HR2 := hide hR2
    clear hR2
    go_wp2_with fail
    go_ret
    refine ⟨rfl, (setCells_row HR2.out 16 l (by have := HN.out; omega)).congr fun i hi => ?_, setCells_then hTt (Nat.le_refl _) _ _⟩
    have hn := HN.out
    unfold putN pageB
    by_cases h : i < 2
    · rw [if_neg (by omega), if_pos (by omega), if_pos h, hn]; rfl
    · rw [if_neg h]
      by_cases h2 : 16 ≤ i ∧ i < 16 + l.length
      · rw [if_pos h2, if_pos h2]
      · rw [if_neg h2, if_neg h2, if_neg (by omega)]

set_option maxRecDepth 100000 in
theorem bytesOf_lt {n : Nat} {B : Nat → Nat} (h : ∀ i, B i < 256) : ∀ x ∈ bytesOf n B, x < 256 := by
  intro x hx
  obtain ⟨i, _, rfl⟩ := List.mem_map.1 hx
  exact h i

/-- So many bytes a page's block says it has. -/
def pageLen (B : Nat → Nat) : Nat := min (leNum (bytesOf 2 B)) 496

set_option maxRecDepth 100000 in
set_option maxHeartbeats 4000000 in
theorem pageBytes_any (g : Nat) (B : Nat → Nat) (hb : ∀ i, B i < 256) (w : World) (hR : RowAt w g 512 B) :
    Calls Tryz.prog 91 #[.slice (some ⟨g, 0, none⟩) 512 512] w fun e w' => ∃ o, e = .returned (.slice (some ⟨g, o, none⟩) (pageLen B) (pageLen B)) ∧ (pageLen B = 0 ∨ o = 16) ∧ w' = w := by
  have HN := hide (number_any (some ⟨g, 0, none⟩) 512 (bytesOf 2 B) 2 (bytesOf_length _ _) (by omega) (bytesOf_lt hb) w (by have := hR.bytes 0 2 (by omega); simpa using this))
  have hlt := leNum_lt (bytesOf 2 B) (bytesOf_lt hb)
  rw [bytesOf_length] at hlt
  unfold pageLen
  generalize leNum (bytesOf 2 B) = x at *
  clear hR hb
  by_cases hx : x ≤ 496
  · rw [Nat.min_eq_left hx]
    by_cases h0 : x = 0
    · subst h0
      go_enter Tryz.func91, Tryz.ntmps91
      go_wp2_with fail
      refine HN.out.mono ?_
      rintro e w2 ⟨rfl, rfl⟩
      go_wp2_with fail
      go_ret
      exact ⟨0, rfl, by simp, rfl⟩
    · have h16 : ¬ 16 + x = 16 := by omega
      go_enter Tryz.func91, Tryz.ntmps91
      go_wp2_with fail
      refine HN.out.mono ?_
      rintro e w2 ⟨rfl, rfl⟩
      go_wp2_with fail
      go_ret
      refine ⟨16, ?_, .inr rfl, rfl⟩
      show Ending.returned (.slice (some ⟨g, 16, none⟩) (16 + x - 16) (16 + x - 16)) = _
      rw [Nat.add_sub_cancel_left]
  · rw [Nat.min_eq_right (Nat.le_of_not_le hx)]
    go_enter Tryz.func91, Tryz.ntmps91
    go_wp2_with fail
    refine HN.out.mono ?_
    rintro e w2 ⟨rfl, rfl⟩
    go_wp2_with fail
    go_ret
    exact ⟨16, rfl, .inr rfl, rfl⟩

/- What a head's block says. -/
def hdSum (B : Nat → Nat) : Nat := leNum (bytesOf 4 B)
def hdCrc (B : Nat → Nat) : Nat := Sm.Crc.crc (bytesOf 508 fun i => B (4 + i))
def hdNum (B : Nat → Nat) : Nat := leNum (bytesOf 8 fun i => B (4 + i))
/-- The Commit's number, 0 where the sum is wrong. -/
def hdC (B : Nat → Nat) : Nat := if hdSum B = hdCrc B then hdNum B else 0
def hdR (B : Nat → Nat) : List Nat := if hdSum B = hdCrc B then bytesOf (B 12) fun i => B (13 + i) else []

set_option maxRecDepth 100000 in
theorem RowAt.turn0 {w w' : World} {g n : Nat} {B : Nat → Nat} (h : RowAt w g n B) (hT : Turn [] w w') : RowAt w' g n B := h.turn hT (by simp)

set_option maxRecDepth 100000 in
theorem crc_row (g : Nat) (B : Nat → Nat) (hb : ∀ i, B i < 256) (w : World) (hR : RowAt w g 512 B) :
    Calls Tryz.prog 86 #[.slice (some ⟨g, 4, none⟩) 508 508] w fun e w' => e = .returned (.int .u32 (hdCrc B : Nat)) ∧ Turn [] w w' := by
  have h := Sm.crc_any (some ⟨g, 4, none⟩) 508 (bytesOf 508 fun i => B (4 + i)) (by rw [bytesOf_length]; unfold maxLen; omega) (bytesOf_lt fun i => hb _) w (hR.bytes 4 508 (by omega))
  rw [bytesOf_length] at h
  refine h.mono ?_
  rintro e w' ⟨rfl, hB⟩
  exact ⟨rfl, Turn.of_below hB⟩

set_option maxRecDepth 100000 in
theorem hdCrc_lt (B : Nat → Nat) (hb : ∀ i, B i < 256) : hdCrc B < 4294967296 := Sm.Crc.crc_lt _ (bytesOf_lt fun _ => hb _)

set_option maxRecDepth 100000 in
theorem agg82 (w : World) : Sem.run Tryz.prog (isAgg 118) w = .ok true w := by kernel_rfl
set_option maxRecDepth 100000 in
theorem size82 (w : World) : Sem.run Tryz.prog (sizeOf 118) w = .ok 2 w := by kernel_rfl
set_option maxRecDepth 100000 in
theorem res31 : Tryz.f59.results = #[.cell 2 118] := by kernel_rfl
set_option maxRecDepth 100000 in
theorem load_head (hs : Nat) (W : World) (x y : Value) (h0 : W.cell? ⟨hs, 0, none⟩ = some x) (h1 : W.cell? ⟨hs, 1, none⟩ = some y) :
    (loadVar 118 ⟨hs, 0, none⟩).run Tryz.prog W = .ok (.agg #[x, y]) W := by
  have hl := run_loadCells_list (P := Tryz.prog) W ⟨hs, 0, none⟩ [x, y] (fun j v hj => by
    match j, hj with
    | 0, hj => rw [add_zero]; rw [h0]; exact hj
    | 1, hj => rw [add_spot]; rw [h1]; exact hj
    | j + 2, hj => simp at hj)
  unfold loadVar
  simp only [Sem.run_bind, agg82, size82, Result.andThen, if_true]
  rw [show (2 : Nat) = [x, y].length from rfl, hl]
  rfl
set_option maxRecDepth 100000 in
theorem asAddr_pointer (a : Addr) (P : Program) (w : World) : (asAddr (.pointer (some a))).run P w = .ok a w := rfl
set_option maxRecDepth 100000 in
theorem results_cell1 {fn : Func} {p : Tmp} {ty : TypeId} (h : fn.results = #[.cell p ty]) (tmps : Array Value) (P : Program) (w : World) :
    (results fn tmps).run P w = ((asAddr (tmps.getD p undef)).run P w).andThen fun a w₁ => (loadVar ty a).run P w₁ := by
  simp only [results, h]
  simp [Sem.run_bind, Result.andThen]
set_option maxRecDepth 100000 in
theorem Turn.own {S : List Nat} {u w : World} (h : Turn S u w) {g : Nat} (hg : u.heap.size ≤ g) (o : Nat) (v : Value) : Turn S u (w.setCell ⟨g, o, none⟩ v) :=
  h.then ((Turn.refl [g] w).setCell (S := [g]) (List.mem_singleton.2 rfl) o v) (fun x hx => by rw [List.mem_singleton.1 hx]; exact .inr hg)
set_option maxRecDepth 100000 in
theorem RowAt.other {w : World} {g n b : Nat} {B : Nat → Nat} (h : RowAt w g n B) (hb : g ≠ b) (o : Nat) (v : Value) : RowAt (w.setCell ⟨b, o, none⟩ v) g n B :=
  h.turn ((Turn.refl [b] w).setCell (S := [b]) (List.mem_singleton.2 rfl) o v) (fun hm => hb (List.mem_singleton.1 hm))
set_option maxRecDepth 100000 in
theorem results_head (tmps : Array Value) (hs : Nat) (W : World) (x y : Value) (ht : tmps.getD 2 undef = .pointer (some ⟨hs, 0, none⟩)) (h0 : W.cell? ⟨hs, 0, none⟩ = some x) (h1 : W.cell? ⟨hs, 1, none⟩ = some y) :
    (results Tryz.f59 tmps).run Tryz.prog W = .ok (.agg #[x, y]) W := by
  rw [results_cell1 res31, ht, asAddr_pointer, Result.andThen_ok]
  exact load_head hs W x y h0 h1

set_option maxRecDepth 100000 in
set_option maxHeartbeats 8000000 in
theorem headOf_any (g : Nat) (B : Nat → Nat) (hb : ∀ i, B i < 256) (hc : hdNum B < 9223372036854775808) (w : World) (hR : RowAt w g 512 B) :
    Calls Tryz.prog 59 #[.slice (some ⟨g, 0, none⟩) 512 512] w fun e w' => ∃ ra rc, e = .returned (.agg #[.int .i64 (hdC B : Nat), .slice ra (hdR B).length rc]) ∧ (∀ x, ra = some x → x.block = g) ∧ (ra = none → rc = 0) ∧ BytesAt w' ra (hdR B) ∧ Turn [] w w' := by
  have hgl := hR.lt
  have hT1 : Turn [] w (w.alloc (.cells #[.int .i64 0, .slice none 0 0] 118)) := (Turn.refl [] w).alloc _
  have hk0 : (w.alloc (.cells #[.int .i64 0, .slice none 0 0] 118)).cell? ⟨w.heap.size, 0, none⟩ = some (.int .i64 0) := World.cell?_alloc_at _ _ _ _ rfl
  have hk1 : (w.alloc (.cells #[.int .i64 0, .slice none 0 0] 118)).cell? ⟨w.heap.size, 1, none⟩ = some (.slice none 0 0) := World.cell?_alloc_at _ _ _ _ rfl
  have hkf : ∀ o, (w.alloc (.cells #[.int .i64 0, .slice none 0 0] 118)).frozen? ⟨w.heap.size, o, none⟩ = false := fun o => World.frozen?_alloc_at _ _ _ _ rfl
  have hkl : w.heap.size < (w.alloc (.cells #[.int .i64 0, .slice none 0 0] 118)).heap.size := by simp
  have HR := hide hR
  have HC := hide hc
  have HBb := hide hb
  clear hR hc hb
  go_enter Tryz.func59, Tryz.ntmps59
  go_wp2_with fail
  generalize hw1 : w.alloc (.cells #[.int .i64 0, .slice none 0 0] 118) = w1 at *
  clear hw1
  have HR1 := hide (HR.out.turn0 hT1)
  have HN1 : Hid (∀ w', Turn [] w1 w' → Calls Tryz.prog 85 #[.slice (some ⟨g, 0, none⟩) 4 512] w' fun e w'' => e = .returned (.int .u64 (hdSum B : Nat)) ∧ w'' = w') := hide (fun w' (hT : Turn [] w1 w') => number_any (some ⟨g, 0, none⟩) 512 (bytesOf 4 B) 4 (bytesOf_length _ _) (by omega) (bytesOf_lt HBb.out) w' (by have := (HR1.out.turn0 hT).bytes 0 4 (by omega); simpa using this))
  have HK := hide (fun w' (hT : Turn [] w1 w') => crc_row g B HBb.out w' (HR1.out.turn0 hT))
  have hcl := hdCrc_lt B HBb.out
  have hwr : IntKind.u64.wrap ((hdCrc B : Nat) : Int) = ((hdCrc B : Nat) : Int) := by rw [IntKind.wrap_u64]; omega
  go_region_with (first
    | (go_at_call 85; refine (HN1.out _ ?_).mono ?_; (first | exact (Turn.refl [] w1).drew | exact HTc.out); rintro e w9 ⟨rfl, rfl⟩)
    | (go_at_call 86; refine (HK.out _ ?_).mono ?_; exact (Turn.refl [] w1).drew; rintro e wc ⟨rfl, hTc0⟩; have HTc := hide (((Turn.refl [] w1).drew).then hTc0 (by simp)); clear hTc0))
  have h0 := (HTc.out.cell (p := ⟨w.heap.size, 0, none⟩) hkl (by simp)).trans hk0
  have h1 := (HTc.out.cell (p := ⟨w.heap.size, 1, none⟩) hkl (by simp)).trans hk1
  have hf : ∀ o, wc.frozen? ⟨w.heap.size, o, none⟩ = false := fun o => (World.frozen?_of_block (a := ⟨w.heap.size, o, none⟩) (HTc.out.block _ hkl (by simp))).trans (hkf o)
  have hf0 := hf 0
  have hf1 := hf 1
  have HRc := hide (HR1.out.turn0 HTc.out)
  have HTw := hide (hT1.then HTc.out (by simp))
  clear hk0 hk1 hkf hf hkl hT1 HK HN1 HR1 HTc
  by_cases hm : hdSum B = hdCrc B
  · have HN2 : Hid (Calls Tryz.prog 85 #[.slice (some ⟨g, 4, none⟩) 8 508] wc fun e w'' => e = .returned (.int .u64 (hdNum B : Nat)) ∧ w'' = wc) := hide (number_any (some ⟨g, 4, none⟩) 508 (bytesOf 8 fun i => B (4 + i)) 8 (bytesOf_length _ _) (by omega) (bytesOf_lt fun i => HBb.out _) wc (HRc.out.bytes 4 8 (by omega)))
    have h12 := HRc.out.cell 12 (by omega)
    have hb12 := HBb.out 12
    have hcc := HC.out
    have HE : Hid (hdC B = hdNum B ∧ hdR B = bytesOf (B 12) fun i => B (13 + i)) := by
      constructor
      · show hdC B = _; unfold hdC; rw [if_pos hm]
      · show hdR B = _; unfold hdR; rw [if_pos hm]
    generalize hdSum B = n4 at *
    generalize hdCrc B = cc at *
    generalize hdNum B = cn at *
    generalize hr : B 12 = r at *
    subst hm
    go_wp2_with fail
    refine HN2.out.mono ?_
    rintro e w9 ⟨rfl, rfl⟩
    go_wp2_with fail
    have HTf := hide (((HTw.out.own (Nat.le_refl _) 0 (.int .i64 (cn : Nat)))).own (Nat.le_refl _) 1 (.slice (some ⟨g, 13, none⟩) r 499))
    have HRf := hide ((HRc.out.other (Nat.ne_of_lt hgl) 0 (.int .i64 (cn : Nat))).other (Nat.ne_of_lt hgl) 1 (.slice (some ⟨g, 13, none⟩) r 499))
    try simp only [Exit.inBlock, Exit.then]
    refine bodyPost_ret (results_head _ w.heap.size _ (.int .i64 (cn : Nat)) (.slice (some ⟨g, 13, none⟩) r 499) rfl ?_ ?_) rfl ?_
    · rw [World.cell?_setCell_other _ _ _ _ (off_ne (by omega))]; exact World.cell?_setCell_same _ _ _ h0
    · exact World.cell?_setCell_same _ _ _ ((World.cell?_setCell_other _ _ _ _ (off_ne (by omega))).trans h1)
    · refine ⟨some ⟨g, 13, none⟩, 499, ?_, ?_, by simp, ?_, HTf.out⟩
      · rw [HE.out.1, HE.out.2, bytesOf_length]
      · intro x hx; obtain rfl := Option.some.inj hx; rfl
      · rw [HE.out.2]
        exact HRf.out.bytes 13 r (by omega)
  · have HE : Hid (hdC B = 0 ∧ hdR B = []) := by
      constructor
      · show hdC B = _; unfold hdC; rw [if_neg hm]
      · show hdR B = _; unfold hdR; rw [if_neg hm]
    generalize hdSum B = n4 at *
    generalize hdCrc B = cc at *
    have t1 : ((n4 : Int) != (cc : Int)) = true := by rw [bne_iff_ne]; omega
    go_wp2_with fail
    have HTf := hide (((HTw.out.own (Nat.le_refl _) 0 (.int .i64 0))).own (Nat.le_refl _) 1 (.slice none 0 0))
    try simp only [Exit.inBlock, Exit.then]
    refine bodyPost_ret (results_head _ w.heap.size _ (.int .i64 0) (.slice none 0 0) rfl ?_ ?_) rfl ?_
    · rw [World.cell?_setCell_other _ _ _ _ (off_ne (by omega))]; exact World.cell?_setCell_same _ _ _ h0
    · exact World.cell?_setCell_same _ _ _ ((World.cell?_setCell_other _ _ _ _ (off_ne (by omega))).trans h1)
    · refine ⟨none, 0, ?_, by simp, by simp, ?_, HTf.out⟩
      · rw [HE.out.1, HE.out.2]; rfl
      · rw [HE.out.2]; exact .inl rfl
end Go.Proofs.YthgpjkcgccdldaaGreatDoor

namespace Go.Proofs.YthgpjkcgccdldaaGreatDoor
open Go.RowKit

/-- A head's bytes, its sum aside. -/
def headB0 (c : Nat) (root : List Nat) : Nat → Nat := fun i => if 13 ≤ i ∧ i < 13 + root.length then root.getD (i - 13) 0 else setB (putN (fun _ => 0) 4 8 c) 12 root.length i
def headB (c : Nat) (root : List Nat) : Nat → Nat := putN (headB0 c root) 0 4 (hdCrc (headB0 c root))

set_option maxRecDepth 100000 in
theorem hdCrc_headB (c : Nat) (root : List Nat) : hdCrc (headB c root) = hdCrc (headB0 c root) := by
  have e : (bytesOf 508 fun i => headB c root (4 + i)) = bytesOf 508 fun i => headB0 c root (4 + i) := bytesOf_congr fun i _ => by
    unfold headB putN
    rw [if_neg (by omega)]
  unfold hdCrc
  rw [e]

set_option maxRecDepth 100000 in
theorem putN_lt {B : Nat → Nat} (h : ∀ i, B i < 256) (off k x : Nat) : ∀ i, putN B off k x i < 256 := by
  intro i
  unfold putN
  split
  · exact Nat.mod_lt _ (by decide)
  · exact h i

set_option maxRecDepth 100000 in
theorem headB0_lt (c : Nat) (root : List Nat) (hb : ∀ x ∈ root, x < 256) (hl : root.length ≤ 64) : ∀ i, headB0 c root i < 256 := by
  intro i
  unfold headB0
  split
  · rename_i h
    rw [List.getD_eq_getElem?_getD, List.getElem?_eq_getElem (by omega)]
    exact hb _ (List.getElem_mem _)
  · unfold setB
    split
    · omega
    · exact putN_lt (fun _ => by omega) _ _ _ i
set_option maxRecDepth 100000 in
theorem headB_lt (c : Nat) (root : List Nat) (hb : ∀ x ∈ root, x < 256) (hl : root.length ≤ 64) : ∀ i, headB c root i < 256 := putN_lt (headB0_lt c root hb hl) _ _ _

set_option maxRecDepth 100000 in
/-- What is written is what is read. -/
theorem head_back (c : Nat) (hc : c < 9223372036854775808) (root : List Nat) (hb : ∀ x ∈ root, x < 256) (hl : root.length ≤ 64) : hdNum (headB c root) = c ∧ hdC (headB c root) = c ∧ hdR (headB c root) = root := by
  have h1 : hdSum (headB c root) = hdCrc (headB c root) := by
    rw [hdCrc_headB]
    have := leNum_put (headB0 c root) 0 4 (hdCrc (headB0 c root))
    have e : (bytesOf 4 fun i => putN (headB0 c root) 0 4 (hdCrc (headB0 c root)) (0 + i)) = bytesOf 4 (headB c root) := bytesOf_congr fun i _ => by rw [Nat.zero_add]; rfl
    rw [e] at this
    unfold hdSum
    rw [this]
    exact Nat.mod_eq_of_lt (hdCrc_lt _ (headB0_lt c root hb hl))
  have hi : ∀ i, 4 ≤ i → headB c root i = headB0 c root i := fun i h => by unfold headB putN; rw [if_neg (by omega)]
  have h2 : hdNum (headB c root) = c := by
    have := leNum_put (fun _ => 0) 4 8 c
    have e : (bytesOf 8 fun i => putN (fun _ => 0) 4 8 c (4 + i)) = bytesOf 8 fun i => headB c root (4 + i) := bytesOf_congr fun i h => by
      rw [hi _ (by omega)]
      unfold headB0 setB
      rw [if_neg (by omega), if_neg (by omega)]
    rw [e] at this
    unfold hdNum
    rw [this]
    exact Nat.mod_eq_of_lt (by omega)
  refine ⟨h2, by unfold hdC; rw [if_pos h1, h2], ?_⟩
  unfold hdR
  rw [if_pos h1, hi 12 (by omega)]
  have e12 : headB0 c root 12 = root.length := by unfold headB0 setB; rw [if_neg (by omega), if_pos rfl]
  rw [e12]
  have e : (bytesOf root.length fun i => headB c root (13 + i)) = bytesOf root.length fun i => root.getD i 0 := bytesOf_congr fun i h => by
    rw [hi _ (by omega)]
    unfold headB0
    rw [if_pos (by omega), Nat.add_sub_cancel_left]
  rw [e]
  exact bytesOf_list root

set_option maxRecDepth 100000 in
/-- Noughts are no Commit's head. -/
theorem head_zero : hdNum (fun _ => 0) = 0 ∧ hdC (fun _ => 0) = 0 := by
  have h : hdNum (fun _ => 0) = 0 := by unfold hdNum bytesOf; decide
  refine ⟨h, ?_⟩
  unfold hdC
  rw [h]
  split <;> rfl

set_option maxRecDepth 100000 in
set_option maxHeartbeats 8000000 in
theorem headBlock_any (c : Nat) (hc : c < 9223372036854775808) (ra : Option Addr) (rc : Nat) (root : List Nat) (n : Nat) (hn : root.length = n) (hl : n ≤ 64) (hb : ∀ x ∈ root, x < 256) (w : World) (hB : BytesAt w ra root) :
    Calls Tryz.prog 168 #[.agg #[.int .i64 (c : Nat), .slice ra n rc]] w fun e w' => e = .returned (.slice (some ⟨w.heap.size + 1, 0, none⟩) 512 512) ∧ RowAt w' (w.heap.size + 1) 512 (headB c root) ∧ Turn [] w w' := by
  have hmk := make_512
  have hgl : w.heap.size + 1 < ((w.alloc (.cells #[.int .i64 (c : Nat), .slice ra n rc] 118)).alloc (.cells zcells 5)).heap.size := by simp
  have hT0 : Turn [] w ((w.alloc (.cells #[.int .i64 (c : Nat), .slice ra n rc] 118)).alloc (.cells zcells 5)) := ((Turn.refl [] w).alloc _).alloc _
  have hk0 : ((w.alloc (.cells #[.int .i64 (c : Nat), .slice ra n rc] 118)).alloc (.cells zcells 5)).cell? ⟨w.heap.size, 0, none⟩ = some (.int .i64 (c : Nat)) :=
    (World.cell?_alloc_past _ _ _ (by simp)).trans (World.cell?_alloc_at _ _ _ _ rfl)
  have hk1 : ((w.alloc (.cells #[.int .i64 (c : Nat), .slice ra n rc] 118)).alloc (.cells zcells 5)).cell? ⟨w.heap.size, 1, none⟩ = some (.slice ra n rc) :=
    (World.cell?_alloc_past _ _ _ (by simp)).trans (World.cell?_alloc_at _ _ _ _ rfl)
  have HR0 := hide (new_row (w.alloc (.cells #[.int .i64 (c : Nat), .slice ra n rc] 118)))
  rw [show (w.alloc (.cells #[.int .i64 (c : Nat), .slice ra n rc] 118)).heap.size = w.heap.size + 1 by simp] at HR0
  have HB0 := hide (hB.turn hT0 (by simp))
  have HBx := hide (fun (x : Addr) (h1 : root ≠ []) (h2 : ra = some x) => hB.lt x h1 h2)
  have HN := hide hn
  have HBb := hide hb
  clear hB hn hb
  go_enter Tryz.func168, Tryz.ntmps168
  go_wp2_with fail
  generalize hw0 : (w.alloc (.cells #[.int .i64 (c : Nat), .slice ra n rc] 118)).alloc (.cells zcells 5) = w0 at *
  clear hw0 hmk
  have hwr : IntKind.u64.wrap ((c : Nat) : Int) = ((c : Nat) : Int) := by rw [IntKind.wrap_u64]; omega
  have HP := hide (putNumber_any (w.heap.size + 1) 512 4 8 508 c (fun _ => 0) (by omega) (by omega) (by omega) (by omega) w0.drew HR0.out.drew)
  go_region_with (first | (go_at_call 196; refine HP.out.mono ?_; rintro e w2 ⟨rfl, hR2, hT2⟩; have HT2 := hide ((hT0.drew).then hT2 (by simp)); have h20 := (hT2.cell (p := ⟨w.heap.size, 0, none⟩) (show w.heap.size < w0.heap.size by omega) (by simp)).trans hk0; have h21 := (hT2.cell (p := ⟨w.heap.size, 1, none⟩) (show w.heap.size < w0.heap.size by omega) (by simp)).trans hk1; have HB2 := hide (HB0.out.turn (Turn.mk hT2.os hT2.tape hT2.output hT2.size hT2.block : Turn [w.heap.size + 1] w0 w2) (fun x h1 h2 => by have := HBx.out x h1 h2; simp; omega)); have HR2 := hide hR2; clear hR2 hT2))
  clear HP HR0 HB0 hk0 hk1 hT0 hgl
  have h12 := HR2.out.cell 12 (by omega)
  have f12 := HR2.out.fz 12
  have hw8 : IntKind.u8.wrap ((n : Nat) : Int) = ((n : Nat) : Int) := by simp [IntKind.wrap, IntKind.signed, IntKind.bits]; omega
  go_wp2_with fail
  have HR3 := hide (HR2.out.set 12 n (by omega))
  have HT3 := hide (HT2.out.own (g := w.heap.size + 1) (by omega) 12 (.int .u8 (n : Nat)))
  have h30 : (w2.setCell ⟨w.heap.size + 1, 12, none⟩ (.int .u8 (n : Nat))).cell? ⟨w.heap.size, 0, none⟩ = some (.int .i64 (c : Nat)) := (World.cell?_setCell_other _ _ _ _ (by simp)).trans h20
  have h31 : (w2.setCell ⟨w.heap.size + 1, 12, none⟩ (.int .u8 (n : Nat))).cell? ⟨w.heap.size, 1, none⟩ = some (.slice ra n rc) := (World.cell?_setCell_other _ _ _ _ (by simp)).trans h21
  have HB3 := hide (HB2.out.turn ((Turn.refl [w.heap.size + 1] w2).setCell (S := [w.heap.size + 1]) (List.mem_singleton.2 rfl) 12 (.int .u8 (n : Nat))) (fun x h1 h2 => by have := HBx.out x h1 h2; simp; omega))
  generalize w2.setCell ⟨w.heap.size + 1, 12, none⟩ (.int .u8 (n : Nat)) = w3 at *
  clear HR2 HT2 HB2 h20 h21 h12 f12
  have hcp : ∃ v w4, (Builtin.copy_ #[68, 68] 3 #[.slice (some ⟨w.heap.size + 1, 13, none⟩) 499 499, .slice ra n rc]).run Tryz.prog w3.drew = .ok v w4 ∧ RowAt w4 (w.heap.size + 1) 512 (headB0 c root) ∧ Turn [] w w4 := by
    have hn := HN.out
    by_cases hnil : root = []
    · subst hnil
      obtain rfl : 0 = n := hn
      refine ⟨_, _, run_copy_none (P := Tryz.prog) w3.drew 68 68 3 5 _ ra 499 499 0 rc Tryz.underlying68 info5s (by decide), HR3.out.drew.congr fun i hi => ?_, HT3.out.drew⟩
      unfold headB0
      rw [if_neg (by simp)]
      rfl
    · obtain ⟨b, off, rfl, _⟩ := HB3.out.at (k := 0) (List.length_pos_iff.2 hnil)
      refine ⟨_, _, run_copy_cells (P := Tryz.prog) w3.drew 68 68 3 5 (w.heap.size + 1) 13 499 499 ⟨b, off, none⟩ n rc (root.map byteCell) Tryz.underlying68 info5s (by rw [List.length_map]; exact hn.trans (Nat.min_eq_left (by omega)).symm)
        (src_bytes HB3.out) (fun j hj => by rw [HR3.out.drew.cell (13 + j) (by simp at hj; omega)]; rfl) (fun j _ => HR3.out.fz _) (src_one root), (setCells_row HR3.out.drew 13 root (by omega)).congr fun i hi => ?_, setCells_then HT3.out.drew (by omega) _ _⟩
      unfold headB0
      rw [hn]
  obtain ⟨cv, w4, hcp, hR4, hT4⟩ := hcp
  have HR4 := hide hR4
  clear hR4 HR3 HB3
  go_region
  have hlt := headB0_lt c root HBb.out (by have := HN.out; omega)
  have HK := hide (crc_row (w.heap.size + 1) (headB0 c root) hlt w4.drew HR4.out.drew)
  have hcl := hdCrc_lt (headB0 c root) hlt
  have hwr2 : IntKind.u64.wrap ((hdCrc (headB0 c root) : Nat) : Int) = ((hdCrc (headB0 c root) : Nat) : Int) := by rw [IntKind.wrap_u64]; omega
  have HQ := hide (fun w5 (h : RowAt w5 (w.heap.size + 1) 512 (headB0 c root)) => putNumber_any (w.heap.size + 1) 512 0 4 512 (hdCrc (headB0 c root)) (headB0 c root) (by omega) (by omega) (by omega) (by omega) w5 h)
  have HE : Hid (putN (headB0 c root) 0 4 (hdCrc (headB0 c root)) = headB c root) := rfl
  clear hlt hcp h30 h31
  generalize hdCrc (headB0 c root) = cc at *
  go_wp2_with fail
  go_region_with (first
    | (go_at_call 86; refine HK.out.mono ?_; rintro e w5 ⟨rfl, hT5⟩; have HR5 := hide (HR4.out.drew.turn0 hT5); have hT05 := hT4.drew.then hT5 (by simp); clear hT5)
    | (go_at_call 196; refine (HQ.out _ HR5.out).mono ?_; rintro e w6 ⟨rfl, hR6, hT6⟩; have HR6 := hide hR6; have hT06 := hT05.then hT6 (by simp); clear hR6 hT6))
  all_goals
    go_wp2_with fail
    go_ret
    refine ⟨rfl, ?_, hT06⟩
    rw [← HE.out]
    exact HR6.out
end Go.Proofs.YthgpjkcgccdldaaGreatDoor
