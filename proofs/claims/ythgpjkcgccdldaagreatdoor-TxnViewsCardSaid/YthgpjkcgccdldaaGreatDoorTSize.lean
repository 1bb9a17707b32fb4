/-
  A leaf's sizes; total.
-/
import Derived.Test.YthgpjkcgccdldaaGreatDoorTNode
namespace Go.Proofs.YthgpjkcgccdldaaGreatDoor
open Go.RowKit Go.Maps

/-- Ints that a slice leads to. -/
def IntRow (w : World) (b : Nat) (l : List Nat) : Prop := ∀ i (h : i < l.length), w.cell? ⟨b, i, none⟩ = some (.int .i64 (l[i] : Nat))
theorem IntRow.turn0 {w w' : World} {b : Nat} {l : List Nat} (h : IntRow w b l) (hT : Turn [] w w') : IntRow w' b l := fun i hi => (hT.cell (p := ⟨b, i, none⟩) (lt_of_cell (h i hi)) (by simp)).trans (h i hi)

def sumN (l : List Nat) : Nat := l.foldl (· + ·) 0
theorem sumN_take (l : List Nat) (i : Nat) (h : i < l.length) : sumN (l.take (i + 1)) = sumN (l.take i) + l[i] := by
  unfold sumN
  rw [List.take_succ_eq_append_getElem h, List.foldl_append]
  rfl
theorem foldl_add (l : List Nat) (a : Nat) : l.foldl (· + ·) a = a + sumN l := by
  unfold sumN
  induction l generalizing a with
  | nil => rfl
  | cons x l ih =>
    simp only [List.foldl_cons]
    rw [ih (a + x), ih (0 + x)]
    omega
theorem sumN_append (a b : List Nat) : sumN (a ++ b) = sumN a + sumN b := by
  show (a ++ b).foldl _ 0 = _
  rw [List.foldl_append, foldl_add]
  rfl
theorem sumN_le (l : List Nat) (i : Nat) : sumN (l.take i) ≤ sumN l := by
  have h : sumN l = sumN (l.take i) + sumN (l.drop i) := by rw [← sumN_append, List.take_append_drop]
  omega

set_option maxRecDepth 100000 in
set_option maxHeartbeats 1600000 in
theorem total_any (b cap : Nat) (l : List Nat) (hlen : l.length ≤ 1000) (hsum : sumN l ≤ 1000000) (w : World) (hR : IntRow w b l) :
    Calls Tryz.prog 156 #[.slice (some ⟨b, 0, none⟩) l.length cap] w fun e w' => e = .returned (.int .i64 (sumN l : Nat)) ∧ w' = w := by
  have HR := hide hR
  clear hR
  go_enter Tryz.func156, Tryz.ntmps156
  go_wp2_with fail
  go_loop [3, 5, 8] (fun s _ i => ∃ j : Nat, j ≤ l.length ∧ i = .int .i64 j ∧ s = .int .i64 (sumN (l.take j) : Nat)) (fun _ _ i => l.length - (intOf i).toNat)
  case atStart => exact ⟨0, Nat.zero_le _, rfl, rfl⟩
  case round =>
    obtain ⟨j, hj, rfl, rfl⟩ := hrel
    have hs := sumN_le l j
    by_cases hlt : j < l.length
    · have hc := HR.out j hlt
      have hs1 := sumN_le l (j + 1)
      have HS := hide (sumN_take l j hlt)
      have hs2 : sumN (l.take j) + l[j] ≤ 1000000 := by rw [← HS.out]; omega
      clear hs1
      generalize l[j] = k at *
      generalize sumN (l.take j) = tt at *
      go_wp2_with fail
      go_round
      case rel => exact ⟨j + 1, by omega, by go_num, by rw [HS.out]; go_num⟩
      case measure => simp [intOf]; omega
    · obtain rfl : j = l.length := by omega
      go_wp2_with fail
      go_ret
      exact ⟨rfl, rfl⟩

/-- Bytes that an entry takes. -/
def kvSize (x : ByteArray × ByteArray) : Nat := 2 + x.1.size + x.2.size
def lsizes (l : List (ByteArray × ByteArray)) : List Nat := l.map kvSize

theorem info3 : (Tryz.prog.info? 3).map (fun i => (i.zero, i.size, i.bytes)) = some (some (.int .i64 0), 1, 8) := by kernel_rfl

/-- The row of sizes, as far as it was filled. -/
structure SizesAt (w : World) (b : Nat) (l : List Nat) (j : Nat) : Prop where
  done : ∀ i (h : i < l.length), i < j → w.cell? ⟨b, i, none⟩ = some (.int .i64 (l[i] : Nat))
  rest : ∀ i, i < l.length → j ≤ i → w.cell? ⟨b, i, none⟩ = some (.int .i64 0)
  fz : ∀ o, w.frozen? ⟨b, o, none⟩ = false

theorem make_ints (n : Nat) (hn : n ≤ 1000000) (w : World) : (Instr.makeSlice 60 (.int .i64 (n : Nat)) (.int .i64 (n : Nat))).run Tryz.prog w = .ok (.slice (some ⟨w.heap.size, 0, none⟩) n n) (w.alloc (.cells (List.replicate n (Value.int .i64 0)).toArray 3)) := by
  obtain ⟨i0, hi, hz0, hz1, hz2⟩ := info_parts info3
  have h := run_make (P := Tryz.prog) w 60 3 i0 (.int .i64 0) Tryz.underlying60 hi hz0 .i64 .i64 (n : Int) (n : Int) (by omega) (by omega) (by rw [hz2]; omega) (by omega)
  have e : madeCells (Value.int .i64 0).cells (((n : Nat) : Int).toNat * i0.size) = (List.replicate n (Value.int .i64 0)).toArray := by
    rw [hz1]
    apply Array.toList_inj.1
    rw [show (Value.int .i64 0).cells = #[Value.int .i64 0] from rfl, toList_madeCells_one, List.toList_toArray]
    simp
  rw [e] at h
  simpa using h

theorem SizesAt.new (w : World) (l : List Nat) : SizesAt (w.alloc (.cells (List.replicate l.length (Value.int .i64 0)).toArray 3)) w.heap.size l 0 :=
  ⟨fun i _ h => absurd h (Nat.not_lt_zero _), fun i hi _ => by
    rw [World.cell?_alloc_at _ _ _ _ rfl, List.getElem?_toArray, List.getElem?_replicate, if_pos hi], fun o => World.frozen?_alloc_at _ _ _ _ rfl⟩

theorem SizesAt.turn0 {w w' : World} {b : Nat} {l : List Nat} {j : Nat} (h : SizesAt w b l j) (hb : b < w.heap.size) (hT : Turn [] w w') : SizesAt w' b l j :=
  ⟨fun i hi hj => (hT.cell (p := ⟨b, i, none⟩) hb (by simp)).trans (h.done i hi hj), fun i hi hj => (hT.cell (p := ⟨b, i, none⟩) hb (by simp)).trans (h.rest i hi hj), fun o => (World.frozen?_of_block (a := ⟨b, o, none⟩) (hT.block b hb (by simp))).trans (h.fz o)⟩

theorem SizesAt.put {w : World} {b : Nat} {l : List Nat} {j : Nat} (h : SizesAt w b l j) (hj : j < l.length) : SizesAt (w.setCell ⟨b, j, none⟩ (.int .i64 (l[j] : Nat))) b l (j + 1) := by
  refine ⟨fun i hi hlt => ?_, fun i hi hle => ?_, fun o => by rw [World.frozen?_setCell]; exact h.fz o⟩
  · by_cases e : i = j
    · subst e
      exact World.cell?_setCell_same _ _ _ (h.rest i hi (Nat.le_refl _))
    · exact (World.cell?_setCell_other _ _ _ _ (off_ne (Ne.symm e))).trans (h.done i hi (by omega))
  · exact (World.cell?_setCell_other _ _ _ _ (off_ne (by omega))).trans (h.rest i hi (by omega))

theorem lsizes_length (l : List (ByteArray × ByteArray)) : (lsizes l).length = l.length := by simp [lsizes]

set_option maxRecDepth 100000 in
set_option maxHeartbeats 3200000 in
theorem lsizes_any (a : Option Addr) (cap : Nat) (l : List (ByteArray × ByteArray)) (hlen : l.length ≤ 1000) (hb : ∀ x ∈ l, x.1.size ≤ 1000 ∧ x.2.size ≤ 1000) (w : World) (hK : KVsAt w a l) :
    Calls Tryz.prog 234 #[.slice a l.length cap] w fun e w' => e = .returned (.slice (some ⟨w.heap.size, 0, none⟩) l.length l.length) ∧ IntRow w' w.heap.size (lsizes l) ∧ Turn [] w w' := by
  have HK := hide hK
  have hmk := make_ints l.length (by omega)
  have hN := SizesAt.new w (lsizes l)
  rw [lsizes_length] at hN
  have HN := hide hN
  have HB := hide hb
  have hT0 : Turn [] w (w.alloc (.cells (List.replicate l.length (Value.int .i64 0)).toArray 3)) := (Turn.refl [] w).alloc _
  have HT0 := hide hT0
  have hs0 : w.heap.size < (w.alloc (.cells (List.replicate l.length (Value.int .i64 0)).toArray 3)).heap.size := by simp
  clear hK hN hb hT0
  go_enter Tryz.func234, Tryz.ntmps234
  generalize (List.replicate l.length (Value.int .i64 0)).toArray = Z at *
  go_wp2_with fail
  generalize hw0 : w.alloc (.cells Z 3) = w0 at *
  clear hw0 hmk
  go_loopw [4, 5, 11] (fun _ _ i wr => ∃ j : Nat, j ≤ l.length ∧ i = .int .i64 j ∧ SizesAt wr w.heap.size (lsizes l) j ∧ Turn [] w wr ∧ w.heap.size < wr.heap.size) (fun _ _ i _ => l.length - (intOf i).toNat)
  case atStart => exact ⟨0, Nat.zero_le _, rfl, HN.out, HT0.out, hs0⟩
  case round =>
    obtain ⟨j, hj, rfl, hS, hT, hlt⟩ := hrel
    have HS := hide hS
    have HT := hide hT
    clear hS hT
    by_cases hjl : j < l.length
    · obtain ⟨b, off, rfl, hc, hd⟩ := (HK.out.turn0 HT.out).at hjl
      obtain ⟨hb1, hb2⟩ := HB.out l[j] (List.getElem_mem hjl)
      have hjs : j < (lsizes l).length := by rw [lsizes_length]; exact hjl
      have HE : Hid ((lsizes l)[j] = kvSize l[j]) := by show _ = _; simp [lsizes]
      have HSj := hide (HS.out.turn0 hlt (((Turn.refl [] wr).alloc (.cells #[.string l[j].1, .string l[j].2] 55))))
      have hz := HSj.out.rest j hjs (Nat.le_refl _)
      have hf := HSj.out.fz j
      have hbl := lt_of_cell hc
      go_wp2_with fail
      have hv : Value.int .i64 (1 + (l[j].1.size : Int) + 1 + (l[j].2.size : Int)) = .int .i64 ((lsizes l)[j] : Nat) := by
        rw [HE.out]
        unfold kvSize
        congr 1
        omega
      go_roundw
      case rel =>
        refine ⟨j + 1, by omega, by go_num, ?_, ?_, ?_⟩
        · rw [hv]
          exact (HS.out.put hjs).turn0 (by rw [World.size_setCell]; exact hlt) ((Turn.refl [] _).alloc _)
        · exact (HT.out.then ((Turn.refl [w.heap.size] wr).setCell (List.mem_singleton.2 rfl) j _) (by simp)).alloc _
        · simp
          omega
      case measure => simp [intOf]; omega
    · obtain rfl : j = l.length := by omega
      go_wp2_with fail
      go_ret
      exact ⟨rfl, fun i hi => HS.out.done i hi (by rw [lsizes_length] at hi; exact hi), HT.out⟩
end Go.Proofs.YthgpjkcgccdldaaGreatDoor
