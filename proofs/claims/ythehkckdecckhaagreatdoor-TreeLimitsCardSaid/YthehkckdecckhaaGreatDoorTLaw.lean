/-
  What the laws of trees call: within, May, row, length.
-/
import Derived.Test.YthehkckdecckhaaGreatDoorTOpen
import Derived.Test.YthehkckdecckhaaGreatDoorTPut2
namespace Go.Proofs.YthehkckdecckhaaGreatDoor
open Go.RowKit Go.Maps

set_option maxRecDepth 100000 in
set_option maxHeartbeats 1600000 in
theorem within_any (a : Int) (n : Nat) (hn : 0 < n) (hn2 : n ≤ 1000000) (w : World) : Calls Tryz.prog 11 #[.int .i64 a, .int .i64 (n : Nat)] w fun e w' => (∃ k : Nat, k < n ∧ e = .returned (.int .i64 (k : Nat))) ∧ w' = w := by
  have h1 := Int.tmod_lt_of_pos a (show (0 : Int) < n by omega)
  have h2 := Int.lt_tmod_of_pos a (show (0 : Int) < n by omega)
  generalize hy : a.tmod n = y at *
  by_cases h : y < 0
  · have t1 : decide (y < 0) = true := by simpa using h
    obtain ⟨k, hk⟩ := Int.eq_ofNat_of_zero_le (show 0 ≤ y + n by omega)
    go_enter Tryz.func11, Tryz.ntmps11
    go_wp2
    go_ret
    exact ⟨⟨k, by omega, rfl⟩, rfl⟩
  · have t1 : decide (y < 0) = false := by simp; omega
    obtain ⟨k, hk⟩ := Int.eq_ofNat_of_zero_le (show 0 ≤ y by omega)
    go_enter Tryz.func11, Tryz.ntmps11
    go_wp2
    go_ret
    exact ⟨⟨k, by omega, rfl⟩, rfl⟩

set_option maxRecDepth 100000 in

theorem textOf_size (l : List Nat) : (textOf l).size = l.length := by
  unfold textOf
  rw [strOfNums_size, List.length_map]

set_option maxRecDepth 100000 in
set_option maxHeartbeats 1600000 in
theorem length_any (f : Bool) (n : Nat) (w : World) : Calls Tryz.prog 33 #[.bool f, .int .i64 (n : Nat)] w fun e w' => e = .returned (.int .i64 (if f = true then n else 0 : Nat)) ∧ w' = w := by
  cases f with
  | true =>
    go_enter Tryz.func33, Tryz.ntmps33
    go_wp2_with fail
    go_ret
    exact ⟨rfl, rfl⟩
  | false =>
    go_enter Tryz.func33, Tryz.ntmps33
    go_wp2_with fail
    go_ret
    exact ⟨rfl, rfl⟩

/-- What is wrong with a key and a value. -/
def mayE (k v : ByteArray) : Int := if k.size = 0 ∨ 48 < k.size then 1 else if 120 < v.size then 5 else 0

set_option maxRecDepth 100000 in
set_option maxHeartbeats 1600000 in
theorem may_any (k v : ByteArray) (hkl : k.size ≤ 1000000) (hvl : v.size ≤ 1000000) (w : World) : Calls Tryz.prog 13 #[.string k, .string v] w fun e w' => e = .returned (.int .i64 (mayE k v)) ∧ w' = w := by
  have hk0 := toList_empty k
  unfold mayE
  by_cases h1 : k.size = 0
  · rw [if_pos (.inl h1)]
    rw [decide_eq_true h1] at hk0
    go_enter Tryz.func13, Tryz.ntmps13
    go_wp2_with fail
    go_ret
    exact ⟨rfl, rfl⟩
  · rw [decide_eq_false h1] at hk0
    by_cases h2 : 48 < k.size
    · rw [if_pos (.inr h2)]
      go_enter Tryz.func13, Tryz.ntmps13
      go_wp2_with fail
      go_ret
      exact ⟨rfl, rfl⟩
    · rw [if_neg (by omega)]
      by_cases h3 : 120 < v.size
      · rw [if_pos h3]
        go_enter Tryz.func13, Tryz.ntmps13
        go_wp2_with fail
        go_ret
        exact ⟨rfl, rfl⟩
      · rw [if_neg h3]
        go_enter Tryz.func13, Tryz.ntmps13
        go_wp2_with fail
        go_ret
        exact ⟨rfl, rfl⟩

theorem make_bytes (n : Nat) (hn : n ≤ 1000000) (w : World) : (Instr.makeSlice 52 (.int .i64 (n : Nat)) (.int .i64 (n : Nat))).run Tryz.prog w = .ok (.slice (some ⟨w.heap.size, 0, none⟩) n n) (w.alloc (.cells ((List.replicate n 0).map byteCell).toArray 5)) := by
  obtain ⟨i0, hi, hz0, hz1, hz2⟩ := info_parts info5
  have h := run_make (P := Tryz.prog) w 52 5 i0 (.int .u8 0) Tryz.underlying52 hi hz0 .i64 .i64 (n : Int) (n : Int) (by omega) (by omega) (by rw [hz2]; omega) (by omega)
  have e : madeCells (Value.int .u8 0).cells (((n : Nat) : Int).toNat * i0.size) = ((List.replicate n 0).map byteCell).toArray := by
    rw [hz1]
    apply Array.toList_inj.1
    rw [show (Value.int .u8 0).cells = #[Value.int .u8 0] from rfl, toList_madeCells_one, List.toList_toArray]
    simp [byteCell]
  rw [e] at h
  simpa using h

/-- A row of bytes, filled as far as j. -/
theorem fill_set (n j f : Nat) (h : j < n) : (List.replicate j f ++ List.replicate (n - j) 0).set j f = List.replicate (j + 1) f ++ List.replicate (n - (j + 1)) 0 := by
  have e : n - j = (n - (j + 1)) + 1 := by omega
  rw [e, List.replicate_succ, List.set_append_right _ _ (by simp)]
  simp [List.replicate_succ']

set_option maxRecDepth 100000 in
set_option maxHeartbeats 3200000 in
theorem row_any (n f : Nat) (hn : n ≤ 1000) (w : World) : Calls Tryz.prog 32 #[.int .i64 (n : Nat), .int .u8 (f : Nat)] w fun e w' => e = .returned (.string (textOf (List.replicate n f))) ∧ Turn [] w w' := by
  have hmk := make_bytes n (by omega)
  have HB := hide (bytes_new w (List.replicate n 0) 5)
  have HT0 := hide (show Turn [] w (w.alloc (.cells ((List.replicate n 0).map byteCell).toArray 5)) from (Turn.refl [] w).alloc _)
  have HF : Hid (∀ o, (w.alloc (.cells ((List.replicate n 0).map byteCell).toArray 5)).frozen? ⟨w.heap.size, o, none⟩ = false) := fun o => World.frozen?_alloc_at _ _ _ _ rfl
  generalize ((List.replicate n 0).map byteCell).toArray = Z at *
  go_enter Tryz.func32, Tryz.ntmps32
  go_wp2_with fail
  generalize w.alloc (.cells Z 5) = w0 at *
  clear hmk
  go_loopw [6] (fun i wr => ∃ j : Nat, j ≤ n ∧ i = .int .i64 j ∧ BytesAt wr (some ⟨w.heap.size, 0, none⟩) (List.replicate j f ++ List.replicate (n - j) 0) ∧ (∀ o, wr.frozen? ⟨w.heap.size, o, none⟩ = false) ∧ Turn [] w wr) (fun i _ => n - (intOf i).toNat)
  case atStart => exact ⟨0, Nat.zero_le _, rfl, by simpa using HB.out, HF.out, HT0.out⟩
  case round =>
    obtain ⟨j, hj, rfl, hB, hF, hT⟩ := hrel
    have HB2 := hide hB
    have HF2 := hide hF
    have HT2 := hide hT
    have hff := hF j
    clear hB hF hT
    by_cases hlt : j < n
    · have hjl : j < (List.replicate j f ++ List.replicate (n - j) 0).length := by simp; omega
      have hc := HB2.out.cell0 hjl
      generalize (List.replicate j f ++ List.replicate (n - j) 0)[j] = x at hc
      go_wp2_with fail
      go_roundw
      case rel =>
        refine ⟨j + 1, by omega, by go_num, ?_, fun o => by rw [World.frozen?_setCell]; exact HF2.out o, HT2.out.then ((Turn.refl [w.heap.size] wr).setCell (List.mem_singleton.2 rfl) j _) (by simp)⟩
        rw [← fill_set n j f hlt]
        exact HB2.out.set j hjl f
      case measure => simp [intOf]; omega
    · obtain rfl : j = n := by omega
      have hB3 := HB2.out
      rw [Nat.sub_self] at hB3
      simp only [List.replicate_zero, List.append_nil] at hB3
      have hcv := text_at hB3 j j (by simp)
      clear hB3
      go_wp2_with fail
      go_ret
      exact ⟨rfl, HT2.out⟩
end Go.Proofs.YthehkckdecckhaaGreatDoor
