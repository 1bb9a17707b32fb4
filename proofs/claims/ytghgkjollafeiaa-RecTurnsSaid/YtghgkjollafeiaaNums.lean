/-
  Number of package rec and of the reference, walked: sixteen digits.
-/
import Derived.Test.YtghgkjollafeiaaRow
namespace Go.Proofs.Ytghgkjollafeiaa
open Go.RowKit

/-- A digit. -/
def dig (k : Nat) : Nat := if k < 10 then 48 + k else 87 + k
/-- The last j digits of a number in a row of sixteen. -/
def hexRow (n j : Nat) : Nat → Nat := fun k => if 16 - j ≤ k ∧ k < 16 then dig (n / 16 ^ (15 - k) % 16) else 0
/-- All of them. -/
def hexL (n : Nat) : List Nat := (List.range 16).map fun k => dig (n / 16 ^ (15 - k) % 16)

theorem Turn.setNew {S : List Nat} {u w : World} (h : Turn S u w) {b : Nat} (hb : u.heap.size ≤ b) (o : Nat) (v : Value) : Turn S u (w.setCell ⟨b, o, none⟩ v) :=
  ⟨h.os, h.tape, h.output, by rw [World.size_setCell]; exact h.size, fun i hi hn => (Below.heap_setCell w ⟨b, o, none⟩ v i (fun e => by have : i = b := e; omega)).trans (h.block i hi hn)⟩

theorem hexRow_succ (n j : Nat) (hj : j < 16) : hexRow n (j + 1) = setB (hexRow n j) (15 - j) (dig (n / 16 ^ j % 16)) := by
  funext k
  unfold hexRow setB
  by_cases h : k = 15 - j
  · subst h
    rw [if_pos (by omega), if_pos rfl, show 15 - (15 - j) = j by omega]
  · rw [if_neg h]
    show _ = if 16 - j ≤ k ∧ k < 16 then dig (n / 16 ^ (15 - k) % 16) else 0
    by_cases h2 : 16 - j ≤ k ∧ k < 16
    · rw [if_pos h2, if_pos (by omega)]
    · rw [if_neg h2, if_neg (by omega)]

theorem dig_at (k : Nat) (h : k < 16) : (({ data := #[48, 49, 50, 51, 52, 53, 54, 55, 56, 57, 97, 98, 99, 100, 101, 102] } : ByteArray)[k]'h).toNat = dig k := by
  have : ∀ k : Fin 16, (({ data := #[48, 49, 50, 51, 52, 53, 54, 55, 56, 57, 97, 98, 99, 100, 101, 102] } : ByteArray)[k.val]'k.isLt).toNat = dig k.val := by decide
  exact this ⟨k, h⟩

theorem hexRow_all (n : Nat) : bytesOf 16 (hexRow n 16) = hexL n := by
  unfold bytesOf hexL
  apply List.map_congr_left
  intro k hk
  unfold hexRow
  rw [if_pos ⟨by omega, List.mem_range.1 hk⟩]

set_option maxRecDepth 100000 in
theorem zeros16 (w : World) : RowAt (w.alloc (.cells #[.int .u8 0, .int .u8 0, .int .u8 0, .int .u8 0, .int .u8 0, .int .u8 0, .int .u8 0, .int .u8 0, .int .u8 0, .int .u8 0, .int .u8 0, .int .u8 0, .int .u8 0, .int .u8 0, .int .u8 0, .int .u8 0] 108)) w.heap.size 16 (fun _ => 0) := by
  refine ⟨fun i hi => ?_, fun o => ?_, by simp⟩
  · rw [World.cell?_alloc_at _ _ _ _ rfl]
    rw [show (#[Value.int .u8 0, .int .u8 0, .int .u8 0, .int .u8 0, .int .u8 0, .int .u8 0, .int .u8 0, .int .u8 0, .int .u8 0, .int .u8 0, .int .u8 0, .int .u8 0, .int .u8 0, .int .u8 0, .int .u8 0, .int .u8 0] : Array Value) = Array.replicate 16 (Value.int .u8 0) from rfl]
    simp [hi]
  · unfold World.frozen?
    rw [show (w.alloc _).heap[(⟨w.heap.size, o, none⟩ : Addr).block]? = _ from heap_alloc_new w _]
    simp

set_option maxRecDepth 100000 in
set_option maxHeartbeats 1000000 in
theorem number_any (n : Nat) (hn : n < 9223372036854775808) (w : World) :
    Calls Try.prog 26 #[.int .i64 (n : Nat)] w fun e w' => e = .returned (.string (textOf (hexL n))) ∧ Turn [] w w' := by
  go_enter Try.func26, Try.ntmps26
  go_wp2
  go_loopw [4, 5, 8] (fun r _ i wr => ∃ j : Nat, j ≤ 16 ∧ i = .int .i64 j ∧ r = .int .u64 (n / 16 ^ j : Nat) ∧ RowAt wr w.heap.size 16 (hexRow n j) ∧ Turn [] w wr) (fun _ _ i _ => 16 - (intOf i).toNat)
  case atStart => exact ⟨0, by omega, rfl, by simp, (zeros16 w).congr (fun i hi => by unfold hexRow; rw [if_neg (by omega)]), (Turn.refl [] w).alloc _⟩
  case round =>
    obtain ⟨j, hj, rfl, rfl, hR, hT⟩ := hrel
    by_cases hlt : j < 16
    · have hc := hR.cell (15 - j) (by omega)
      have hz := hR.fz (15 - j)
      have hq : n / 16 ^ j < 18446744073709551616 := Nat.lt_of_le_of_lt (Nat.div_le_self _ _) (by omega)
      have HQ : Hid (n / 16 ^ j / 16 = n / 16 ^ (j + 1)) := by show _ = _; rw [Nat.div_div_eq_div_mul, Nat.pow_succ]
      have HX := hide (hexRow_succ n j hlt)
      generalize n / 16 ^ j = q at *
      have HD := hide (dig_at (q % 16) (by omega))
      have HR := hide hR
      clear hR
      go_wp2
      go_roundw
      case rel =>
        refine ⟨j + 1, by omega, by go_num, ?_, ?_, hT.setNew (Nat.le_refl _) _ _⟩
        · rw [← HQ.out]; go_num
        · have h := HR.out.set (15 - j) (dig (q % 16)) (by omega)
          rw [HX.out]
          rw [← HD.out] at h ⊢
          exact h
      case measure => simp [intOf]; omega
    · obtain rfl : j = 16 := by omega
      have ht := text_at hR.bytes0 16 16 (bytesOf_length _ _)
      rw [hexRow_all] at ht
      clear hR
      go_wp2
      go_ret
      exact ⟨rfl, hT⟩

theorem i64_and15 (n : Int) : bits .and .i64 n 15 = n % 16 := by
  have h15 : (BitVec.ofInt 64 15).toNat = 2 ^ 4 - 1 := by decide
  have key : (BitVec.ofInt 64 n &&& BitVec.ofInt 64 15).toNat = (n % ((2 ^ 64 : Nat) : Int)).toNat % 2 ^ 4 := by
    rw [BitVec.toNat_and, BitVec.toNat_ofInt, h15, Nat.and_two_pow_sub_one_eq_mod]
  show IntKind.i64.wrap ((BitVec.ofInt 64 n &&& BitVec.ofInt 64 15).toNat : Nat) = n % 16
  rw [key, IntKind.wrap_i64]
  omega

theorem textOf_size (l : List Nat) : (textOf l).size = l.length := by
  unfold textOf
  rw [strOfNums_size, List.length_map]

theorem textOf_append (a b : List Nat) : textOf (a ++ b) = textOf a ++ textOf b := by
  apply ByteArray.ext
  apply Array.toList_inj.1
  rw [ByteArray.data_append, Array.toList_append]
  unfold textOf
  rw [strOfNums_data, strOfNums_data, strOfNums_data, List.map_append, List.map_append]

theorem dig_text (k : Nat) (h : k < 16) : ({ data := #[48, 49, 50, 51, 52, 53, 54, 55, 56, 57, 97, 98, 99, 100, 101, 102] } : ByteArray).extract k (k + 1) = textOf [dig k] := by
  have : ∀ k : Fin 16, ({ data := #[48, 49, 50, 51, 52, 53, 54, 55, 56, 57, 97, 98, 99, 100, 101, 102] } : ByteArray).extract k.val (k.val + 1) = textOf [dig k.val] := by decide
  exact this ⟨k, h⟩

theorem hexL_take (n j : Nat) (h : j < 16) : (hexL n).take (j + 1) = (hexL n).take j ++ [dig (n / 16 ^ (15 - j) % 16)] := by
  have hl : j < (hexL n).length := by unfold hexL; simpa using h
  rw [List.take_succ_eq_append_getElem hl]
  congr 2
  show (hexL n)[j] = _
  have e : (hexL n)[j]? = some (dig (n / 16 ^ (15 - j) % 16)) := by unfold hexL; simp [h]
  rw [List.getElem?_eq_getElem hl] at e
  exact Option.some.inj e

theorem hex_and (n j : Nat) : bits .and .i64 ((n : Int) / 2 ^ (4 * (15 - j))) 15 = ((n / 16 ^ (15 - j) % 16 : Nat) : Int) := by
  rw [i64_and15, show (16 : Nat) ^ (15 - j) = 2 ^ (4 * (15 - j)) from (Nat.pow_mul 2 4 (15 - j)).symm]
  push_cast
  rfl

set_option maxRecDepth 100000 in
set_option maxHeartbeats 1000000 in
theorem rnumber_any (n : Nat) (_hn : n < 9223372036854775808) (w : World) :
    Calls Try.prog 27 #[.int .i64 (n : Nat)] w fun e w' => e = .returned (.string (textOf (hexL n))) ∧ w' = w := by
  go_enter Try.func27, Try.ntmps27
  go_wp2
  go_loop [4, 5, 6] (fun s i _ => ∃ j : Nat, j ≤ 16 ∧ i = .int .i64 (15 - (j : Int)) ∧ s = .string (textOf ((hexL n).take j))) (fun _ i _ => (intOf i + 1).toNat)
  case atStart => exact ⟨0, by omega, by go_num, rfl⟩
  case round =>
    obtain ⟨j, hj, rfl, rfl⟩ := hrel
    by_cases hlt : j < 16
    · have hs := shr_var 64 (n : Int) (4 * (15 - (j : Int))) (by omega) (by omega)
      rw [if_neg (by omega)] at hs
      have hb := hex_and n j
      have hk : n / 16 ^ (15 - j) % 16 < 16 := Nat.mod_lt _ (by omega)
      have HT := hide (hexL_take n j hlt)
      generalize n / 16 ^ (15 - j) % 16 = k at *
      have hd := dig_text k hk
      have hs1 : (textOf ((hexL n).take j)).size = j := by rw [textOf_size, List.length_take, show (hexL n).length = 16 by unfold hexL; simp]; omega
      have hs2 : (textOf [dig k]).size = 1 := textOf_size _
      go_wp2
      go_round
      case rel =>
        refine ⟨j + 1, by omega, by go_num, ?_⟩
        rw [HT.out, textOf_append]
      case measure => simp [intOf]; omega
    · obtain rfl : j = 16 := by omega
      rw [List.take_of_length_le (show (hexL n).length ≤ 16 by unfold hexL; simp)]
      go_wp2
      go_ret
      exact ⟨rfl, rfl⟩
end Go.Proofs.Ytghgkjollafeiaa
