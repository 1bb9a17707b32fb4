/-
  Number of package rec and of the reference, walked: sixteen digits.
-/
import Derived.Test.YtmmbckchaklhaaaQRow
namespace Go.Proofs.Ytmmbckchaklhaaa
open Go.RowKit

/-- A digit. -/
def dig (k : Nat) : Nat := if k < 10 then 48 + k else 87 + k

/-- The last j digits of a number in a row of sixteen. -/
def hexRow (n j : Nat) : Nat → Nat := fun k => if 16 - j ≤ k ∧ k < 16 then dig (n / 16 ^ (15 - k) % 16) else 0

/-- All of them. -/
def hexL (n : Nat) : List Nat := (List.range 16).map fun k => dig (n / 16 ^ (15 - k) % 16)

theorem Turn.setNew {S : List Nat} {u w : World} (h : Turn S u w) {b : Nat} (hb : u.heap.size ≤ b) (o : Nat) (v : Value) : Turn S u (w.setCell ⟨b, o, none⟩ v) :=
  ⟨h.os, h.tape, h.output, by rw [World.size_setCell]; exact h.size, fun i hi hn => (Below.heap_setCell w ⟨b, o, none⟩ v i (fun e => by have : i = b := e; omega)).trans (h.block i hi hn)⟩

theorem hexRow_succ (n j : Nat) (hj : j < 16) : hexRow n (j + 1) = setB (hexRow n j) (15 - j) (dig (n / 16 ^ j % 16)) := by
  funext k
  unfold hexRow setB
  by_cases h : k = 15 - j
  · subst h
    rw [if_pos (by omega), if_pos rfl, show 15 - (15 - j) = j by omega]
  · rw [if_neg h]
    show _ = if 16 - j ≤ k ∧ k < 16 then dig (n / 16 ^ (15 - k) % 16) else 0
    by_cases h2 : 16 - j ≤ k ∧ k < 16
    · rw [if_pos h2, if_pos (by omega)]
    · rw [if_neg h2, if_neg (by omega)]

theorem dig_at (k : Nat) (h : k < 16) : (({ data := #[48, 49, 50, 51, 52, 53, 54, 55, 56, 57, 97, 98, 99, 100, 101, 102] } : ByteArray)[k]'h).toNat = dig k := by
  have : ∀ k : Fin 16, (({ data := #[48, 49, 50, 51, 52, 53, 54, 55, 56, 57, 97, 98, 99, 100, 101, 102] } : ByteArray)[k.val]'k.isLt).toNat = dig k.val := by decide
  exact this ⟨k, h⟩

theorem hexRow_all (n : Nat) : bytesOf 16 (hexRow n 16) = hexL n := by
  unfold bytesOf hexL
  apply List.map_congr_left
  intro k hk
  unfold hexRow
  rw [if_pos ⟨by omega, List.mem_range.1 hk⟩]

theorem i64_and15 (n : Int) : bits .and .i64 n 15 = n % 16 := by
  have h15 : (BitVec.ofInt 64 15).toNat = 2 ^ 4 - 1 := by decide
  have key : (BitVec.ofInt 64 n &&& BitVec.ofInt 64 15).toNat = (n % ((2 ^ 64 : Nat) : Int)).toNat % 2 ^ 4 := by
    rw [BitVec.toNat_and, BitVec.toNat_ofInt, h15, Nat.and_two_pow_sub_one_eq_mod]
  show IntKind.i64.wrap ((BitVec.ofInt 64 n &&& BitVec.ofInt 64 15).toNat : Nat) = n % 16
  rw [key, IntKind.wrap_i64]
  omega

theorem textOf_size (l : List Nat) : (textOf l).size = l.length := by
  unfold textOf
  rw [strOfNums_size, List.length_map]

theorem textOf_append (a b : List Nat) : textOf (a ++ b) = textOf a ++ textOf b := by
  apply ByteArray.ext
  apply Array.toList_inj.1
  rw [ByteArray.data_append, Array.toList_append]
  unfold textOf
  rw [strOfNums_data, strOfNums_data, strOfNums_data, List.map_append, List.map_append]

theorem dig_text (k : Nat) (h : k < 16) : ({ data := #[48, 49, 50, 51, 52, 53, 54, 55, 56, 57, 97, 98, 99, 100, 101, 102] } : ByteArray).extract k (k + 1) = textOf [dig k] := by
  have : ∀ k : Fin 16, ({ data := #[48, 49, 50, 51, 52, 53, 54, 55, 56, 57, 97, 98, 99, 100, 101, 102] } : ByteArray).extract k.val (k.val + 1) = textOf [dig k.val] := by decide
  exact this ⟨k, h⟩

theorem hexL_take (n j : Nat) (h : j < 16) : (hexL n).take (j + 1) = (hexL n).take j ++ [dig (n / 16 ^ (15 - j) % 16)] := by
  have hl : j < (hexL n).length := by unfold hexL; simpa using h
  rw [List.take_succ_eq_append_getElem hl]
  congr 2
  show (hexL n)[j] = _
  have e : (hexL n)[j]? = some (dig (n / 16 ^ (15 - j) % 16)) := by unfold hexL; simp [h]
  rw [List.getElem?_eq_getElem hl] at e
  exact Option.some.inj e

theorem hex_and (n j : Nat) : bits .and .i64 ((n : Int) / 2 ^ (4 * (15 - j))) 15 = ((n / 16 ^ (15 - j) % 16 : Nat) : Int) := by
  rw [i64_and15, show (16 : Nat) ^ (15 - j) = 2 ^ (4 * (15 - j)) from (Nat.pow_mul 2 4 (15 - j)).symm]
  push_cast
  rfl