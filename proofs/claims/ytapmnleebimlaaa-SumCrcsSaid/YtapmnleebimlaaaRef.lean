/-
  The reference's Crc and the program's step, walked: each returns what the plain functions come to.
-/
import Derived.Test.YtapmnleebimlaaaRows
import Derived.Test.YtapmnleebimlaaaPure
import Derived.WalkKit
import Derived.WalkSpells
import Derived.WalkLawsBesides
import Derived.Laws.BitsAllLaws
namespace Go.Proofs.Ytapmnleebimlaaa
open Go.RowKit

theorem and_one (x : Nat) (h : x < 4294967296) : bits .and .u32 (x : Int) 1 = (x : Int) % 2 := by
  have := u32_and_nat x 1 h (by decide)
  rw [show ((1 : Nat) : Int) = 1 from rfl] at this
  rw [this, Nat.and_one_is_mod]
  omega

theorem xor_poly (x : Nat) (h : x < 4294967296) : bits .xor .u32 ((x : Int) / 2) 2197175160 = ((x / 2 ^^^ 2197175160 : Nat) : Int) := by
  have := u32_xor_nat (x / 2) 2197175160 (by omega) (by decide)
  rw [← this]
  congr 1

theorem ret_int {k : IntKind} {a b : Int} (h : a = b) : Ending.returned (.int k a) = .returned (.int k b) := by rw [h]

set_option maxHeartbeats 400000 in
theorem step_any (x : Nat) (hx : x < 4294967296) (w : World) :
    Calls Try.prog 16 #[.int .u32 x] w fun e w' => e = .returned (.int .u32 (Crc.step x)) ∧ w' = w := by
  have ha := and_one x hx
  have hp := xor_poly x hx
  by_cases h : x % 2 = 0
  · have ht : ((x : Int) % 2 == 0) = true := by rw [beq_iff_eq]; omega
    have Hs : Hid (Crc.step x = x / 2) := by show Crc.step x = x / 2; unfold Crc.step; rw [if_pos h]
    clear h
    go_enter Try.func16, Try.ntmps16
    go_wp2
    go_ret
    exact ⟨ret_int (by rw [Hs.out]; omega), rfl⟩
  · have ht : ((x : Int) % 2 == 0) = false := by rw [beq_eq_false_iff_ne]; omega
    have Hs : Hid (Crc.step x = x / 2 ^^^ 2197175160) := by show Crc.step x = x / 2 ^^^ 2197175160; unfold Crc.step; rw [if_neg h]
    clear h
    go_enter Try.func16, Try.ntmps16
    go_wp2
    go_ret
    exact ⟨ret_int (by rw [Hs.out]), rfl⟩

/-- The bytes that a slice leads to: none are there, or they lie in a row. -/
def BytesAt (w : World) (a : Option Addr) (l : List Nat) : Prop :=
  l = [] ∨ ∃ b off, a = some ⟨b, off, none⟩ ∧ ∀ i, i < l.length → w.cell? ⟨b, off + i, none⟩ = some (.int .u8 (l.getD i 0 : Nat))

theorem BytesAt.at {w : World} {a : Option Addr} {l : List Nat} (h : BytesAt w a l) {k : Nat} (hk : k < l.length) :
    ∃ b off, a = some ⟨b, off, none⟩ ∧ w.cell? ⟨b, off + k, none⟩ = some (.int .u8 (l[k] : Nat)) := by
  rcases h with rfl | ⟨b, off, rfl, h⟩
  · simp at hk
  · refine ⟨b, off, rfl, ?_⟩
    rw [h k hk, List.getD_eq_getElem?_getD, List.getElem?_eq_getElem hk]; rfl

theorem xor_nat (x b : Nat) (h : x < 4294967296) (hb : b < 256) : bits .xor .u32 (x : Int) (b : Int) = ((x ^^^ b : Nat) : Int) :=
  u32_xor_nat x b h (by omega)

theorem not_nat (x : Nat) (h : x < 4294967296) : bits .xor .u32 IntKind.u32.max (x : Int) = ((4294967295 ^^^ x : Nat) : Int) :=
  u32_xor_nat 4294967295 x (by decide) h

theorem st_take (l : List Nat) (k : Nat) (h : k < l.length) : Crc.st (l.take (k + 1)) = Crc.upd (Crc.st (l.take k)) l[k] := by
  rw [List.take_succ_eq_append_getElem h, Crc.st_snoc]

set_option maxHeartbeats 400000 in
theorem ref_any (a : Option Addr) (cap : Nat) (l : List Nat) (hl : l.length ≤ maxLen) (hb : ∀ x ∈ l, x < 256) (w : World) (hm : BytesAt w a l) :
    Calls Try.prog 10 #[.slice a l.length cap] w fun e w' => e = .returned (.int .u32 (Crc.crc l)) ∧ w' = w := by
  unfold maxLen at hl
  go_enter Try.func10, Try.ntmps10
  go_wp2
  go_loop [3, 4] (fun x i => ∃ k : Nat, k ≤ l.length ∧ i = .int .i64 k ∧ x = .int .u32 (Crc.st (l.take k))) (fun _ i => l.length - (intOf i).toNat)
  case atStart => exact ⟨0, Nat.zero_le _, rfl, rfl⟩
  case round =>
    obtain ⟨k, hk, rfl, rfl⟩ := hrel
    by_cases hlt : k < l.length
    · obtain ⟨b, off, rfl, hc⟩ := hm.at hlt
      have hs := Crc.st_lt (l.take k) (fun x hx => hb x (List.mem_of_mem_take hx))
      have hx := hb _ (List.getElem_mem hlt)
      have HT : Hid (Crc.st (l.take (k + 1)) = Crc.upd (Crc.st (l.take k)) l[k]) := st_take l k hlt
      have hxor := xor_nat _ _ hs hx
      have hlt8 := Nat.xor_lt_two_pow (n := 32) hs (show l[k] < 2 ^ 32 by omega)
      generalize hy : Crc.st (l.take k) = y at *
      generalize hz : l[k] = z at *
      clear hy hz
      go_wp2
      go_loop [3, 5] (fun x i => ∃ j : Nat, j ≤ 8 ∧ i = .int .i64 j ∧ x = .int .u32 (Crc.steps j (y ^^^ z))) (fun _ i => 8 - (intOf i).toNat)
      case atStart => exact ⟨0, Nat.zero_le _, rfl, rfl⟩
      case round =>
        obtain ⟨j, hj, rfl, rfl⟩ := hrel
        by_cases hj8 : j < 8
        · have hsl := Crc.steps_lt j hlt8
          have HN : Hid (Crc.steps (j + 1) (y ^^^ z) = Crc.step (Crc.steps j (y ^^^ z))) := rfl
          generalize hv : Crc.steps j (y ^^^ z) = v at *
          have HV : Hid (Crc.steps j (y ^^^ z) = v) := hv
          clear hv
          have ha := and_one v hsl
          have hp := xor_poly v hsl
          by_cases hodd : v % 2 = 0
          · have ht : ((v : Int) % 2 == 1) = false := by rw [beq_eq_false_iff_ne]; omega
            have HS : Hid (Crc.step v = v / 2) := by show Crc.step v = v / 2; unfold Crc.step; rw [if_pos hodd]
            clear hodd
            go_wp2
            go_round
            case rel => exact ⟨j + 1, by omega, by go_num, by rw [HN.out, HS.out]; rfl⟩
            case measure => simp [intOf]; omega
          · have ht : ((v : Int) % 2 == 1) = true := by rw [beq_iff_eq]; omega
            have HS : Hid (Crc.step v = v / 2 ^^^ 2197175160) := by show Crc.step v = v / 2 ^^^ 2197175160; unfold Crc.step; rw [if_neg hodd]
            clear hodd
            go_wp2
            go_round
            case rel => exact ⟨j + 1, by omega, by go_num, by rw [HN.out, HS.out]⟩
            case measure => simp [intOf]; omega
        · obtain rfl : j = 8 := by omega
          go_wp2
          go_round
          case rel => exact ⟨k + 1, by omega, by go_num, by rw [HT.out]; rfl⟩
          case measure => simp [intOf]; omega
    · have hs := Crc.st_lt l hb
      obtain rfl : k = l.length := by omega
      rw [List.take_length]
      have hn := not_nat _ hs
      have HC : Hid (Crc.crc l = 4294967295 ^^^ Crc.st l) := rfl
      generalize Crc.st l = y at *
      go_wp2
      go_ret
      exact ⟨ret_int (by rw [HC.out]), rfl⟩
end Go.Proofs.Ytapmnleebimlaaa
