/-
  The program's step, walked.
-/
import Derived.Test.YthgpjkcgccdldaaGreatDoorRows
import Derived.Test.YthgpjkcgccdldaaGreatDoorV02
import Derived.Test.YthgpjkcgccdldaaGreatDoorV05
import Derived.WalkKit
import Derived.WalkSpells
import Derived.WalkLawsBesides
import Derived.Laws.BitsAllLaws

namespace Go.Proofs.YthgpjkcgccdldaaGreatDoor.Sm
open Go.RowKit

set_option maxRecDepth 100000 in
theorem and_one (x : Nat) (h : x < 4294967296) : bits .and .u32 (x : Int) 1 = (x : Int) % 2 := by
  have := u32_and_nat x 1 h (by decide)
  rw [show ((1 : Nat) : Int) = 1 from rfl] at this
  rw [this, Nat.and_one_is_mod]
  omega

set_option maxRecDepth 100000 in
theorem xor_poly (x : Nat) (h : x < 4294967296) : bits .xor .u32 ((x : Int) / 2) 2197175160 = ((x / 2 ^^^ 2197175160 : Nat) : Int) := by
  have := u32_xor_nat (x / 2) 2197175160 (by omega) (by decide)
  rw [← this]
  congr 1

set_option maxRecDepth 100000 in
set_option maxHeartbeats 400000 in
theorem step_any (x : Nat) (hx : x < 4294967296) (w : World) :
    Calls Tryz.prog 189 #[.int .u32 x] w fun e w' => e = .returned (.int .u32 (Crc.step x)) ∧ w' = w := by
  have ha := and_one x hx
  have hp := xor_poly x hx
  by_cases h : x % 2 = 0
  · have ht : ((x : Int) % 2 == 0) = true := by rw [beq_iff_eq]; omega
    have Hs : Hid (Crc.step x = x / 2) := by show Crc.step x = x / 2; unfold Crc.step; rw [if_pos h]
    clear h
    go_enter Tryz.func189, Tryz.ntmps189
    go_wp2
    go_ret
    exact ⟨ret_int (by rw [Hs.out]; omega), rfl⟩
  · have ht : ((x : Int) % 2 == 0) = false := by rw [beq_eq_false_iff_ne]; omega
    have Hs : Hid (Crc.step x = x / 2 ^^^ 2197175160) := by show Crc.step x = x / 2 ^^^ 2197175160; unfold Crc.step; rw [if_neg h]
    clear h
    go_enter Tryz.func189, Tryz.ntmps189
    go_wp2
    go_ret
    exact ⟨ret_int (by rw [Hs.out]), rfl⟩

set_option maxRecDepth 100000 in
theorem not_nat (x : Nat) (h : x < 4294967296) : bits .xor .u32 IntKind.u32.max (x : Int) = ((4294967295 ^^^ x : Nat) : Int) :=
  u32_xor_nat 4294967295 x (by decide) h

end Go.Proofs.YthgpjkcgccdldaaGreatDoor.Sm
