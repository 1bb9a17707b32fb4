/-
  makeTable, walked: the table of a sum whose table was all zeros is the document's.
-/
import Derived.Test.YthgpjkcgccdldaaGreatDoorV08
import Derived.Test.YthgpjkcgccdldaaGreatDoorV05
import Derived.RegionTactic
import Derived.ChangeAlike

namespace Go.Proofs.YthgpjkcgccdldaaGreatDoor.Sm
open Go.RowKit

set_option maxRecDepth 100000 in
theorem table_xor (x r : Nat) (h : x < 4294967296) (hr : r < 4294967296) : bits .xor .u32 (x : Int) (r : Int) = ((x ^^^ r : Nat) : Int) := u32_xor_nat x r h hr

set_option maxRecDepth 100000 in
set_option maxHeartbeats 1000000 in
theorem table_any (b : Nat) (d m : Int) (c : Nat) (w : World) (hS : SumAt w b d m (Crc.outer 0) c) :
    Calls Tryz.prog 152 #[.pointer (some ⟨b, 0, none⟩)] w fun e w' => e = .returned (.tuple #[]) ∧ SumAt w' b d m (Crc.outer 8) c ∧ Only b w w' := by
  go_enter Tryz.func152, Tryz.ntmps152
  go_wp2
  go_loopw [2, 3] (fun r t wr => ∃ k : Nat, k ≤ 8 ∧ r = .int .u32 (Crc.restAt k : Nat) ∧ t = .int .i64 (128 / 2 ^ k : Nat) ∧ SumAt wr b d m (Crc.outer k) c ∧ Only b w wr) (fun _ t _ => (intOf t).toNat)
  case atStart => exact ⟨0, Nat.zero_le _, rfl, rfl, hS, Only.refl _ _⟩
  case round =>
    obtain ⟨k, hk, rfl, rfl, hT, hO⟩ := hrel
    by_cases hlt : k < 8
    · obtain ⟨hN, hB0, hB1, hB2⟩ := bit_facts k hlt
      have hr : Crc.restAt k < 4294967296 := Crc.steps_lt k (show 1 < 4294967296 by decide)
      have hr1 : Crc.step (Crc.restAt k) < 4294967296 := Crc.step_lt hr
      have HO : Hid (Crc.outer (k + 1) = Crc.inner (128 / 2 ^ k) (Crc.step (Crc.restAt k)) (2 ^ k) (Crc.outer k)) := rfl
      have HR : Hid (Crc.restAt (k + 1) = Crc.step (Crc.restAt k)) := rfl
      have HB2 : Hid (128 / 2 ^ k / 2 = 128 / 2 ^ (k + 1)) := hB2
      have HN : Hid (2 * (128 / 2 ^ k) * 2 ^ k = 256) := hN
      have hlen := Crc.outer_length k
      have htl := Crc.outer_lt k
      have HL : Hid ((Crc.outer k).length = 256) := hlen
      clear hB2 hN hS hlen
      generalize hB : 128 / 2 ^ k = B at *
      generalize hN : 2 ^ k = N at *
      generalize hr0 : Crc.restAt k = r0 at *
      generalize hU : Crc.outer k = U at *
      clear hB hN hr0 hU
      go_wp2_with (go_at_call 189; refine (step_any _ hr _).mono ?_; rintro e w' ⟨rfl, rfl⟩)
      generalize hR : Crc.step r0 = R at *
      clear hR
      obtain ⟨w1, rfl⟩ : ∃ w1 : World, w1 = w' := ⟨_, rfl⟩
      go_loopw [4] (fun t wr => ∃ j : Nat, j ≤ N ∧ t = .int .i64 (2 * B * j : Nat) ∧ SumAt wr b d m (Crc.inner B R j U) c ∧ Only b w wr) (fun t _ => 256 - (intOf t).toNat)
      case atStart => exact ⟨0, Nat.zero_le _, rfl, hT, hO⟩
      case round =>
        obtain ⟨j, hj, rfl, hT2, hO2⟩ := hrel
        by_cases hjl : j < N
        · have hf := round_facts B N j HN.out hB0 hjl
          have hin := Crc.inner_lt B R hr1 j U htl
          have HI : Hid (Crc.inner B R (j + 1) U = (Crc.inner B R j U).set (2 * B * j + B) ((Crc.inner B R j U).getD (2 * B * j) 0 ^^^ R)) := rfl
          have HM : Hid (2 * B * (j + 1) = 2 * B * j + 2 * B) := Nat.mul_succ _ _
          generalize hV : Crc.inner B R j U = V at *
          generalize hn : 2 * B * j = n at *
          have h1 := hT2.row n (by omega)
          have h2 := hT2.row (n + B) (by omega)
          have hx := table_xor _ _ (hin n) hr1
          rw [List.getD_eq_getElem?_getD] at hx
          have hz := hT2.fz (3 + (n + B))
          clear hV hn hT
          go_wp2
          go_region
          go_wp2
          go_roundw
          case rel =>
            refine ⟨j + 1, hjl, by rw [HM.out]; go_num, ?_, ?_⟩
            · rw [HI.out, List.getD_eq_getElem?_getD]; exact (hT2.setRow (n + B) (by omega) _).drew
            · exact (hO2.setCell _ _).drew
          case measure => simp [intOf]; omega
        · obtain rfl : j = N := by omega
          have hf := round_last B j j HN.out (Nat.le_refl _)
          have HE : Hid (Crc.outer (k + 1) = Crc.inner B R j U) := HO
          generalize hn : 2 * B * j = n at *
          clear hn
          go_wp2
          go_roundw
          case rel =>
            refine ⟨k + 1, hlt, by rw [HR.out], by rw [← HB2.out]; go_num, ?_, hO2⟩
            rw [HE.out]; exact hT2
          case measure => simp [intOf]; omega
    · obtain rfl : k = 8 := by omega
      go_wp2
      go_end0
      exact ⟨rfl, hT, hO⟩
end Go.Proofs.YthgpjkcgccdldaaGreatDoor.Sm
