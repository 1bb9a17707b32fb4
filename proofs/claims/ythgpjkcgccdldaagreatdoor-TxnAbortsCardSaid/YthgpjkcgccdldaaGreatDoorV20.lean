/-
  Add and Crc of package sum, walked.
-/
import Derived.Test.YthgpjkcgccdldaaGreatDoorV18
import Derived.Lib.SlBytesConst
import Derived.OpenShut

namespace Go.Proofs.YthgpjkcgccdldaaGreatDoor.Sm
open Go.RowKit

set_option maxRecDepth 100000 in
theorem do_any (b : Nat) (l : List Nat) (w : World) (hS : IsSum w b l) :
    Calls Tryz.prog 50 #[.pointer (some ⟨b, 0, none⟩), .func (.func 152) #[.pointer (some ⟨b, 0, none⟩)] #[]] w fun e w' => e = .returned (.tuple #[]) ∧ SumAt w' b 1 0 (Crc.outer 8) (Crc.crc l) ∧ Only b w w' := by
  rcases hS with h | h
  · exact do_first b _ w h
  · refine (do_done b _ _ _ w h).mono ?_
    rintro e w' ⟨rfl, rfl⟩
    exact ⟨rfl, h, Only.refl _ _⟩

set_option maxRecDepth 100000 in
theorem mix_byte (r x : Nat) (hx : x < 256) : bits .xor .u8 ((r : Int) % 256) (x : Int) = ((r % 256 ^^^ x : Nat) : Int) := by
  rw [show ((r : Int) % 256) = ((r % 256 : Nat) : Int) by omega]
  exact u8_xor_nat _ _ (Nat.mod_lt _ (by decide)) hx

set_option maxRecDepth 100000 in
theorem mix_word (q r : Nat) (hq : q < 4294967296) (hr : r < 4294967296) : bits .xor .u32 (q : Int) ((r : Int) / 256) = ((q ^^^ r / 256 : Nat) : Int) := by
  rw [show ((r : Int) / 256) = ((r / 256 : Nat) : Int) by omega]
  exact u32_xor_nat _ _ hq (by omega)

set_option maxRecDepth 100000 in
theorem st_take2 (l0 l : List Nat) (k : Nat) (h : k < l.length) : Crc.st (l0 ++ l.take (k + 1)) = Crc.upd (Crc.st (l0 ++ l.take k)) l[k] := by
  rw [List.take_succ_eq_append_getElem h, ← List.append_assoc, Crc.st_snoc]

set_option maxRecDepth 100000 in
theorem mix_lt (r x : Nat) (hx : x < 256) : r % 256 ^^^ x < 256 := Nat.xor_lt_two_pow (n := 8) (Nat.mod_lt _ (by decide)) hx

set_option maxRecDepth 100000 in
set_option maxHeartbeats 1000000 in
theorem add_any (b : Nat) (l0 l : List Nat) (a : Option Addr) (cap : Nat) (hl : l.length ≤ maxLen) (h0 : ∀ x ∈ l0, x < 256) (hb : ∀ x ∈ l, x < 256) (w : World) (hS : IsSum w b l0) (hm : BytesAt w a l)
    (hne : ∀ x, l ≠ [] → a = some x → x.block ≠ b) :
    Calls Tryz.prog 122 #[.pointer (some ⟨b, 0, none⟩), .slice a l.length cap] w fun e w' => e = .returned (.tuple #[]) ∧ IsSum w' b (l0 ++ l) ∧ Only b w w' := by
  unfold maxLen at hl
  have hmf : ∀ (fn : Fn) (first cap : Array Value) (w : World), (Instr.makeFunc fn first cap).run Tryz.prog w = .ok (.func fn first cap) w := fun _ _ _ _ => rfl
  have HS : Hid (IsSum w b l0) := hS
  have hs0 := Crc.crc_lt l0 h0
  have hnot := not_nat _ hs0
  rw [Crc.not_crc] at hnot
  clear hS
  go_enter Tryz.func122, Tryz.ntmps122
  go_wp2_with (go_at_call 50; refine (do_any b l0 _ HS.out).mono ?_; rintro e w1 ⟨rfl, hT, hO⟩; have hcr := hT.crc)
  have hm1 : BytesAt w1 a l := hm.keep fun x hq hx => hO.block _ (hne x hq hx)
  clear hm hcr hnot hs0 HS
  go_loop [4, 20] (fun r i => ∃ k : Nat, k ≤ l.length ∧ i = .int .i64 k ∧ r = .int .u32 (Crc.st (l0 ++ l.take k) : Nat)) (fun _ i => l.length - (intOf i).toNat)
  case atStart => exact ⟨0, Nat.zero_le _, rfl, by simp⟩
  case round =>
    obtain ⟨k, hk, rfl, rfl⟩ := hrel
    by_cases hlt : k < l.length
    · obtain ⟨b', off, rfl, hc⟩ := hm1.at hlt
      have hs := Crc.st_lt (l0 ++ l.take k) (fun x hx => by
        rcases List.mem_append.1 hx with h | h
        · exact h0 x h
        · exact hb x (List.mem_of_mem_take h))
      have hx := hb _ (List.getElem_mem hlt)
      have HT : Hid (Crc.st (l0 ++ l.take (k + 1)) = Crc.upd (Crc.st (l0 ++ l.take k)) l[k]) := st_take2 l0 l k hlt
      generalize hy : Crc.st (l0 ++ l.take k) = y at *
      generalize hz : l[k] = z at *
      clear hy hz hm1
      have hmix := mix_byte y z hx
      have hml := mix_lt y z hx
      have hrow := hT.row _ hml
      rw [Crc.table_at _ hml] at hrow
      have hsl := Crc.steps_lt 8 (show y % 256 ^^^ z < 4294967296 by omega)
      have HB : Hid (Crc.steps 8 (y % 256 ^^^ z) ^^^ y / 256 = Crc.upd y z) := Crc.byte_step y z
      have hx2 := mix_word (Crc.steps 8 (y % 256 ^^^ z)) y hsl hs
      generalize hq : Crc.steps 8 (y % 256 ^^^ z) = q at *
      generalize hv : y % 256 ^^^ z = v at *
      clear hq hv
      go_wp2
      go_round
      case rel => exact ⟨k + 1, by omega, by go_num, by rw [HT.out, ← HB.out]⟩
      case measure => simp [intOf]; omega
    · obtain rfl : k = l.length := by omega
      rw [List.take_length]
      have hs := Crc.st_lt (l0 ++ l) (fun x hx => by
        rcases List.mem_append.1 hx with h | h
        · exact h0 x h
        · exact hb x h)
      have hn := not_nat _ hs
      have HC : Hid (4294967295 ^^^ Crc.st (l0 ++ l) = Crc.crc (l0 ++ l)) := rfl
      generalize Crc.st (l0 ++ l) = y at *
      have hcr := hT.crc
      have hz := hT.fz 259
      go_wp2
      go_end0
      refine ⟨rfl, .inr ?_, hO.setCell _ _⟩
      rw [← HC.out]
      exact hT.setCrc _

set_option maxRecDepth 100000 in
theorem IsSum.of_block {w w' : World} {b : Nat} {l : List Nat} (h : IsSum w b l) (hb : w'.heap[b]? = w.heap[b]?) : IsSum w' b l := by
  rcases h with h | h
  · exact .inl (h.of_block hb)
  · exact .inr (h.of_block hb)

set_option maxRecDepth 100000 in
theorem IsSum.lt {w : World} {b : Nat} {l : List Nat} (h : IsSum w b l) : b < w.heap.size := by
  rcases h with h | h
  · exact h.lt
  · exact h.lt

set_option maxRecDepth 100000 in
set_option maxHeartbeats 400000 in
theorem crc_any (a : Option Addr) (cap : Nat) (l : List Nat) (hl : l.length ≤ maxLen) (hb : ∀ x ∈ l, x < 256) (w : World) (hm : BytesAt w a l) :
    Calls Tryz.prog 86 #[.slice a l.length cap] w fun e w' => e = .returned (.int .u32 (Crc.crc l : Nat)) ∧ Below w.heap.size w w' := by
  have HL : Hid (l.length ≤ maxLen) := hl
  have HB : Hid (∀ x ∈ l, x < 256) := hb
  have HM : Hid (BytesAt w a l) := hm
  clear hl hb hm
  go_enter Tryz.func86, Tryz.ntmps86
  go_wp2_with fail
  refine (new_any _).mono ?_
  rintro e w1 ⟨rfl, hS, hW, hz⟩
  have hm1 : BytesAt w1 a l := HM.out.keep fun x hq hx => hW.block _ (HM.out.lt x hq hx)
  go_wp2_with fail
  refine (add_any w.heap.size [] l a cap HL.out (by simp) HB.out w1 hS hm1 (fun x hq hx => Nat.ne_of_lt (HM.out.lt x hq hx))).mono ?_
  rintro e w2 ⟨rfl, hS2, hO⟩
  go_wp2_with fail
  refine (now_any w.heap.size ([] ++ l) w2 hS2).mono ?_
  rintro e w3 ⟨rfl, rfl⟩
  go_wp2
  go_ret
  exact ⟨rfl, hW.trans (hO.below (Nat.le_refl _))⟩

end Go.Proofs.YthgpjkcgccdldaaGreatDoor.Sm
