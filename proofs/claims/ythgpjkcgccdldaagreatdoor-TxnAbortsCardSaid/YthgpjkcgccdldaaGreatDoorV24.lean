/-
  The bitmap of package pager, walked: words of 64 bits in a row.
-/
import Derived.Test.YthgpjkcgccdldaaGreatDoorV22
import Derived.Test.YthgpjkcgccdldaaGreatDoorV04
import Derived.Lib.TrailingZeros
import Derived.Laws.Bits64b
import Derived.Shelf.Spec.TrailingZeros

namespace Go.Proofs.YthgpjkcgccdldaaGreatDoor
open Go.RowKit

set_option maxRecDepth 100000 in
theorem Turn.drewN {S : List Nat} {u w : World} (h : Turn S u w) (n : Nat) : Turn S u (w.drewN n) := ⟨h.os, h.tape, h.output, h.size, h.block⟩

/-- The library's table, in its variable. -/
def Tab (w : World) : Prop := ∀ j, j < 64 → w.cell? ⟨1, j, none⟩ = some (.int .u8 (Lib.deBruijn64tab.getD j 0 : Nat))

set_option maxRecDepth 100000 in
set_option maxHeartbeats 1000000 in
theorem tz_core (x k idx : Nat) (w : World) (hx0 : ((x : Int) == 0) = false)
    (key : IntKind.u64.wrap (bits BinOp.and IntKind.u64 (x : Int) (IntKind.u64.wrap (-(x : Int))) * 285870213051353865) / 288230376151711744 = (idx : Int))
    (hi : idx < 64) (hk : k < 64) (hcell : w.cell? ⟨1, idx, none⟩ = some (.int .u8 k)) :
    Calls Tryz.prog 194 #[.int .u64 x] w fun e w' => e = .returned (.int .i64 k) ∧ w' = w := by
  go_enter Tryz.func194, Tryz.ntmps194
  go_wp2_with (simp only [key])
  go_ret
  exact ⟨rfl, rfl⟩

set_option maxRecDepth 100000 in
theorem tz_zero (w : World) : Calls Tryz.prog 194 #[.int .u64 0] w fun e w' => e = .returned (.int .i64 64) ∧ w' = w := by
  go_enter Tryz.func194, Tryz.ntmps194
  go_wp2
  go_ret
  exact ⟨rfl, rfl⟩

set_option maxRecDepth 100000 in
theorem tz_any (x : Nat) (hx : x < 18446744073709551616) (w : World) (hT : Tab w) :
    Calls Tryz.prog 194 #[.int .u64 (x : Nat)] w fun e w' => e = .returned (.int .i64 (Lib.ctz 64 x : Nat)) ∧ w' = w := by
  by_cases hx0 : x = 0
  · subst hx0
    exact tz_zero w
  · obtain ⟨hlow, hk⟩ := Lib.lowest_bit 64 x hx0 hx
    obtain ⟨hi, htab⟩ := Lib.deBruijn64_at _ hk
    have hcell := hT _ hi
    rw [htab] at hcell
    exact tz_core x _ _ w (by simp; omega) (tz64_key x _ hx hx0 hlow) hi hk hcell

set_option maxRecDepth 100000 in
set_option maxHeartbeats 2000000 in
theorem ones_core (x A B X1 A2 B2 X2 S X3 X4 X5 X6 p : Nat) (hx6 : X6 < 9223372036854775808) (h1 : bits .and .u64 ((x : Int) / 2) 6148914691236517205 = (A : Int)) (h2 : bits .and .u64 (x : Int) 6148914691236517205 = (B : Int))
    (w1 : IntKind.u64.wrap ((A : Int) + B) = X1) (h3 : bits .and .u64 ((X1 : Int) / 4) 3689348814741910323 = (A2 : Int)) (h4 : bits .and .u64 (X1 : Int) 3689348814741910323 = (B2 : Int)) (w2 : IntKind.u64.wrap ((A2 : Int) + B2) = X2)
    (w3 : IntKind.u64.wrap ((X2 : Int) / 16 + X2) = S) (h5 : bits .and .u64 (S : Int) 1085102592571150095 = (X3 : Int)) (w4 : IntKind.u64.wrap ((X3 : Int) + X3 / 256) = X4) (w5 : IntKind.u64.wrap ((X4 : Int) + X4 / 65536) = X5)
    (w6 : IntKind.u64.wrap ((X5 : Int) + X5 / 4294967296) = X6) (w7 : bits .and .i64 (X6 : Int) 127 = p) (w : World) :
    Calls Tryz.prog 155 #[.int .u64 (x : Nat)] w fun e w' => e = .returned (.int .i64 p) ∧ w' = w := by
  go_enter Tryz.func155, Tryz.ntmps155
  go_wp2_with (simp only [h1, h2, w1, h3, h4, w2, w3, h5, w4, w5, w6, w7])
  go_ret
  exact ⟨rfl, rfl⟩

set_option maxRecDepth 100000 in
theorem and127 (x : Nat) (hx : x < 9223372036854775808) : bits .and .i64 (x : Int) 127 = ((x % 128 : Nat) : Int) := by
  show IntKind.i64.wrap ((BitVec.ofInt 64 (x : Int) &&& BitVec.ofInt 64 127).toNat : Int) = _
  have h1 : (BitVec.ofInt 64 (x : Int)).toNat = x := by rw [BitVec.ofInt_natCast, BitVec.toNat_ofNat]; exact Nat.mod_eq_of_lt (by omega)
  have h2 : (BitVec.ofInt 64 127).toNat = 127 := by decide
  rw [BitVec.toNat_and, h1, h2, Nat.and_two_pow_sub_one_eq_mod x 7]
  simp [IntKind.wrap, IntKind.bits, IntKind.signed]
  omega

set_option maxRecDepth 100000 in
theorem ones_any (x : Nat) (hx : x < 18446744073709551616) (w : World) :
    Calls Tryz.prog 155 #[.int .u64 (x : Nat)] w fun e w' => e = .returned (.int .i64 (Pop.cnt 64 x : Nat)) ∧ w' = w := by
  obtain ⟨p, hp, _, c1, c2, c3, c4, c5⟩ := Pop.count x hx
  have hC := Pop.C8 x
  rw [← hp]
  have a1 : x / 2 &&& 6148914691236517205 ≤ 6148914691236517205 := Nat.and_le_right
  have a2 : x &&& 6148914691236517205 ≤ 6148914691236517205 := Nat.and_le_right
  have hw1 : Pop.way1 x = (x / 2 &&& 6148914691236517205) + (x &&& 6148914691236517205) := rfl
  have a3 : Pop.way1 x / 4 &&& 3689348814741910323 ≤ 3689348814741910323 := Nat.and_le_right
  have a4 : Pop.way1 x &&& 3689348814741910323 ≤ 3689348814741910323 := Nat.and_le_right
  have hw2 : Pop.way2 (Pop.way1 x) = (Pop.way1 x / 4 &&& 3689348814741910323) + (Pop.way1 x &&& 3689348814741910323) := rfl
  have h1 := u64_and_nat (x / 2) 6148914691236517205 (by omega) (by decide)
  have h2 := u64_and_nat x 6148914691236517205 hx (by decide)
  have h3 := u64_and_nat (Pop.way1 x / 4) 3689348814741910323 (by omega) (by decide)
  have h4 := u64_and_nat (Pop.way1 x) 3689348814741910323 (by omega) (by decide)
  have h5 := u64_and_nat (Pop.way2 (Pop.way1 x) / 16 + Pop.way2 (Pop.way1 x)) 1085102592571150095 (by omega) (by decide)
  rw [← hC] at h5
  refine ones_core x _ _ (Pop.way1 x) _ _ (Pop.way2 (Pop.way1 x)) (Pop.way2 (Pop.way1 x) / 16 + Pop.way2 (Pop.way1 x)) (Pop.C 8 x) (Pop.C 8 x + Pop.C 8 x / 256) ((Pop.C 8 x + Pop.C 8 x / 256) + (Pop.C 8 x + Pop.C 8 x / 256) / 65536) _ p c4 h1 h2 ?_ h3 h4 ?_ ?_ h5 ?_ ?_ ?_ ?_ w
  · rw [IntKind.wrap_u64]; omega
  · rw [IntKind.wrap_u64]; omega
  · rw [IntKind.wrap_u64]; omega
  · rw [IntKind.wrap_u64]; omega
  · rw [IntKind.wrap_u64]; omega
  · rw [IntKind.wrap_u64]; omega
  · rw [and127 _ c4, c5]

/-- A bitmap in memory: its words from off on, in block g. -/
structure WordsAt (w : World) (g off : Nat) (T : Nat → Nat) : Prop where
  cell : ∀ i, i < 256 → w.cell? ⟨g, off + i, none⟩ = some (.int .u64 (T i : Nat))
  fz : ∀ o, w.frozen? ⟨g, o, none⟩ = false
  lt : ∀ i, T i < 18446744073709551616
  blk : g < w.heap.size

set_option maxRecDepth 100000 in
theorem WordsAt.turn {w w' : World} {S : List Nat} {g off : Nat} {T : Nat → Nat} (h : WordsAt w g off T) (hT : Turn S w w') (hg : g ∉ S) : WordsAt w' g off T :=
  ⟨fun i hi => (hT.cell (p := ⟨g, off + i, none⟩) h.blk hg).trans (h.cell i hi), fun o => (World.frozen?_of_block (a := ⟨g, o, none⟩) (hT.block g h.blk hg)).trans (h.fz o), h.lt, Nat.lt_of_lt_of_le h.blk hT.size⟩
set_option maxRecDepth 100000 in
theorem WordsAt.drew {w : World} {g off : Nat} {T : Nat → Nat} (h : WordsAt w g off T) : WordsAt w.drew g off T := ⟨h.cell, h.fz, h.lt, h.blk⟩
set_option maxRecDepth 100000 in
theorem WordsAt.set {w : World} {g off : Nat} {T : Nat → Nat} (h : WordsAt w g off T) (k x : Nat) (hk : k < 256) (hx : x < 18446744073709551616) : WordsAt (w.setCell ⟨g, off + k, none⟩ (.int .u64 (x : Nat))) g off (setB T k x) := by
  refine ⟨fun i hi => ?_, fun o => by rw [World.frozen?_setCell]; exact h.fz o, fun i => by unfold setB; split; exact hx; exact h.lt i, by rw [World.size_setCell]; exact h.blk⟩
  unfold setB
  by_cases e : i = k
  · subst e
    rw [if_pos rfl]
    exact World.cell?_setCell_same _ _ _ (h.cell i hk)
  · rw [if_neg e, World.cell?_setCell_other _ _ _ _ (off_ne (fun h => e (by omega)))]
    exact h.cell i hi

/-- Block g's words from off on alone have turned. -/
structure Wturn (g off : Nat) (w w' : World) : Prop where
  turn : Turn [g] w w'
  out : ∀ o, o < off ∨ off + 256 ≤ o → w'.cell? ⟨g, o, none⟩ = w.cell? ⟨g, o, none⟩
set_option maxRecDepth 100000 in
theorem Wturn.refl (g off : Nat) (w : World) : Wturn g off w w := ⟨Turn.refl _ _, fun _ _ => rfl⟩
set_option maxRecDepth 100000 in
theorem Wturn.trans {g off : Nat} {u v w : World} (h : Wturn g off u v) (k : Wturn g off v w) : Wturn g off u w := ⟨h.turn.trans k.turn, fun o ho => (k.out o ho).trans (h.out o ho)⟩
set_option maxRecDepth 100000 in
theorem Wturn.drew {g off : Nat} {u w : World} (h : Wturn g off u w) : Wturn g off u w.drew := ⟨h.turn.drew, h.out⟩
set_option maxRecDepth 100000 in
theorem Wturn.setCell {g off : Nat} {u w : World} (h : Wturn g off u w) (k : Nat) (v : Value) (hk : k < 256) : Wturn g off u (w.setCell ⟨g, off + k, none⟩ v) :=
  ⟨h.turn.setCell (List.mem_singleton.2 rfl) _ _, fun o ho => (World.cell?_setCell_other _ _ _ _ (off_ne (by omega))).trans (h.out o ho)⟩

def bit (T : Nat → Nat) (n : Nat) : Bool := (T (n / 64)).testBit (n % 64)
def takeW (T : Nat → Nat) (n : Nat) : Nat → Nat := setB T (n / 64) (T (n / 64) ||| 2 ^ (n % 64))
def freeW (T : Nat → Nat) (n : Nat) : Nat → Nat := setB T (n / 64) (T (n / 64) &&& (18446744073709551615 - 2 ^ (n % 64)))

set_option maxRecDepth 100000 in
theorem pow64 (j : Nat) (h : j < 64) : 2 ^ j ≤ 9223372036854775808 := Nat.pow_le_pow_right (n := 2) (by decide) (show j ≤ 63 by omega)

set_option maxRecDepth 100000 in
theorem wrap_pow (j : Nat) (h : j < 64) : IntKind.u64.wrap ((2 : Int) ^ j) = ((2 ^ j : Nat) : Int) := by
  have := pow64 j h
  rw [IntKind.wrap_u64, show ((2 : Int) ^ j) = ((2 ^ j : Nat) : Int) by push_cast; rfl]
  generalize 2 ^ j = q at *
  omega

set_option maxRecDepth 100000 in
theorem bit_takeW (T : Nat → Nat) (n k : Nat) : bit (takeW T n) k = (bit T k || decide (k = n)) := by
  unfold bit takeW setB
  by_cases h : k / 64 = n / 64
  · rw [if_pos h, Nat.testBit_or, Nat.testBit_two_pow, h]
    congr 1
    apply decide_eq_decide.2
    omega
  · rw [if_neg h]
    have : k ≠ n := fun e => h (by rw [e])
    simp [this]

set_option maxRecDepth 100000 in
theorem not_bit (j i : Nat) (hj : j < 64) (hi : i < 64) : (18446744073709551615 - 2 ^ j).testBit i = !decide (j = i) := by
  have h1 : 2 ^ j < 2 ^ 64 := Nat.pow_lt_pow_right (by decide) hj
  have := Nat.testBit_two_pow_sub_succ (n := 64) h1 i
  rw [show (2 : Nat) ^ 64 - (2 ^ j + 1) = 18446744073709551615 - 2 ^ j from by omega] at this
  rw [this, Nat.testBit_two_pow]
  simp [hi]

set_option maxRecDepth 100000 in
theorem bit_freeW (T : Nat → Nat) (n k : Nat) : bit (freeW T n) k = (bit T k && !decide (k = n)) := by
  unfold bit freeW setB
  by_cases h : k / 64 = n / 64
  · rw [if_pos h, Nat.testBit_and, not_bit _ _ (Nat.mod_lt _ (by decide)) (Nat.mod_lt _ (by decide)), h]
    congr 2
    apply decide_eq_decide.2
    omega
  · rw [if_neg h]
    have : k ≠ n := fun e => h (by rw [e])
    simp [this]

set_option maxRecDepth 100000 in
theorem takeW_lt {T : Nat → Nat} (h : ∀ i, T i < 18446744073709551616) (n : Nat) : T (n / 64) ||| 2 ^ (n % 64) < 18446744073709551616 :=
  Nat.or_lt_two_pow (n := 64) (h _) (Nat.pow_lt_pow_right (by decide) (Nat.mod_lt _ (by decide)))
set_option maxRecDepth 100000 in
theorem freeW_lt {T : Nat → Nat} (h : ∀ i, T i < 18446744073709551616) (n : Nat) : T (n / 64) &&& (18446744073709551615 - 2 ^ (n % 64)) < 18446744073709551616 :=
  Nat.lt_of_le_of_lt Nat.and_le_left (h _)

set_option maxRecDepth 100000 in
set_option maxHeartbeats 2000000 in
theorem take_any (g off n : Nat) (T : Nat → Nat) (hn : n < 16384) (w : World) (hW : WordsAt w g off T) :
    Calls Tryz.prog 164 #[.pointer (some ⟨g, off, none⟩), .int .i64 (n : Nat)] w fun e w' => e = .returned (.tuple #[]) ∧ WordsAt w' g off (takeW T n) ∧ Wturn g off w w' := by
  have hc := hW.cell (n / 64) (by omega)
  have hz := hW.fz (off + n / 64)
  have ht := hW.lt (n / 64)
  have hp := pow64 (n % 64) (by omega)
  have hor := u64_or_nat (T (n / 64)) (2 ^ (n % 64)) ht (by omega)
  have HW := hide hW
  clear hW
  go_enter Tryz.func164, Tryz.ntmps164
  go_wp2_with fail
  go_region
  go_end0
  refine ⟨rfl, ?_, ((Wturn.refl _ _ _).setCell _ _ (by omega)).drew⟩
  rw [wrap_pow (n % 64) (by omega), hor]
  exact (HW.out.set (n / 64) _ (by omega) (takeW_lt HW.out.lt n)).drew

set_option maxRecDepth 100000 in
set_option maxHeartbeats 2000000 in
theorem free_any (g off n : Nat) (T : Nat → Nat) (hn : n < 16384) (w : World) (hW : WordsAt w g off T) :
    Calls Tryz.prog 137 #[.pointer (some ⟨g, off, none⟩), .int .i64 (n : Nat)] w fun e w' => e = .returned (.tuple #[]) ∧ WordsAt w' g off (freeW T n) ∧ Wturn g off w w' := by
  have hc := hW.cell (n / 64) (by omega)
  have hz := hW.fz (off + n / 64)
  have ht := hW.lt (n / 64)
  have hp := pow64 (n % 64) (by omega)
  have hor := u64_andNot_nat (T (n / 64)) (2 ^ (n % 64)) ht (by omega)
  have HW := hide hW
  clear hW
  go_enter Tryz.func137, Tryz.ntmps137
  go_wp2_with fail
  go_region
  go_end0
  refine ⟨rfl, ?_, ((Wturn.refl _ _ _).setCell _ _ (by omega)).drew⟩
  rw [wrap_pow (n % 64) (by omega), hor]
  exact (HW.out.set (n / 64) _ (by omega) (freeW_lt HW.out.lt n)).drew

set_option maxRecDepth 100000 in
theorem bit_and1 (x j : Nat) (hx : x < 18446744073709551616) : (bits .and .u64 ((x : Int) / 2 ^ j) 1 == 1) = x.testBit j := by
  have h1 : x / 2 ^ j < 18446744073709551616 := Nat.lt_of_le_of_lt (Nat.div_le_self _ _) hx
  have := u64_and_nat (x / 2 ^ j) 1 h1 (by decide)
  rw [show (((x / 2 ^ j : Nat)) : Int) = (x : Int) / 2 ^ j by push_cast; rfl, show ((1 : Nat) : Int) = 1 from rfl] at this
  rw [this, Nat.and_one_is_mod, Nat.testBit_eq_decide_div_mod_eq]
  by_cases h : x / 2 ^ j % 2 = 1
  · rw [h]; simp
  · have h0 : x / 2 ^ j % 2 = 0 := by omega
    rw [h0]; simp

set_option maxRecDepth 100000 in
set_option maxHeartbeats 2000000 in
theorem isTaken_any (g off n : Nat) (T : Nat → Nat) (hn : n < 16384) (w : World) (hW : WordsAt w g off T) :
    Calls Tryz.prog 127 #[.pointer (some ⟨g, off, none⟩), .int .i64 (n : Nat)] w fun e w' => e = .returned (.bool (bit T n)) ∧ w' = w := by
  have hc := hW.cell (n / 64) (by omega)
  have ht := hW.lt (n / 64)
  have HB := hide (bit_and1 (T (n / 64)) (n % 64) ht)
  have hs := shr_var 64 (T (n / 64) : Int) ((n : Int) % 64) (by omega) (by omega)
  rw [if_neg (by omega)] at hs
  clear hW
  go_enter Tryz.func127, Tryz.ntmps127
  go_wp2
  go_ret
  refine ⟨?_, rfl⟩
  have := HB.out
  unfold bit
  rw [← this]
  rfl

/- The first free one. -/
set_option maxRecDepth 100000 in
theorem ctz_bit (x : Nat) (h0 : x ≠ 0) (hx : x < 18446744073709551616) : Lib.ctz 64 x < 64 ∧ x.testBit (Lib.ctz 64 x) = true ∧ ∀ j, j < Lib.ctz 64 x → x.testBit j = false := by
  obtain ⟨m, hm, hlt⟩ := Lib.ctzFrom_spec 64 x (by omega) hx
  have e : Lib.ctz 64 x = Lib.ctzFrom 64 x := by unfold Lib.ctz; rw [if_neg h0]
  rw [e]
  generalize Lib.ctzFrom 64 x = c at *
  refine ⟨hlt, ?_, ?_⟩
  · rw [hm, Nat.testBit_two_pow_mul, Nat.sub_self]
    simp
  · intro j hj
    rw [hm, Nat.testBit_two_pow_mul]
    have : ¬ c ≤ j := by omega
    simp [this]

def notW (x : Nat) : Nat := 18446744073709551615 ^^^ x
set_option maxRecDepth 100000 in
theorem notW_lt (x : Nat) (hx : x < 18446744073709551616) : notW x < 18446744073709551616 := Nat.xor_lt_two_pow (n := 64) (by decide) hx
set_option maxRecDepth 100000 in
theorem notW_bit (x j : Nat) (hj : j < 64) : (notW x).testBit j = !x.testBit j := by
  unfold notW
  rw [Nat.testBit_xor, show (18446744073709551615 : Nat) = 2 ^ 64 - 1 from rfl, Nat.testBit_two_pow_sub_one]
  simp [hj]
set_option maxRecDepth 100000 in
theorem notW_zero (x : Nat) (hx : notW x = 0) (j : Nat) (hj : j < 64) : x.testBit j = true := by
  have := notW_bit x j hj
  rw [hx, Nat.zero_testBit] at this
  simpa using this.symm

/-- What firstFree tells. -/
def FirstFree (T : Nat → Nat) (v : Value) (ok : Bool) : Prop := (ok = true ∧ ∃ n : Nat, v = .int .i64 (n : Nat) ∧ n < 16384 ∧ bit T n = false ∧ ∀ k, k < n → bit T k = true) ∨ (ok = false ∧ v = .int .i64 0 ∧ ∀ k, k < 16384 → bit T k = true)

set_option maxRecDepth 100000 in
set_option maxHeartbeats 2000000 in
theorem firstFree_any (g off : Nat) (T : Nat → Nat) (w : World) (hW : WordsAt w g off T) (hTab : Tab w) :
    Calls Tryz.prog 161 #[.pointer (some ⟨g, off, none⟩)] w fun e w' => ∃ v ok, e = .returned (.tuple #[v, .bool ok]) ∧ FirstFree T v ok ∧ Turn [] w w' := by
  have HTab := hide hTab
  have HW := hide hW
  clear hTab hW
  go_enter Tryz.func161, Tryz.ntmps161
  go_wp2
  go_loopw [8] (fun i wr => ∃ j : Nat, j ≤ 256 ∧ i = .int .i64 j ∧ (∀ k, k < 64 * j → bit T k = true) ∧ Turn [] w wr) (fun i _ => 256 - (intOf i).toNat)
  case atStart => exact ⟨0, Nat.zero_le _, rfl, fun k hk => by omega, Turn.refl _ _⟩
  case round =>
    obtain ⟨j, hj, rfl, hall, hTr⟩ := hrel
    have Hall := hide hall
    clear hall
    by_cases hlt : j < 256
    · have hc := (HW.out.turn hTr (by simp)).cell j hlt
      have ht := HW.out.lt j
      have hn := u64_xor_nat 18446744073709551615 (T j) (by decide) ht
      have hnl := notW_lt (T j) ht
      have hTab2 : Tab wr := fun i hi => (hTr.cell (p := ⟨1, i, none⟩) (lt_of_cell (HTab.out 0 (by omega))) (by simp)).trans (HTab.out i hi)
      have HTab2 := hide hTab2
      clear hTab2
      have hn' : bits .xor .u64 IntKind.u64.max ((T j : Nat) : Int) = ((notW (T j) : Nat) : Int) := hn
      clear hn
      have HC : Hid ((Lib.ctz 64 (notW (T j)) = 64 ∧ ∀ i, i < 64 → (T j).testBit i = true) ∨ (Lib.ctz 64 (notW (T j)) < 64 ∧ (T j).testBit (Lib.ctz 64 (notW (T j))) = false ∧ ∀ i, i < Lib.ctz 64 (notW (T j)) → (T j).testBit i = true)) := by
        show _ ∨ _
        by_cases hx0 : notW (T j) = 0
        · left
          exact ⟨by rw [hx0]; rfl, notW_zero _ hx0⟩
        · right
          obtain ⟨h1, h2, h3⟩ := ctz_bit _ hx0 hnl
          refine ⟨h1, ?_, ?_⟩
          · rw [notW_bit _ _ h1] at h2; simpa using h2
          · intro i hi
            have := h3 i hi
            rw [notW_bit _ _ (by omega)] at this
            simpa using this
      have HT := hide (fun nq => tz_any (notW (T j)) hnl (wr.drewN nq) HTab2.out)
      generalize notW (T j) = x at *
      generalize Lib.ctz 64 x = c at *
      have hc64 : c ≤ 64 := by rcases HC.out with h | h <;> omega
      go_wp2_with fail
      go_quiet (fail)
      go_wp2_with fail
      refine (HT.out _).mono ?_
      rintro e w2 ⟨rfl, rfl⟩
      by_cases hcl : c < 64
      · go_wp2_with fail
        go_ret2
        refine ⟨_, _, rfl, .inl ⟨rfl, 64 * j + c, ?_, by omega, ?_, ?_⟩, hTr.drewN _⟩
        · go_num
        · obtain ⟨h1, _⟩ | ⟨_, h1, _⟩ := HC.out
          · omega
          · unfold bit
            rw [show (64 * j + c) / 64 = j by omega, show (64 * j + c) % 64 = c by omega]
            exact h1
        · intro k hk
          by_cases hkj : k < 64 * j
          · exact Hall.out k hkj
          · obtain ⟨h1, _⟩ | ⟨_, _, h1⟩ := HC.out
            · omega
            · unfold bit
              rw [show k / 64 = j by omega]
              exact h1 _ (by omega)
      · have hc64' : Hid (c = 64) := by show c = 64; omega
        go_wp2_with fail
        go_roundw
        case rel =>
          refine ⟨j + 1, by omega, by go_num, fun k hk => ?_, hTr.drewN _⟩
          by_cases hkj : k < 64 * j
          · exact Hall.out k hkj
          · obtain ⟨_, h1⟩ | ⟨h1, _⟩ := HC.out
            · unfold bit
              rw [show k / 64 = j by omega]
              exact h1 _ (by omega)
            · exact absurd h1 hcl
        case measure => simp [intOf]; omega
    · obtain rfl : j = 256 := by omega
      go_wp2
      go_ret2
      exact ⟨_, _, rfl, .inr ⟨rfl, rfl, Hall.out⟩, hTr⟩

/-- How many are free. -/
def freeCount (t : Nat → Bool) (n : Nat) : Nat := (List.range n).countP fun k => !t k

set_option maxRecDepth 100000 in
theorem freeCount_step (T : Nat → Nat) (j : Nat) : freeCount (bit T) (64 * (j + 1)) = freeCount (bit T) (64 * j) + Pop.cnt 64 (notW (T j)) := by
  unfold freeCount Pop.cnt
  rw [Nat.mul_succ, List.range_add, List.countP_append, List.countP_map]
  congr 1
  apply List.countP_congr
  intro k hk
  have hk := List.mem_range.1 hk
  show (!bit T (64 * j + k)) = true ↔ _
  unfold bit
  rw [show (64 * j + k) / 64 = j by omega, show (64 * j + k) % 64 = k by omega, notW_bit _ _ hk]

set_option maxRecDepth 100000 in
theorem freeCount_le (t : Nat → Bool) (n : Nat) : freeCount t n ≤ n := by
  have := List.countP_le_length (p := fun k => !t k) (l := List.range n)
  rw [List.length_range] at this
  exact this

set_option maxRecDepth 100000 in
set_option maxHeartbeats 2000000 in
theorem countFree_any (g off : Nat) (T : Nat → Nat) (w : World) (hW : WordsAt w g off T) :
    Calls Tryz.prog 128 #[.pointer (some ⟨g, off, none⟩)] w fun e w' => e = .returned (.int .i64 (freeCount (bit T) 16384 : Nat)) ∧ w' = w := by
  have HW := hide hW
  clear hW
  go_enter Tryz.func128, Tryz.ntmps128
  go_wp2
  go_loop [3, 7] (fun n i => ∃ j : Nat, j ≤ 256 ∧ i = .int .i64 j ∧ n = .int .i64 (freeCount (bit T) (64 * j) : Nat)) (fun _ i => 256 - (intOf i).toNat)
  case atStart => exact ⟨0, Nat.zero_le _, rfl, rfl⟩
  case round =>
    obtain ⟨j, hj, rfl, rfl⟩ := hrel
    by_cases hlt : j < 256
    · have hc := HW.out.cell j hlt
      have ht := HW.out.lt j
      have hn' : bits .xor .u64 IntKind.u64.max ((T j : Nat) : Int) = ((notW (T j) : Nat) : Int) := u64_xor_nat 18446744073709551615 (T j) (by decide) ht
      have HO := hide (ones_any (notW (T j)) (notW_lt (T j) ht) w)
      have HS := hide (freeCount_step T j)
      have h1 := freeCount_le (bit T) (64 * j)
      have hcl : Pop.cnt 64 (notW (T j)) ≤ 64 := by
        have := List.countP_le_length (p := fun i => (notW (T j)).testBit i) (l := List.range 64)
        rw [List.length_range] at this
        exact this
      generalize freeCount (bit T) (64 * j) = f at *
      generalize Pop.cnt 64 (notW (T j)) = c at *
      generalize notW (T j) = x at *
      go_wp2_with fail
      refine HO.out.mono ?_
      rintro e w2 ⟨rfl, rfl⟩
      go_wp2_with fail
      go_round
      case rel => exact ⟨j + 1, hlt, by go_num, by rw [HS.out]; go_num⟩
      case measure => simp [intOf]; omega
    · obtain rfl : j = 256 := by omega
      go_wp2
      go_ret
      exact ⟨rfl, rfl⟩

set_option maxRecDepth 100000 in
set_option maxHeartbeats 2000000 in
theorem takeAll_any (g off fr to : Nat) (T : Nat → Nat) (hf : fr ≤ 16384) (ht : to ≤ 16384) (w : World) (hW : WordsAt w g off T) :
    Calls Tryz.prog 190 #[.pointer (some ⟨g, off, none⟩), .int .i64 (fr : Nat), .int .i64 (to : Nat)] w fun e w' => e = .returned (.tuple #[]) ∧ (∃ T', WordsAt w' g off T' ∧ ∀ k, k < 16384 → bit T' k = (bit T k || decide (k < fr) || decide (to ≤ k))) ∧ Wturn g off w w' := by
  have HW := hide hW
  clear hW
  go_enter Tryz.func190, Tryz.ntmps190
  go_wp2
  go_loopw [9] (fun i wr => ∃ j : Nat, j ≤ fr ∧ i = .int .i64 j ∧ (∃ T', WordsAt wr g off T' ∧ ∀ k, k < 16384 → bit T' k = (bit T k || decide (k < j))) ∧ Wturn g off w wr) (fun i _ => fr - (intOf i).toNat)
  case atStart => exact ⟨0, Nat.zero_le _, rfl, ⟨T, HW.out, fun k _ => by simp⟩, Wturn.refl _ _ _⟩
  case round =>
    obtain ⟨j, hj, rfl, ⟨T1, hW1, hb1⟩, hT1⟩ := hrel
    have HW1 := hide hW1
    have HB1 := hide hb1
    clear hW1 hb1 HW
    by_cases hlt : j < fr
    · go_wp2_with fail
      refine (take_any g off j T1 (by omega) _ HW1.out).mono ?_
      rintro e w2 ⟨rfl, hW2, hT2⟩
      have HW2 := hide hW2
      clear hW2
      go_wp2_with fail
      go_roundw
      case rel =>
        refine ⟨j + 1, by omega, by go_num, ⟨_, HW2.out, fun k hk => ?_⟩, hT1.trans hT2⟩
        rw [bit_takeW, HB1.out k hk, Bool.or_assoc]
        congr 1
        rw [← Bool.decide_or]
        apply decide_eq_decide.2
        omega
      case measure => simp [intOf]; omega
    · obtain rfl : j = fr := by omega
      go_wp2_with fail
      obtain ⟨w1, hw1⟩ : ∃ w1 : World, w1 = wr := ⟨_, rfl⟩
      go_loopw [7] (fun i wr2 => ∃ q : Nat, to ≤ q ∧ q ≤ 16384 ∧ i = .int .i64 q ∧ (∃ T', WordsAt wr2 g off T' ∧ ∀ k, k < 16384 → bit T' k = (bit T k || decide (k < j) || (decide (to ≤ k) && decide (k < q)))) ∧ Wturn g off w wr2) (fun i _ => 16384 - (intOf i).toNat)
      case atStart => exact ⟨to, Nat.le_refl _, ht, rfl, ⟨T1, HW1.out, fun k hk => by rw [HB1.out k hk]; by_cases h : to ≤ k <;> simp [h] <;> omega⟩, hT1⟩
      case round =>
        obtain ⟨q, hq1, hq2, rfl, ⟨T2, hW2, hb2⟩, hT2⟩ := hrel
        have HW2 := hide hW2
        have HB2 := hide hb2
        clear hW2 hb2
        by_cases hlt : q < 16384
        · go_wp2_with fail
          refine (take_any g off q T2 (by omega) _ HW2.out).mono ?_
          rintro e w2 ⟨rfl, hW3, hT3⟩
          have HW3 := hide hW3
          clear hW3
          go_wp2_with fail
          go_roundw
          case rel =>
            refine ⟨q + 1, by omega, by omega, by go_num, ⟨_, HW3.out, fun k hk => ?_⟩, hT2.trans hT3⟩
            rw [bit_takeW, HB2.out k hk, Bool.or_assoc]
            congr 1
            rw [← Bool.decide_and, ← Bool.decide_and, ← Bool.decide_or]
            apply decide_eq_decide.2
            omega
          case measure => simp [intOf]; omega
        · obtain rfl : q = 16384 := by omega
          go_wp2_with fail
          go_end0
          refine ⟨rfl, ⟨T2, HW2.out, fun k hk => ?_⟩, hT2⟩
          rw [HB2.out k hk]
          simp [hk]
end Go.Proofs.YthgpjkcgccdldaaGreatDoor
