/-
  How many bits of a word are set: the library's way of counting comes to that.
-/
import Derived.Test.YthgpjkcgccdldaaGreatDoorRows

namespace Go.Proofs.YthgpjkcgccdldaaGreatDoor.Pop

/-- A mask of n bytes, each a. -/
def M (a : Nat) : Nat → Nat
  | 0 => 0
  | n + 1 => 256 * M a n + a

def S1 (n x : Nat) : Nat := (x / 2 &&& M 85 n) + (x &&& M 85 n)
def S2 (n x : Nat) : Nat := (x / 4 &&& M 51 n) + (x &&& M 51 n)
def S3 (n x : Nat) : Nat := (x / 16 + x) &&& M 15 n
def s1 (b : Nat) : Nat := (b / 2 &&& 85) + (b &&& 85)
def s2 (b : Nat) : Nat := (b / 4 &&& 51) + (b &&& 51)
def s3 (b : Nat) : Nat := (b / 16 + b) % 16

set_option maxRecDepth 100000 in
theorem and256 (a b c d : Nat) (hb : b < 256) (hd : d < 256) : (256 * a + b) &&& (256 * c + d) = 256 * (a &&& c) + (b &&& d) := by
  have h1 := Nat.two_pow_add_eq_or_of_lt (i := 8) hb a
  have h2 := Nat.two_pow_add_eq_or_of_lt (i := 8) hd c
  have hbd : b &&& d < 2 ^ 8 := Nat.lt_of_le_of_lt Nat.and_le_left hb
  have h3 := Nat.two_pow_add_eq_or_of_lt (i := 8) hbd (a &&& c)
  rw [show (256 : Nat) = 2 ^ 8 from rfl, h1, h2, h3]
  apply Nat.eq_of_testBit_eq
  intro i
  simp only [Nat.testBit_and, Nat.testBit_or, Nat.testBit_two_pow_mul]
  by_cases h : 8 ≤ i
  · have hb' : b.testBit i = false := Nat.testBit_lt_two_pow (Nat.lt_of_lt_of_le hb (Nat.pow_le_pow_right (n := 2) (by decide) h))
    have hd' : d.testBit i = false := Nat.testBit_lt_two_pow (Nat.lt_of_lt_of_le hd (Nat.pow_le_pow_right (n := 2) (by decide) h))
    simp [h, hb', hd']
  · simp [h]

set_option maxRecDepth 100000 in
theorem bytes (P : Nat → Prop) (h : ∀ b : Fin 256, P b.val) (b : Nat) (hb : b < 256) : P b := h ⟨b, hb⟩

set_option maxRecDepth 100000 in
theorem f1 : ∀ q : Fin 2, ∀ b : Fin 256, (q.val * 128 + b.val / 2) &&& 85 = (b.val / 2 &&& 85) := by decide +kernel
set_option maxRecDepth 100000 in
theorem f2 : ∀ q : Fin 4, ∀ b : Fin 256, (q.val * 64 + b.val / 4) &&& 51 = (b.val / 4 &&& 51) := by decide +kernel
set_option maxRecDepth 100000 in
theorem f3 : ∀ b : Fin 256, s1 b.val < 256 ∧ s2 (s1 b.val) ≤ 68 ∧ s2 (s1 b.val) % 16 ≤ 4 ∧ s3 (s2 (s1 b.val)) ≤ 8 := by decide +kernel

set_option maxRecDepth 100000 in
theorem S1_step (n q b : Nat) (hb : b < 256) : S1 (n + 1) (256 * q + b) = 256 * S1 n q + s1 b := by
  have e1 : (256 * q + b) / 2 = 256 * (q / 2) + (q % 2 * 128 + b / 2) := by omega
  have h1 := f1 ⟨q % 2, by omega⟩ ⟨b, hb⟩
  unfold S1 s1
  show ((256 * q + b) / 2 &&& (256 * M 85 n + 85)) + ((256 * q + b) &&& (256 * M 85 n + 85)) = _
  rw [e1, and256 _ _ _ _ (by omega) (by omega), and256 _ _ _ _ hb (by omega)]
  simp only at h1
  rw [h1]
  omega
set_option maxRecDepth 100000 in
theorem S2_step (n q b : Nat) (hb : b < 256) : S2 (n + 1) (256 * q + b) = 256 * S2 n q + s2 b := by
  have e1 : (256 * q + b) / 4 = 256 * (q / 4) + (q % 4 * 64 + b / 4) := by omega
  have h1 := f2 ⟨q % 4, by omega⟩ ⟨b, hb⟩
  unfold S2 s2
  show ((256 * q + b) / 4 &&& (256 * M 51 n + 51)) + ((256 * q + b) &&& (256 * M 51 n + 51)) = _
  rw [e1, and256 _ _ _ _ (by omega) (by omega), and256 _ _ _ _ hb (by omega)]
  simp only at h1
  rw [h1]
  omega
def Y (n x : Nat) : Nat := S2 n (S1 n x)
set_option maxRecDepth 100000 in
theorem Y_step (n q b : Nat) (hb : b < 256) : Y (n + 1) (256 * q + b) = 256 * Y n q + s2 (s1 b) := by
  unfold Y
  rw [S1_step n q b hb, S2_step _ _ _ (f3 ⟨b, hb⟩).1]
set_option maxRecDepth 100000 in
theorem Y_zero (x : Nat) : Y 0 x = 0 := by simp [Y, S1, S2, M]
set_option maxRecDepth 100000 in
theorem Y_mod (n x : Nat) : Y n x % 16 ≤ 4 := by
  cases n with
  | zero => rw [Y_zero]; omega
  | succ n =>
    have e : x = 256 * (x / 256) + x % 256 := by omega
    rw [e, Y_step n _ _ (by omega)]
    have := (f3 ⟨x % 256, by omega⟩).2.2.1
    simp only at this
    omega
def C (n x : Nat) : Nat := S3 n (Y n x)
set_option maxRecDepth 100000 in
theorem C_step (n q b : Nat) (hb : b < 256) : C (n + 1) (256 * q + b) = 256 * C n q + s3 (s2 (s1 b)) := by
  unfold C
  rw [Y_step n q b hb]
  have hm := Y_mod n q
  have h68 := (f3 ⟨b, hb⟩).2.1
  simp only at h68
  generalize Y n q = Q at *
  generalize s2 (s1 b) = β at *
  unfold S3 s3
  have e : (256 * Q + β) / 16 + (256 * Q + β) = 256 * (Q / 16 + Q) + (Q % 16 * 16 + (β / 16 + β)) := by omega
  show ((256 * Q + β) / 16 + (256 * Q + β)) &&& (256 * M 15 n + 15) = _
  rw [e, and256 _ _ _ _ (by omega) (by omega)]
  have e2 : (Q % 16 * 16 + (β / 16 + β)) &&& 15 = (Q % 16 * 16 + (β / 16 + β)) % 16 := Nat.and_two_pow_sub_one_eq_mod _ 4
  rw [e2]
  omega
set_option maxRecDepth 100000 in
theorem C_zero (x : Nat) : C 0 x = 0 := by simp [C, S3, M]

/-- The bits of a byte that are set. -/
def cnt (n x : Nat) : Nat := (List.range n).countP fun j => x.testBit j
set_option maxRecDepth 100000 in
theorem cnt8 : ∀ b : Fin 256, s3 (s2 (s1 b.val)) = cnt 8 b.val := by decide +kernel
set_option maxRecDepth 100000 in
theorem cnt_step (n q b : Nat) (hb : b < 256) : cnt (8 + n) (256 * q + b) = cnt 8 b + cnt n q := by
  unfold cnt
  rw [List.range_add, List.countP_append]
  congr 1
  · apply List.countP_congr
    intro j hj
    have hj := List.mem_range.1 hj
    rw [show 256 * q + b = 2 ^ 8 * q + b from rfl, Nat.testBit_two_pow_mul_add q hb, if_pos hj]
  · rw [List.countP_map]
    apply List.countP_congr
    intro j _
    show (256 * q + b).testBit (8 + j) = true ↔ _
    rw [show 256 * q + b = 2 ^ 8 * q + b from rfl, Nat.testBit_two_pow_mul_add q hb, if_neg (by omega), Nat.add_sub_cancel_left]

set_option maxRecDepth 100000 in
theorem sums (p0 p1 p2 p3 p4 p5 p6 p7 : Nat) (h0 : p0 ≤ 8) (h1 : p1 ≤ 8) (h2 : p2 ≤ 8) (h3 : p3 ≤ 8) (h4 : p4 ≤ 8) (h5 : p5 ≤ 8) (h6 : p6 ≤ 8) (h7 : p7 ≤ 8) (x y z u : Nat)
    (hx : x = 256 * (256 * (256 * (256 * (256 * (256 * (256 * (256 * 0 + p7) + p6) + p5) + p4) + p3) + p2) + p1) + p0) (hy : y = x + x / 256) (hz : z = y + y / 65536) (hu : u = z + z / 4294967296) :
    u < 9223372036854775808 ∧ z < 9223372036854775808 ∧ y < 9223372036854775808 ∧ x < 9223372036854775808 ∧ u % 128 = p0 + p1 + p2 + p3 + p4 + p5 + p6 + p7 := by
  have e1 : x / 256 = 256 * (256 * (256 * (256 * (256 * (256 * p7 + p6) + p5) + p4) + p3) + p2) + p1 := by omega
  have e2 : y = 256 * (256 * (256 * (256 * (256 * (256 * (256 * p7 + (p6 + p7)) + (p5 + p6)) + (p4 + p5)) + (p3 + p4)) + (p2 + p3)) + (p1 + p2)) + (p0 + p1) := by omega
  clear hy e1
  have e3 : y / 65536 = 256 * (256 * (256 * (256 * (256 * p7 + (p6 + p7)) + (p5 + p6)) + (p4 + p5)) + (p3 + p4)) + (p2 + p3) := by omega
  have e4 : z = 256 * (256 * (256 * (256 * (256 * (256 * (256 * p7 + (p6 + p7)) + (p5 + p6 + p7)) + (p4 + p5 + (p6 + p7))) + (p3 + p4 + (p5 + p6))) + (p2 + p3 + (p4 + p5))) + (p1 + p2 + (p3 + p4))) + (p0 + p1 + (p2 + p3)) := by omega
  clear hz e3
  have e5 : z / 4294967296 = 256 * (256 * (256 * p7 + (p6 + p7)) + (p5 + p6 + p7)) + (p4 + p5 + (p6 + p7)) := by omega
  refine ⟨by omega, by omega, by omega, by omega, ?_⟩
  have e6 : u = 128 * (2 * (256 * (256 * (256 * (256 * (256 * (256 * p7 + (p6 + p7)) + (p5 + p6 + p7)) + (p4 + p5 + (p6 + p7))) + (p7 + (p3 + p4 + (p5 + p6)))) + (p6 + p7 + (p2 + p3 + (p4 + p5)))) + (p5 + p6 + p7 + (p1 + p2 + (p3 + p4))))) + (p0 + p1 + p2 + p3 + p4 + p5 + p6 + p7) := by omega
  omega

set_option maxRecDepth 100000 in
theorem count (x : Nat) (_hx : x < 18446744073709551616) :
    ∃ p : Nat, p = cnt 64 x ∧ p ≤ 64 ∧ C 8 x < 9223372036854775808 ∧ C 8 x + C 8 x / 256 < 9223372036854775808 ∧ (C 8 x + C 8 x / 256) + (C 8 x + C 8 x / 256) / 65536 < 9223372036854775808 ∧
      ((C 8 x + C 8 x / 256) + (C 8 x + C 8 x / 256) / 65536) + ((C 8 x + C 8 x / 256) + (C 8 x + C 8 x / 256) / 65536) / 4294967296 < 9223372036854775808 ∧
      (((C 8 x + C 8 x / 256) + (C 8 x + C 8 x / 256) / 65536) + ((C 8 x + C 8 x / 256) + (C 8 x + C 8 x / 256) / 65536) / 4294967296) % 128 = p := by
  have hs : ∀ (k y : Nat), C (k + 1) y = 256 * C k (y / 256) + cnt 8 (y % 256) ∧ cnt (8 + 8 * k) y = cnt 8 (y % 256) + cnt (8 * k) (y / 256) ∧ cnt 8 (y % 256) ≤ 8 := by
    intro k y
    have e : y = 256 * (y / 256) + y % 256 := by omega
    have h8 := cnt8 ⟨y % 256, by omega⟩
    have hle := (f3 ⟨y % 256, by omega⟩).2.2.2
    simp only at h8 hle
    refine ⟨?_, ?_, by omega⟩
    · conv => lhs; rw [e]
      rw [C_step k _ _ (by omega), h8]
    · conv => lhs; rw [e]
      exact cnt_step _ _ _ (by omega)
  obtain ⟨a0, b0, c0⟩ := hs 7 x
  obtain ⟨a1, b1, c1⟩ := hs 6 (x / 256)
  obtain ⟨a2, b2, c2⟩ := hs 5 (x / 256 / 256)
  obtain ⟨a3, b3, c3⟩ := hs 4 (x / 256 / 256 / 256)
  obtain ⟨a4, b4, c4⟩ := hs 3 (x / 256 / 256 / 256 / 256)
  obtain ⟨a5, b5, c5⟩ := hs 2 (x / 256 / 256 / 256 / 256 / 256)
  obtain ⟨a6, b6, c6⟩ := hs 1 (x / 256 / 256 / 256 / 256 / 256 / 256)
  obtain ⟨a7, b7, c7⟩ := hs 0 (x / 256 / 256 / 256 / 256 / 256 / 256 / 256)
  have hz : cnt (8 * 0) (x / 256 / 256 / 256 / 256 / 256 / 256 / 256 / 256) = 0 := rfl
  rw [C_zero] at a7
  rw [a7] at a6; rw [a6] at a5; rw [a5] at a4; rw [a4] at a3; rw [a3] at a2; rw [a2] at a1; rw [a1] at a0
  rw [hz] at b7
  simp only [show 8 + 8 * 0 = 8 * 1 from rfl, show 8 + 8 * 1 = 8 * 2 from rfl, show 8 + 8 * 2 = 8 * 3 from rfl, show 8 + 8 * 3 = 8 * 4 from rfl, show 8 + 8 * 4 = 8 * 5 from rfl, show 8 + 8 * 5 = 8 * 6 from rfl, show 8 + 8 * 6 = 8 * 7 from rfl, show 8 + 8 * 7 = 64 from rfl] at b0 b1 b2 b3 b4 b5 b6 b7
  have hh := sums _ _ _ _ _ _ _ _ c0 c1 c2 c3 c4 c5 c6 c7 (C 8 x) _ _ _ a0 rfl rfl rfl
  obtain ⟨u1, u2, u3, u4, u5⟩ := hh
  refine ⟨cnt 64 x, rfl, by omega, u4, u3, u2, u1, ?_⟩
  rw [u5]
  omega

/-- The library's way, with numbers as they are. -/
def way1 (x : Nat) : Nat := (x / 2 &&& 6148914691236517205) + (x &&& 6148914691236517205)
def way2 (x : Nat) : Nat := (x / 4 &&& 3689348814741910323) + (x &&& 3689348814741910323)
set_option maxRecDepth 100000 in
theorem masks : M 85 8 = 6148914691236517205 ∧ M 51 8 = 3689348814741910323 ∧ M 15 8 = 1085102592571150095 := by decide
set_option maxRecDepth 100000 in
theorem C8 (x : Nat) : C 8 x = (way2 (way1 x) / 16 + way2 (way1 x)) &&& 1085102592571150095 := by
  unfold C Y S1 S2 S3 way1 way2
  rw [masks.1, masks.2.1, masks.2.2]
end Go.Proofs.YthgpjkcgccdldaaGreatDoor.Pop
