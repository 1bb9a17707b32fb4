/-
  Carriers, by themselves: what a writer and a parser make of a field; and which blocks stay.
-/
import Derived.Test.YtkbboingeacgjaaQRow
namespace Go.Proofs.Ytkbboingeacgjaa
open Go.RowKit

/-- A writer, or a parser. -/
inductive Kd | wr | pr
/-- A writer's bytes so far; a parser's rest and fault. -/
structure Sx where
  l : List Nat
  e : Nat

/-- An int in eight bytes, the highest first. -/
def be8 (x : Int) : List Nat := (List.range 8).map fun i => (x / 2 ^ (8 * (7 - i)) % 256).toNat
theorem be8_length (x : Int) : (be8 x).length = 8 := by simp [be8]
theorem be8_lt (x : Int) : ∀ y ∈ be8 x, y < 256 := by
  intro y hy
  obtain ⟨i, _, rfl⟩ := List.mem_map.1 hy
  omega
/-- The number that bytes tell. -/
def beNum (l : List Nat) : Nat := l.foldl (fun a b => a * 256 + b) 0
theorem beNum_snoc (l : List Nat) (x : Nat) : beNum (l ++ [x]) = beNum l * 256 + x := by simp [beNum]
theorem beNum_lt (l : List Nat) (h : ∀ x ∈ l, x < 256) : beNum l < 256 ^ l.length := by
  rw [← List.reverse_reverse l] at h ⊢
  generalize l.reverse = r at *
  induction r with
  | nil => simp [beNum]
  | cons x r ih =>
    have h1 := ih (fun y hy => h y (by rw [List.reverse_cons]; exact List.mem_append_left _ hy))
    have h2 := h x (by simp)
    rw [List.reverse_cons, beNum_snoc, List.length_append]
    show _ < 256 ^ (r.reverse.length + 1)
    rw [Nat.pow_succ]
    omega
/-- As an int. -/
def i64of (n : Nat) : Int := if n < 9223372036854775808 then (n : Int) else (n : Int) - 18446744073709551616
theorem pw (k : Nat) (P : Int) (h : (2 : Int) ^ k = P) (x : Int) : x / 2 ^ k % 256 = x / P % 256 := by rw [h]
theorem be8_eq (x : Int) : be8 x = [(x / 72057594037927936 % 256).toNat, (x / 281474976710656 % 256).toNat, (x / 1099511627776 % 256).toNat, (x / 4294967296 % 256).toNat, (x / 16777216 % 256).toNat, (x / 65536 % 256).toNat, (x / 256 % 256).toNat, (x / 1 % 256).toNat] := by
  show [(x / 2 ^ 56 % 256).toNat, (x / 2 ^ 48 % 256).toNat, (x / 2 ^ 40 % 256).toNat, (x / 2 ^ 32 % 256).toNat, (x / 2 ^ 24 % 256).toNat, (x / 2 ^ 16 % 256).toNat, (x / 2 ^ 8 % 256).toNat, (x / 2 ^ 0 % 256).toNat] = _
  rw [pw 56 72057594037927936 (by decide), pw 48 281474976710656 (by decide), pw 40 1099511627776 (by decide), pw 32 4294967296 (by decide), pw 24 16777216 (by decide), pw 16 65536 (by decide), pw 8 256 (by decide), pw 0 1 (by decide)]
theorem be_step (n : Nat) (a b P : Int) (hP : P = 1 ∨ P = 256 ∨ P = 65536 ∨ P = 16777216 ∨ P = 4294967296 ∨ P = 1099511627776 ∨ P = 281474976710656 ∨ P = 72057594037927936) (h : (n : Int) = a % P) (e : b / 256 = a) : ((n * 256 + (b % 256).toNat : Nat) : Int) = b % (P * 256) := by
  have h0 : ((b % 256).toNat : Int) = b % 256 := Int.toNat_of_nonneg (by omega)
  generalize (b % 256).toNat = m at *
  have h1 : ((n * 256 + m : Nat) : Int) = (n : Int) * 256 + (m : Int) := by omega
  rw [h1, h0, h]
  subst e
  rcases hP with rfl | rfl | rfl | rfl | rfl | rfl | rfl | rfl <;> omega
theorem beNum_be8 (x : Int) : (beNum (be8 x) : Int) = x % 18446744073709551616 := by
  rw [be8_eq]
  have h1 := be_step 0 (x / 72057594037927936 / 256) (x / 72057594037927936) 1 (by decide) (by omega) rfl
  have h2 := be_step _ _ (x / 281474976710656) 256 (by decide) h1 (by omega)
  have h3 := be_step _ _ (x / 1099511627776) 65536 (by decide) h2 (by omega)
  have h4 := be_step _ _ (x / 4294967296) 16777216 (by decide) h3 (by omega)
  have h5 := be_step _ _ (x / 16777216) 4294967296 (by decide) h4 (by omega)
  have h6 := be_step _ _ (x / 65536) 1099511627776 (by decide) h5 (by omega)
  have h7 := be_step _ _ (x / 256) 281474976710656 (by decide) h6 (by omega)
  have h8 := be_step _ _ (x / 1) 72057594037927936 (by decide) h7 (by omega)
  refine Eq.trans ?_ (h8.trans (by rw [Int.ediv_one]; rfl))
  rfl
theorem i64of_be8 (x : Int) (h1 : -9223372036854775808 ≤ x) (h2 : x ≤ 9223372036854775807) : i64of (beNum (be8 x)) = x := by
  have e := beNum_be8 x
  unfold i64of
  split <;> omega
theorem i64of_bd (l : List Nat) (h : ∀ x ∈ l, x < 256) (hl : l.length = 8) : -9223372036854775808 ≤ i64of (beNum l) ∧ i64of (beNum l) ≤ 9223372036854775807 := by
  have := beNum_lt l h
  rw [hl] at this
  unfold i64of
  split <;> omega

/-- The front of what is left, or noughts. -/
def takeS (s : Sx) (n : Nat) : Sx × List Nat :=
  if s.e ≠ 0 then (s, List.replicate n 0)
  else if s.l.length < n then (⟨s.l, 8⟩, List.replicate n 0)
  else (⟨s.l.drop n, 0⟩, s.l.take n)
theorem takeS_length (s : Sx) (n : Nat) : (takeS s n).2.length = n := by
  unfold takeS
  split
  · simp
  · split
    · simp
    · simp; omega
theorem takeS_lt (s : Sx) (n : Nat) (h : ∀ x ∈ s.l, x < 256) : ∀ x ∈ (takeS s n).2, x < 256 := by
  unfold takeS
  split
  · intro x hx; rw [List.eq_of_mem_replicate hx]; omega
  · split
    · intro x hx; rw [List.eq_of_mem_replicate hx]; omega
    · intro x hx; exact h x (List.mem_of_mem_take hx)
theorem takeS_rest (s : Sx) (n : Nat) (h : ∀ x ∈ s.l, x < 256) : ∀ x ∈ (takeS s n).1.l, x < 256 := by
  unfold takeS
  split
  · exact h
  · split
    · exact h
    · intro x hx; exact h x (List.mem_of_mem_drop hx)

def natBytes (s : ByteArray) : List Nat := s.data.toList.map UInt8.toNat
theorem natBytes_length (s : ByteArray) : (natBytes s).length = s.size := by
  unfold natBytes
  rw [List.length_map, Array.length_toList]
  rfl
theorem natBytes_lt (s : ByteArray) : ∀ x ∈ natBytes s, x < 256 := by
  intro x hx
  obtain ⟨b, _, rfl⟩ := List.mem_map.1 hx
  exact UInt8.toNat_lt b
theorem textOf_nat (s : ByteArray) : textOf (natBytes s) = s := by
  apply ByteArray.ext
  apply Array.toList_inj.1
  unfold textOf natBytes
  rw [strOfNums_data, List.map_map, List.map_map]
  conv => rhs; rw [← List.map_id s.data.toList]
  apply List.map_congr_left
  intro b _
  simp

def refuseS (s : Sx) (e : Nat) : Sx := if s.e = 0 then ⟨s.l, e⟩ else s
def countS : Kd → Sx → Nat → Sx × Nat
  | .wr, s, n => (⟨s.l ++ [n], s.e⟩, n)
  | .pr, s, _ => ((takeS s 1).1, (takeS s 1).2.headD 0)
def numS : Kd → Sx → Int → Sx × Int
  | .wr, s, x => (⟨s.l ++ be8 x, s.e⟩, x)
  | .pr, s, _ => ((takeS s 8).1, i64of (beNum (takeS s 8).2))
def textS : Kd → Sx → ByteArray → Sx × ByteArray
  | .wr, s, t => (⟨s.l ++ [t.size] ++ natBytes t, s.e⟩, t)
  | .pr, s, _ => let c := countS .pr s 0; ((takeS c.1 c.2).1, textOf (takeS c.1 c.2).2)
/-- Nothing of O has turned. -/
structure Keep (O : Nat → Prop) (w w' : World) : Prop where
  os : w'.os = w.os
  tape : w'.tape = w.tape
  output : w'.output = w.output
  size : w.heap.size ≤ w'.heap.size
  block : ∀ k, k < w.heap.size → O k → w'.heap[k]? = w.heap[k]?

theorem Keep.refl (O : Nat → Prop) (w : World) : Keep O w w := ⟨rfl, rfl, rfl, Nat.le_refl _, fun _ _ _ => rfl⟩
theorem Keep.trans {O : Nat → Prop} {u v w : World} (h : Keep O u v) (k : Keep O v w) : Keep O u w :=
  ⟨k.os.trans h.os, k.tape.trans h.tape, k.output.trans h.output, Nat.le_trans h.size k.size, fun i hi ho => (k.block i (Nat.lt_of_lt_of_le hi h.size) ho).trans (h.block i hi ho)⟩
theorem Keep.less {O P : Nat → Prop} {w w' : World} (h : Keep O w w') (hO : ∀ x, x < w.heap.size → P x → O x) : Keep P w w' := ⟨h.os, h.tape, h.output, h.size, fun k hk hp => h.block k hk (hO k hk hp)⟩
theorem Keep.drew {O : Nat → Prop} {u w : World} (h : Keep O u w) : Keep O u w.drew := ⟨h.os, h.tape, h.output, h.size, h.block⟩
theorem Keep.drewN {O : Nat → Prop} {u w : World} (h : Keep O u w) (n : Nat) : Keep O u (w.drewN n) := ⟨h.os, h.tape, h.output, h.size, h.block⟩
theorem Keep.alloc {O : Nat → Prop} {u w : World} (h : Keep O u w) (o : Obj) : Keep O u (w.alloc o) :=
  ⟨h.os, h.tape, h.output, by simp; have := h.size; omega, fun i hi ho => (Below.heap_alloc w o i (Nat.lt_of_lt_of_le hi h.size)).trans (h.block i hi ho)⟩
theorem Keep.setCell {O : Nat → Prop} {u w : World} (h : Keep O u w) {b : Nat} (hb : ¬ O b ∨ u.heap.size ≤ b) (o : Nat) (v : Value) : Keep O u (w.setCell ⟨b, o, none⟩ v) :=
  ⟨h.os, h.tape, h.output, by rw [World.size_setCell]; exact h.size, fun i hi ho => (Below.heap_setCell w ⟨b, o, none⟩ v i (fun e => by
    have e : i = b := e
    subst e
    rcases hb with hb | hb
    · exact hb ho
    · omega)).trans (h.block i hi ho)⟩
theorem Keep.grown {O : Nat → Prop} {u w w' : World} {row : Option Nat} (h : Keep O u w) (hg : w.grownBy w' row) (hr : ∀ k, row = some k → ¬ O k ∨ u.heap.size ≤ k) : Keep O u w' :=
  ⟨hg.os.trans h.os, hg.tape.trans h.tape, hg.output.trans h.output, Nat.le_trans h.size hg.size, fun i hi ho => (hg.block i (Nat.lt_of_lt_of_le hi h.size) (fun e => by
    rcases hr i e.symm with h1 | h1
    · exact h1 ho
    · omega)).trans (h.block i hi ho)⟩
theorem Keep.cell {O : Nat → Prop} {w w' : World} (h : Keep O w w') {b o : Nat} (hb : b < w.heap.size) (ho : O b) : w'.cell? ⟨b, o, none⟩ = w.cell? ⟨b, o, none⟩ := World.cell?_of_block (w := w) (h.block b hb ho)
theorem Keep.fz {O : Nat → Prop} {w w' : World} (h : Keep O w w') {b o : Nat} (hb : b < w.heap.size) (ho : O b) : w'.frozen? ⟨b, o, none⟩ = w.frozen? ⟨b, o, none⟩ := World.frozen?_of_block (h.block b hb ho)
theorem Keep.bytes {O : Nat → Prop} {w w' : World} (h : Keep O w w') {a : Option Addr} {l : List Nat} (hB : BytesAt w a l) (ho : ∀ x, l ≠ [] → a = some x → O x.block) : BytesAt w' a l :=
  hB.keep fun x hl hx => h.block _ (hB.lt x hl hx) (ho x hl hx)
theorem Keep.turn {O : Nat → Prop} {w w' : World} (h : Keep O w w') (ho : ∀ x, x < w.heap.size → O x) : Turn [] w w' := ⟨h.os, h.tape, h.output, h.size, fun k hk _ => h.block k hk (ho k hk)⟩
theorem Keep.of {O : Nat → Prop} {w w' : World} (h : Turn [] w w') : Keep O w w' := ⟨h.os, h.tape, h.output, h.size, fun k hk _ => h.block k hk (by simp)⟩

/-- A writer in memory. -/
structure WrAt (w : World) (O : Nat → Prop) (b : Nat) (l : List Nat) : Prop where
  row : ∃ v, w.cell? ⟨b, 0, none⟩ = some v ∧ w.ownsRow 0 5 1 v l.length (l.map byteCell) ∧ ∀ g, v.ownBlock = some g → ¬ O g ∧ g ≠ b
  c1 : w.cell? ⟨b, 1, none⟩ = some (.int .i64 0)
  fz : ∀ o, w.frozen? ⟨b, o, none⟩ = false
  ob : ¬ O b
  lt : ∀ x, O x → x < w.heap.size
/-- A parser in memory. -/
structure PrAt (w : World) (O R : Nat → Prop) (b g : Nat) (s : Sx) : Prop where
  src : ∃ a cap, w.cell? ⟨b, 0, none⟩ = some (.slice a s.l.length cap) ∧ s.l.length ≤ cap ∧ cap ≤ maxLen ∧ (a = none ∧ cap = 0 ∨ ∃ ab ao, a = some ⟨ab, ao, none⟩) ∧ BytesAt w a s.l ∧ ∀ x, s.l ≠ [] → a = some x → x.block = g
  c1 : w.cell? ⟨b, 1, none⟩ = some (.int .i64 (s.e : Nat))
  fz : ∀ o, w.frozen? ⟨b, o, none⟩ = false
  ob : ¬ O b ∧ ¬ R b
  by8 : ∀ x ∈ s.l, x < 256
  og : O g
/-- Either. O: other people's blocks; R: those of records. -/
def StAt (k : Kd) (w : World) (O R : Nat → Prop) (b g : Nat) (s : Sx) : Prop :=
  match k with
  | .wr => WrAt w (fun x => O x ∨ R x) b s.l ∧ s.e = 0
  | .pr => PrAt w O R b g s
end Go.Proofs.Ytkbboingeacgjaa
