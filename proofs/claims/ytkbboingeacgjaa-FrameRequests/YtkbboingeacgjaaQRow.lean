/-
  Rows of bytes in a block of the call's own, byte by byte.
-/
import Derived.Test.YtkbboingeacgjaaQBase
import Derived.Laws.BitsAllLaws
import Derived.Laws.ShiftsVarLaws
namespace Go.Proofs.Ytkbboingeacgjaa
open Go.RowKit

/-- A row of bytes of the call's own in block g: byte i is B i. -/
structure RowAt (w : World) (g n : Nat) (B : Nat → Nat) : Prop where
  cell : ∀ i, i < n → w.cell? ⟨g, i, none⟩ = some (.int .u8 (B i : Nat))
  fz : ∀ o, w.frozen? ⟨g, o, none⟩ = false
  lt : g < w.heap.size

/-- As a list. -/
def bytesOf (n : Nat) (B : Nat → Nat) : List Nat := (List.range n).map B
set_option maxRecDepth 100000 in
theorem bytesOf_length (n : Nat) (B : Nat → Nat) : (bytesOf n B).length = n := by simp [bytesOf]
set_option maxRecDepth 100000 in
theorem bytesOf_get (n : Nat) (B : Nat → Nat) (i : Nat) (h : i < n) : (bytesOf n B).getD i 0 = B i := by
  rw [List.getD_eq_getElem?_getD]; simp [bytesOf, h]
set_option maxRecDepth 100000 in
theorem RowAt.bytes {w : World} {g n : Nat} {B : Nat → Nat} (h : RowAt w g n B) (off k : Nat) (hk : off + k ≤ n) : BytesAt w (some ⟨g, off, none⟩) (bytesOf k fun i => B (off + i)) := by
  refine .inr ⟨g, off, rfl, fun i hi => ?_⟩
  rw [bytesOf_length] at hi
  rw [bytesOf_get _ _ _ hi]
  exact h.cell (off + i) (by omega)
set_option maxRecDepth 100000 in
theorem RowAt.turn {w w' : World} {S : List Nat} {g n : Nat} {B : Nat → Nat} (h : RowAt w g n B) (hT : Turn S w w') (hg : g ∉ S) : RowAt w' g n B :=
  ⟨fun i hi => (hT.cell (p := ⟨g, i, none⟩) h.lt hg).trans (h.cell i hi), fun o => (World.frozen?_of_block (a := ⟨g, o, none⟩) (hT.block g h.lt hg)).trans (h.fz o), Nat.lt_of_lt_of_le h.lt hT.size⟩
set_option maxRecDepth 100000 in
theorem RowAt.congr {w : World} {g n : Nat} {A B : Nat → Nat} (h : RowAt w g n A) (e : ∀ i, i < n → A i = B i) : RowAt w g n B :=
  ⟨fun i hi => by rw [← e i hi]; exact h.cell i hi, h.fz, h.lt⟩
def setB (B : Nat → Nat) (k x : Nat) : Nat → Nat := fun i => if i = k then x else B i
set_option maxRecDepth 100000 in
theorem RowAt.set {w : World} {g n : Nat} {B : Nat → Nat} (h : RowAt w g n B) (k x : Nat) (hk : k < n) : RowAt (w.setCell ⟨g, k, none⟩ (.int .u8 (x : Nat))) g n (setB B k x) := by
  refine ⟨fun i hi => ?_, fun o => by rw [World.frozen?_setCell]; exact h.fz o, by rw [World.size_setCell]; exact h.lt⟩
  unfold setB
  by_cases e : i = k
  · subst e
    rw [if_pos rfl]
    exact World.cell?_setCell_same _ _ _ (h.cell i hk)
  · rw [if_neg e, World.cell?_setCell_other _ _ _ _ (off_ne (fun h => e h.symm))]
    exact h.cell i hi
set_option maxRecDepth 100000 in
theorem RowAt.drew {w : World} {g n : Nat} {B : Nat → Nat} (h : RowAt w g n B) : RowAt w.drew g n B := ⟨h.cell, h.fz, h.lt⟩

end Go.Proofs.Ytkbboingeacgjaa

/-
  Number of package rec and of the reference, walked: sixteen digits.
-/
namespace Go.Proofs.Ytkbboingeacgjaa
open Go.RowKit

theorem Turn.setNew {S : List Nat} {u w : World} (h : Turn S u w) {b : Nat} (hb : u.heap.size ≤ b) (o : Nat) (v : Value) : Turn S u (w.setCell ⟨b, o, none⟩ v) :=
  ⟨h.os, h.tape, h.output, by rw [World.size_setCell]; exact h.size, fun i hi hn => (Below.heap_setCell w ⟨b, o, none⟩ v i (fun e => by have : i = b := e; omega)).trans (h.block i hi hn)⟩
