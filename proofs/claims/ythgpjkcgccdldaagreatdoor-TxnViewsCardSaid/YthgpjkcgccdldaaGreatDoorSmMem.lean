/-
  What a sum is in memory, and what becomes of it where cells are stored; 'Only': one block alone may have turned.
-/
import Derived.Test.YthgpjkcgccdldaaGreatDoorSmPure
import Derived.Test.YthgpjkcgccdldaaGreatDoorBase
import Derived.WalkKit
import Derived.WalkSpells
import Derived.Laws.NewBlocks
namespace Go.Proofs.YthgpjkcgccdldaaGreatDoor.Sm
open Go.RowKit

/-- Block b alone may have turned; no block has come or gone. -/
structure Only (b : Nat) (w w' : World) : Prop where
  os : w'.os = w.os
  tape : w'.tape = w.tape
  output : w'.output = w.output
  size : w'.heap.size = w.heap.size
  block : ∀ k, k ≠ b → w'.heap[k]? = w.heap[k]?

set_option maxRecDepth 100000 in
theorem Only.refl (b : Nat) (w : World) : Only b w w := ⟨rfl, rfl, rfl, rfl, fun _ _ => rfl⟩
set_option maxRecDepth 100000 in
theorem Only.trans {b : Nat} {u v w : World} (h : Only b u v) (k : Only b v w) : Only b u w :=
  ⟨k.os.trans h.os, k.tape.trans h.tape, k.output.trans h.output, k.size.trans h.size, fun i hi => (k.block i hi).trans (h.block i hi)⟩
set_option maxRecDepth 100000 in
theorem Only.drew {b : Nat} {u w : World} (h : Only b u w) : Only b u w.drew := ⟨h.os, h.tape, h.output, h.size, h.block⟩
set_option maxRecDepth 100000 in
theorem Only.setCell {b : Nat} {u w : World} (h : Only b u w) (o : Nat) (v : Value) : Only b u (w.setCell ⟨b, o, none⟩ v) :=
  ⟨h.os, h.tape, h.output, by rw [World.size_setCell, h.size], fun i hi => (Below.heap_setCell w ⟨b, o, none⟩ v i hi).trans (h.block i hi)⟩
set_option maxRecDepth 100000 in
theorem Only.cell {b : Nat} {w w' : World} (h : Only b w w') {p : Addr} (hp : p.block ≠ b) : w'.cell? p = w.cell? p := World.cell?_of_block (w := w) (h.block p.block hp)
set_option maxRecDepth 100000 in
theorem Only.frozen {b : Nat} {w w' : World} (h : Only b w w') {p : Addr} (hp : p.block ≠ b) : w'.frozen? p = w.frozen? p := World.frozen?_of_block (w := w) (h.block p.block hp)
set_option maxRecDepth 100000 in
theorem Only.below {b B : Nat} {w w' : World} (h : Only b w w') (hb : B ≤ b) : Below B w w' :=
  ⟨h.os, h.tape, h.output, by rw [h.size]; exact Nat.le_refl _, fun k hk => h.block k (by omega)⟩

/-- A sum in block b: the once's word, its lock's state, the table, the sum so far. -/
structure SumAt (w : World) (b : Nat) (d m : Int) (t : List Nat) (c : Nat) : Prop where
  done : w.cell? ⟨b, 0, none⟩ = some (.int .u32 d)
  lock : w.cell? ⟨b, 1, none⟩ = some (.int .i32 m)
  row : ∀ i, i < 256 → w.cell? ⟨b, 3 + i, none⟩ = some (.int .u32 (t.getD i 0 : Nat))
  len : t.length = 256
  crc : w.cell? ⟨b, 259, none⟩ = some (.int .u32 (c : Nat))
  fz : ∀ o, w.frozen? ⟨b, o, none⟩ = false


set_option maxRecDepth 100000 in
theorem SumAt.setDone {w : World} {b : Nat} {d m : Int} {t : List Nat} {c : Nat} (h : SumAt w b d m t c) (x : Int) : SumAt (w.setCell ⟨b, 0, none⟩ (.int .u32 x)) b x m t c :=
  ⟨World.cell?_setCell_same _ _ _ h.done, (World.cell?_setCell_other _ _ _ _ (off_ne (by omega))).trans h.lock,
   fun i hi => (World.cell?_setCell_other _ _ _ _ (off_ne (by omega))).trans (h.row i hi), h.len,
   (World.cell?_setCell_other _ _ _ _ (off_ne (by omega))).trans h.crc, fun o => by rw [World.frozen?_setCell]; exact h.fz o⟩

set_option maxRecDepth 100000 in
theorem SumAt.setLock {w : World} {b : Nat} {d m : Int} {t : List Nat} {c : Nat} (h : SumAt w b d m t c) (x : Int) : SumAt (w.setCell ⟨b, 1, none⟩ (.int .i32 x)) b d x t c :=
  ⟨(World.cell?_setCell_other _ _ _ _ (off_ne (by omega))).trans h.done, World.cell?_setCell_same _ _ _ h.lock,
   fun i hi => (World.cell?_setCell_other _ _ _ _ (off_ne (by omega))).trans (h.row i hi), h.len,
   (World.cell?_setCell_other _ _ _ _ (off_ne (by omega))).trans h.crc, fun o => by rw [World.frozen?_setCell]; exact h.fz o⟩

set_option maxRecDepth 100000 in
theorem SumAt.setCrc {w : World} {b : Nat} {d m : Int} {t : List Nat} {c : Nat} (h : SumAt w b d m t c) (x : Nat) : SumAt (w.setCell ⟨b, 259, none⟩ (.int .u32 (x : Nat))) b d m t x :=
  ⟨(World.cell?_setCell_other _ _ _ _ (off_ne (by omega))).trans h.done, (World.cell?_setCell_other _ _ _ _ (off_ne (by omega))).trans h.lock,
   fun i hi => (World.cell?_setCell_other _ _ _ _ (off_ne (by omega))).trans (h.row i hi), h.len,
   World.cell?_setCell_same _ _ _ h.crc, fun o => by rw [World.frozen?_setCell]; exact h.fz o⟩

set_option maxRecDepth 100000 in
theorem SumAt.setRow {w : World} {b : Nat} {d m : Int} {t : List Nat} {c : Nat} (h : SumAt w b d m t c) (i : Nat) (hi : i < 256) (x : Nat) :
    SumAt (w.setCell ⟨b, 3 + i, none⟩ (.int .u32 (x : Nat))) b d m (t.set i x) c := by
  refine ⟨(World.cell?_setCell_other _ _ _ _ (off_ne (by omega))).trans h.done, (World.cell?_setCell_other _ _ _ _ (off_ne (by omega))).trans h.lock, ?_, by rw [List.length_set, h.len],
   (World.cell?_setCell_other _ _ _ _ (off_ne (by omega))).trans h.crc, fun o => by rw [World.frozen?_setCell]; exact h.fz o⟩
  intro j hj
  by_cases e : i = j
  · subst e
    rw [World.cell?_setCell_same _ _ _ (h.row i hi), List.getD_eq_getElem?_getD, List.getElem?_set_self (by rw [h.len]; exact hi)]
    rfl
  · rw [World.cell?_setCell_other _ _ _ _ (off_ne (by omega)), h.row j hj, List.getD_eq_getElem?_getD, List.getD_eq_getElem?_getD, List.getElem?_set_ne e]

set_option maxRecDepth 100000 in
theorem SumAt.drew {w : World} {b : Nat} {d m : Int} {t : List Nat} {c : Nat} (h : SumAt w b d m t c) : SumAt w.drew b d m t c :=
  ⟨h.done, h.lock, h.row, h.len, h.crc, h.fz⟩

set_option maxRecDepth 100000 in
/-- Where the sum's block is as it was, the sum is. -/
theorem SumAt.of_block {w w' : World} {b : Nat} {d m : Int} {t : List Nat} {c : Nat} (h : SumAt w b d m t c) (hb : w'.heap[b]? = w.heap[b]?) : SumAt w' b d m t c :=
  ⟨(World.cell?_of_block (a := ⟨b, 0, none⟩) hb).trans h.done, (World.cell?_of_block (a := ⟨b, 1, none⟩) hb).trans h.lock, fun i hi => (World.cell?_of_block (a := ⟨b, 3 + i, none⟩) hb).trans (h.row i hi), h.len,
   (World.cell?_of_block (a := ⟨b, 259, none⟩) hb).trans h.crc, fun o => (World.frozen?_of_block (a := ⟨b, o, none⟩) hb).trans (h.fz o)⟩

set_option maxRecDepth 100000 in
theorem SumAt.lt {w : World} {b : Nat} {d m : Int} {t : List Nat} {c : Nat} (h : SumAt w b d m t c) : b < w.heap.size := by
  have := h.done
  unfold World.cell? at this
  by_cases hb : b < w.heap.size
  · exact hb
  · simp [hb] at this

/- Numbers of the table's loops. -/
set_option maxRecDepth 100000 in
theorem bit_facts (k : Nat) (hk : k < 8) : 2 * (128 / 2 ^ k) * 2 ^ k = 256 ∧ 0 < 128 / 2 ^ k ∧ 128 / 2 ^ k ≤ 128 ∧ 128 / 2 ^ k / 2 = 128 / 2 ^ (k + 1) := by
  match k, hk with
  | 0, _ => decide
  | 1, _ => decide
  | 2, _ => decide
  | 3, _ => decide
  | 4, _ => decide
  | 5, _ => decide
  | 6, _ => decide
  | 7, _ => decide

set_option maxRecDepth 100000 in
theorem round_facts (B N j : Nat) (h : 2 * B * N = 256) (_hB : 0 < B) (hj : j < N) : 2 * B * j + 2 * B ≤ 256 := by
  have : 2 * B * (j + 1) ≤ 2 * B * N := Nat.mul_le_mul_left _ hj
  rw [Nat.mul_succ] at this
  omega

set_option maxRecDepth 100000 in
theorem round_last (B N j : Nat) (h : 2 * B * N = 256) (hj : N ≤ j) : 256 ≤ 2 * B * j := by
  have : 2 * B * N ≤ 2 * B * j := Nat.mul_le_mul_left _ hj
  omega

end Go.Proofs.YthgpjkcgccdldaaGreatDoor.Sm
