/-
  What a disk is by itself ('St'), what it is in memory ('DiskAt'), and the small methods of package disk, walked.
-/
import Derived.Test.YthgpjkcgccdldaaGreatDoorV05
import Derived.Laws.LoneSync
import Derived.Maps.OwnSet
import Derived.Deep.QuietTactic
import Derived.BigQuiet

namespace Go.Proofs.YthgpjkcgccdldaaGreatDoor
open Go.RowKit Go.Maps

/-- A disk by itself: its blocks, the writes done, whether the power is gone, the writes till it goes (-1: it does not), what the blocks hold. -/
structure St where
  n : Nat
  k : Nat
  dead : Bool
  left : Int
  f : Nat → List Nat

def zeros : List Nat := List.replicate 512 0
set_option maxRecDepth 100000 in
theorem zeros_length : zeros.length = 512 := List.length_replicate
def St.new (n : Nat) : St := ⟨n, 0, false, -1, fun _ => zeros⟩
def St.cut (s : St) (i : Int) : St := { s with left := max i (-1) }
def St.start (s : St) : St := { s with dead := false, left := -1 }
def put (f : Nat → List Nat) (i : Nat) (l : List Nat) : Nat → List Nat := fun j => if j = i then l else f j
/-- There is no such block. -/
def St.out (s : St) (i : Int) : Bool := decide (i < 0) || decide ((s.n : Int) ≤ i)
def St.writeErr (s : St) (i : Int) (len : Nat) : Int := if s.dead = true then 12 else if s.out i = true ∨ len ≠ 512 then 1 else if s.left = 0 then 12 else 0
def St.write (s : St) (i : Int) (l : List Nat) : St :=
  if s.dead = true then s else if s.out i = true ∨ l.length ≠ 512 then s else if s.left = 0 then { s with dead := true }
  else { s with k := s.k + 1, left := if s.left < 0 then s.left else s.left - 1, f := put s.f i.toNat l }
/-- What may be. -/
structure St.Good (s : St) : Prop where
  n1 : s.n ≤ 16384
  k1 : s.k ≤ 1000000
  l1 : -1 ≤ s.left
  l2 : s.left ≤ 9223372036854775807
  len : ∀ i, (s.f i).length = 512

/-- A block of bytes as a value. -/
def blockVal (l : List Nat) : Value := .agg (l.map byteCell).toArray
/-- Each value of the map reads as itself. -/
def anyElem (v : Value) : Option (DataW Value × List MemPlace) := some (.held v, [])

set_option maxRecDepth 100000 in
theorem law3 : Keyed Tryz.prog 3 := int_keyed Tryz.underlying3
set_option maxRecDepth 100000 in
theorem key3 {i : Nat} (h : i ≤ 9223372036854775807) : keyOf Tryz.prog 3 (.int .i64 (i : Int)) = some (.int .i64 (i : Int)) := keyOf_int_mk Tryz.underlying3 (WalkArith.wf_i64 (by omega))
set_option maxRecDepth 100000 in
theorem zero93 (w : World) : Sem.run Tryz.prog (zeroValue 185) w = .ok (blockVal zeros) w := by kernel_rfl

/-- A disk in memory: its object in block b, its map in block m. -/
structure DiskAt (w : World) (b m : Nat) (s : St) : Prop where
  c0 : w.cell? ⟨b, 0, none⟩ = some (.int .i64 (s.n : Nat))
  c1 : w.cell? ⟨b, 1, none⟩ = some (.map (some m))
  c2 : w.cell? ⟨b, 2, none⟩ = some (.int .i64 (s.k : Nat))
  c3 : w.cell? ⟨b, 3, none⟩ = some (.bool s.dead)
  cut : ∃ (goes : Int) (k0 : Nat), w.cell? ⟨b, 4, none⟩ = some (.int .i64 goes) ∧ w.cell? ⟨b, 5, none⟩ = some (.int .i64 (k0 : Nat)) ∧ k0 ≤ s.k ∧ goes ≤ 9223372036854775807 ∧ (goes = -1 ∧ s.left = -1 ∨ 0 ≤ goes ∧ s.left = goes - ((s.k : Int) - k0) ∧ 0 ≤ s.left)
  fz : ∀ o, w.frozen? ⟨b, o, none⟩ = false
  ne : b ≠ m
  map : ∃ D q, q ≤ s.k ∧ w.ownsMap Tryz.prog 3 anyElem m q D ∧ ∀ i : Nat, i < s.n → D.atKey (.int .i64 (i : Int)) (.held (blockVal zeros)) = .held (blockVal (s.f i))

set_option maxRecDepth 100000 in
theorem DiskAt.lt {w : World} {b m : Nat} {s : St} (h : DiskAt w b m s) : b < w.heap.size := lt_of_cell h.c0
set_option maxRecDepth 100000 in
theorem DiskAt.ltm {w : World} {b m : Nat} {s : St} (h : DiskAt w b m s) : m < w.heap.size := by
  obtain ⟨D, q, _, h, _⟩ := h.map
  exact h.lt

set_option maxRecDepth 100000 in
/-- Where both blocks are as they were, the disk is. -/
theorem DiskAt.of_blocks {w w' : World} {b m : Nat} {s : St} (h : DiskAt w b m s) (hb : w'.heap[b]? = w.heap[b]?) (hm : w'.heap[m]? = w.heap[m]?) : DiskAt w' b m s := by
  have hc : ∀ o, w'.cell? ⟨b, o, none⟩ = w.cell? ⟨b, o, none⟩ := fun o => World.cell?_of_block (a := ⟨b, o, none⟩) hb
  obtain ⟨goes, k0, h4, h5, rest⟩ := h.cut
  obtain ⟨D, q, hq, ⟨es, clock, he, hF⟩, hD⟩ := h.map
  exact ⟨(hc 0).trans h.c0, (hc 1).trans h.c1, (hc 2).trans h.c2, (hc 3).trans h.c3, ⟨goes, k0, (hc 4).trans h4, (hc 5).trans h5, rest⟩,
    fun o => (World.frozen?_of_block (a := ⟨b, o, none⟩) hb).trans (h.fz o), h.ne, ⟨D, q, hq, ⟨es, clock, hm.trans he, hF⟩, hD⟩⟩

set_option maxRecDepth 100000 in
theorem DiskAt.turn {S : List Nat} {w w' : World} {b m : Nat} {s : St} (h : DiskAt w b m s) (hT : Turn S w w') (hb : b ∉ S) (hm : m ∉ S) : DiskAt w' b m s :=
  h.of_blocks (hT.block b h.lt hb) (hT.block m h.ltm hm)

set_option maxRecDepth 100000 in
theorem DiskAt.drew {w : World} {b m : Nat} {s : St} (h : DiskAt w b m s) : DiskAt w.drew b m s := h.of_blocks rfl rfl

set_option maxRecDepth 100000 in
theorem DiskAt.setMap {w : World} {b m : Nat} (hne : b ≠ m) {o : Nat} {v : Value} {q : Nat} {D : DataW Value} (h : w.ownsMap Tryz.prog 3 anyElem m q D) : (w.setCell ⟨b, o, none⟩ v).ownsMap Tryz.prog 3 anyElem m q D := by
  obtain ⟨es, clock, he, hF⟩ := h
  exact ⟨es, clock, (Below.heap_setCell w ⟨b, o, none⟩ v m (fun e => hne e.symm)).trans he, hF⟩

set_option maxRecDepth 100000 in
/-- The power goes. -/
theorem DiskAt.setDead {w : World} {b m : Nat} {s : St} (h : DiskAt w b m s) (x : Bool) : DiskAt (w.setCell ⟨b, 3, none⟩ (.bool x)) b m { s with dead := x } := by
  have ho : ∀ o, o ≠ 3 → (w.setCell ⟨b, 3, none⟩ (.bool x)).cell? ⟨b, o, none⟩ = w.cell? ⟨b, o, none⟩ := fun o ho => World.cell?_setCell_other _ _ _ _ (off_ne ho.symm)
  obtain ⟨goes, k0, h4, h5, rest⟩ := h.cut
  obtain ⟨D, q, hq, hM, hD⟩ := h.map
  exact ⟨(ho 0 (by omega)).trans h.c0, (ho 1 (by omega)).trans h.c1, (ho 2 (by omega)).trans h.c2, World.cell?_setCell_same _ _ _ h.c3, ⟨goes, k0, (ho 4 (by omega)).trans h4, (ho 5 (by omega)).trans h5, rest⟩,
    fun o => by rw [World.frozen?_setCell]; exact h.fz o, h.ne, ⟨D, q, hq, DiskAt.setMap h.ne hM, hD⟩⟩

set_option maxRecDepth 100000 in
set_option maxHeartbeats 400000 in
theorem dead_any (b m : Nat) (s : St) (w : World) (hD : DiskAt w b m s) : Calls Tryz.prog 32 #[.pointer (some ⟨b, 0, none⟩)] w fun e w' => e = .returned (.bool s.dead) ∧ w' = w := by
  have h3 := hD.c3
  clear hD
  go_enter Tryz.func32, Tryz.ntmps32
  go_wp2
  go_ret
  exact ⟨rfl, rfl⟩

set_option maxRecDepth 100000 in
set_option maxHeartbeats 400000 in
theorem blocks_any (b m : Nat) (s : St) (w : World) (hD : DiskAt w b m s) : Calls Tryz.prog 57 #[.pointer (some ⟨b, 0, none⟩)] w fun e w' => e = .returned (.int .i64 (s.n : Nat)) ∧ w' = w := by
  have h3 := hD.c0
  clear hD
  go_enter Tryz.func57, Tryz.ntmps57
  go_wp2
  go_ret
  exact ⟨rfl, rfl⟩

set_option maxRecDepth 100000 in
set_option maxHeartbeats 400000 in
theorem load_any (b o : Nat) (x : Int) (w : World) (hc : w.cell? ⟨b, o, none⟩ = some (.int .i64 x)) : Calls Tryz.prog 55 #[.pointer (some ⟨b, o, none⟩)] w fun e w' => e = .returned (.int .i64 x) ∧ w' = w := by
  have hl := run_call_load (P := Tryz.prog) Tryz.func83 (by kernel_rfl) (by kernel_rfl) (by kernel_rfl) .i64 (by kernel_rfl) hc
  go_enter Tryz.func55, Tryz.ntmps55
  go_wp2
  go_ret
  exact ⟨rfl, rfl⟩

set_option maxRecDepth 100000 in
set_option maxHeartbeats 400000 in
theorem add_any (b o : Nat) (x : Nat) (hx : x ≤ 1000000) (w : World) (hc : w.cell? ⟨b, o, none⟩ = some (.int .i64 (x : Nat))) (hz : w.frozen? ⟨b, o, none⟩ = false) :
    Calls Tryz.prog 46 #[.pointer (some ⟨b, o, none⟩), .int .i64 1] w fun e w' => e = .returned (.int .i64 ((x + 1 : Nat) : Int)) ∧ w' = w.setCell ⟨b, o, none⟩ (.int .i64 ((x + 1 : Nat) : Int)) := by
  have hadd := run_call_add (P := Tryz.prog) Tryz.func73 (by kernel_rfl) (by kernel_rfl) (by kernel_rfl) .i64 (by kernel_rfl) (y := 1) (s := ((x + 1 : Nat) : Int)) hc hz (by simp [go_sem]; unfold IntKind.wrap; simp [go_sem]; omega)
  go_enter Tryz.func46, Tryz.ntmps46
  go_wp2
  go_ret
  exact ⟨rfl, rfl⟩

set_option maxRecDepth 100000 in
set_option maxHeartbeats 400000 in
theorem has_any (b m : Nat) (s : St) (i : Int) (w : World) (hD : DiskAt w b m s) : Calls Tryz.prog 120 #[.pointer (some ⟨b, 0, none⟩), .int .i64 i] w fun e w' => e = .returned (.bool (!s.out i)) ∧ w' = w := by
  have h3 := hD.c0
  clear hD
  by_cases h1 : 0 ≤ i
  · have t1 : decide (0 ≤ i) = true := by simpa using h1
    have HO : Hid (s.out i = decide ((s.n : Int) ≤ i)) := by show s.out i = _; unfold St.out; rw [decide_eq_false (by omega : ¬ i < 0)]; rfl
    go_enter Tryz.func120, Tryz.ntmps120
    go_wp2
    go_ret
    refine ⟨?_, rfl⟩
    rw [HO.out]
    by_cases h2 : (s.n : Int) ≤ i
    · rw [decide_eq_true h2, decide_eq_false (by omega)]; rfl
    · rw [decide_eq_false h2, decide_eq_true (by omega)]; rfl
  · have t1 : decide (0 ≤ i) = false := by simp; omega
    have HO : Hid (s.out i = true) := by show s.out i = _; unfold St.out; rw [decide_eq_true (by omega : i < 0)]; rfl
    go_enter Tryz.func120, Tryz.ntmps120
    go_wp2
    go_ret
    rw [HO.out]
    exact ⟨rfl, rfl⟩

/-- It is to go. -/
def St.isToGo (s : St) : Bool := s.left == 0

set_option maxRecDepth 100000 in
set_option maxHeartbeats 400000 in
theorem toGo_any (b m : Nat) (s : St) (hk : s.k ≤ 1000000) (w : World) (hD : DiskAt w b m s) : Calls Tryz.prog 211 #[.pointer (some ⟨b, 0, none⟩)] w fun e w' => e = .returned (.bool s.isToGo) ∧ DiskAt w' b m s ∧ Turn [] w w' := by
  obtain ⟨goes, k0, h4, h5, hk0, hg, hcase⟩ := hD.cut
  have h2 := hD.c2
  have HD := hide hD
  clear hD
  rcases hcase with ⟨rfl, hl⟩ | ⟨hg0, hl, hl0⟩
  · have HT : Hid (s.isToGo = false) := by show s.isToGo = false; unfold St.isToGo; rw [hl]; rfl
    have t1 : ((-1 : Int) != -1) = false := rfl
    go_enter Tryz.func211, Tryz.ntmps211
    go_wp2_with fail
    go_quiet (fail)
    go_wp2
    go_ret
    rw [HT.out]
    exact ⟨rfl, HD.out.of_blocks rfl rfl, ⟨rfl, rfl, rfl, Nat.le_refl _, fun _ _ _ => rfl⟩⟩
  · have t1 : (goes != -1) = true := by rw [bne_iff_ne]; omega
    have HT : Hid (s.isToGo = decide (goes ≤ (s.k : Int) - k0)) := by
      show s.isToGo = _
      unfold St.isToGo
      by_cases h : goes ≤ (s.k : Int) - k0
      · rw [decide_eq_true h, beq_iff_eq]; omega
      · rw [decide_eq_false h, beq_eq_false_iff_ne]; omega
    go_enter Tryz.func211, Tryz.ntmps211
    go_wp2_with fail
    go_quiet (first | (go_at_call 55; refine Calls.quiet_of_same (load_any b 2 (s.k : Nat) _ ?_); exact h2))
    go_wp2
    go_ret
    refine ⟨?_, HD.out.of_blocks rfl rfl, ⟨rfl, rfl, rfl, Nat.le_refl _, fun _ _ _ => rfl⟩⟩
    rw [HT.out]
    rfl

set_option maxRecDepth 100000 in
set_option maxHeartbeats 400000 in
theorem new_any (n : Nat) (h1 : 1 ≤ n) (h2 : n ≤ 16384) (w : World) : Calls Tryz.prog 9 #[.int .i64 (n : Nat)] w fun e w' => e = .returned (.tuple #[.pointer (some ⟨w.heap.size + 1, 0, none⟩), .int .i64 0]) ∧ DiskAt w' (w.heap.size + 1) w.heap.size (St.new n) ∧ Turn [] w w' ∧ w'.heap.size = w.heap.size + 2 := by
  have t1 : decide ((n : Int) < 1) = false := by simp; omega
  have t2 : decide (16384 < (n : Int)) = false := by simp; omega
  have hmm := @run_makeMap Tryz.prog
  go_enter Tryz.func9, Tryz.ntmps9
  go_wp2
  go_ret2
  have hc : ∀ i, ((w.alloc (Obj.map #[] 0)).alloc (Obj.cells #[Value.int IntKind.i64 ↑n, Value.map (some w.heap.size), Value.int IntKind.i64 0, Value.bool false, Value.int IntKind.i64 (-1), Value.int IntKind.i64 0] 78)).cell? ⟨w.heap.size + 1, i, none⟩ =
      #[Value.int IntKind.i64 ↑n, Value.map (some w.heap.size), Value.int IntKind.i64 0, Value.bool false, Value.int IntKind.i64 (-1), Value.int IntKind.i64 0][i]? := fun i => by
    have e : w.heap.size + 1 = (w.alloc (Obj.map #[] 0)).heap.size := by simp
    rw [e]
    exact World.cell?_alloc_at _ _ _ _ rfl
  have hf : ∀ i, ((w.alloc (Obj.map #[] 0)).alloc (Obj.cells #[Value.int IntKind.i64 ↑n, Value.map (some w.heap.size), Value.int IntKind.i64 0, Value.bool false, Value.int IntKind.i64 (-1), Value.int IntKind.i64 0] 78)).frozen? ⟨w.heap.size + 1, i, none⟩ = false := fun i => by
    have e : w.heap.size + 1 = (w.alloc (Obj.map #[] 0)).heap.size := by simp
    rw [e]
    exact World.frozen?_alloc_at _ _ _ _ rfl
  refine ⟨rfl, ⟨(hc 0).trans rfl, (hc 1).trans rfl, (hc 2).trans rfl, (hc 3).trans rfl, ⟨-1, 0, (hc 4).trans rfl, (hc 5).trans rfl, Nat.le_refl _, by omega, .inl ⟨rfl, rfl⟩⟩, hf, by omega, ⟨.map [], 0, Nat.le_refl _, (World.ownsMap_made w Tryz.prog 3 anyElem).alloc _, fun i _ => rfl⟩⟩, ((Turn.refl _ _).alloc _).alloc _, by simp⟩

end Go.Proofs.YthgpjkcgccdldaaGreatDoor
