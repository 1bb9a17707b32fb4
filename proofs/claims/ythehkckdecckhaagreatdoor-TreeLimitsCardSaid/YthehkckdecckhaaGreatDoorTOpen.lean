/-
  Abort, Len; Open of a tree without keys.
-/
import Derived.Test.YthehkckdecckhaaGreatDoorTCommit
import Derived.Test.YthehkckdecckhaaGreatDoorPopen
namespace Go.Proofs.YthehkckdecckhaaGreatDoor
open Go.RowKit Go.Maps

set_option maxRecDepth 100000 in
set_option maxHeartbeats 1600000 in
theorem abort_some (t p a keys : Nat) (S : Stt) (w : World) (hT : TreeAt w t p ⟨some a, keys, false, 0, .slice none 0 0⟩ S) : Calls Tryz.prog 24 #[.pointer (some ⟨t, 0, none⟩)] w fun e w' => e = .returned (.tuple #[]) ∧ TreeAt w' t p ⟨some a, keys, false, 0, .slice none 0 0⟩ ⟨some a, keys, false, 0, .slice none 0 0⟩ ∧ Turn [t] w w' := by
  have hd1 : w.cell? ⟨t, 1, none⟩ = some (.pointer (some ⟨a, 0, none⟩)) := hT.done.c0
  have hd2 : w.cell? ⟨t, 2, none⟩ = some (.int .i64 (keys : Nat)) := hT.done.c1
  have hd3 : w.cell? ⟨t, 3, none⟩ = some (.bool false) := hT.done.c2
  have hd4 : w.cell? ⟨t, 4, none⟩ = some (.int .i64 0) := hT.done.c3
  have hd5 : w.cell? ⟨t, 5, none⟩ = some (.slice none 0 0) := hT.done.c4
  have hd6 : w.cell? ⟨t, 6, none⟩ = some (rootV S.root) := hT.now.c0
  have hd7 : w.cell? ⟨t, 7, none⟩ = some (.int .i64 (S.keys : Nat)) := hT.now.c1
  have hd8 : w.cell? ⟨t, 8, none⟩ = some (.bool S.changed) := hT.now.c2
  have hd9 : w.cell? ⟨t, 9, none⟩ = some (.int .i64 (S.fresh : Nat)) := hT.now.c3
  have hd10 : w.cell? ⟨t, 10, none⟩ = some S.dropped := hT.now.c4
  have hf6 := hT.fz 6
  have hf7 := hT.fz 7
  have hf8 := hT.fz 8
  have hf9 := hT.fz 9
  have hf10 := hT.fz 10
  have HT := hide hT
  clear hT
  go_enter Tryz.func24, Tryz.ntmps24
  go_wp2_with fail
  go_end0
  have ht : t ∈ [t] := List.mem_singleton.2 rfl
  exact ⟨rfl, ((((HT.out.setRoot (some a)).setKeys keys).setChanged false).setFresh 0).setDropped (.slice none 0 0), (((((Turn.refl [t] w).setCell ht _ _).setCell ht _ _).setCell ht _ _).setCell ht _ _).setCell ht _ _⟩

set_option maxRecDepth 100000 in
set_option maxHeartbeats 1600000 in
theorem len_any (t p : Nat) (D S : Stt) (w : World) (hT : TreeAt w t p D S) : Calls Tryz.prog 26 #[.pointer (some ⟨t, 0, none⟩)] w fun e w' => e = .returned (.int .i64 (S.keys : Nat)) ∧ w' = w := by
  have hd7 : w.cell? ⟨t, 7, none⟩ = some (.int .i64 (S.keys : Nat)) := hT.now.c1
  clear hT
  go_enter Tryz.func26, Tryz.ntmps26
  go_wp2_with fail
  go_ret
  exact ⟨rfl, rfl⟩

theorem zero70 (w : World) : Sem.run Tryz.prog (zeroValue 70) w = .ok (.agg #[.pointer none, .pointer none, .int .i64 0, .bool false, .int .i64 0, .slice none 0 0, .pointer none, .int .i64 0, .bool false, .int .i64 0, .slice none 0 0]) w := by kernel_rfl

theorem agg67 (w : World) : Sem.run Tryz.prog (isAgg 67) w = .ok true w := by kernel_rfl
theorem size67 (w : World) : Sem.run Tryz.prog (sizeOf 67) w = .ok 5 w := by kernel_rfl

set_option maxRecDepth 100000 in
set_option maxHeartbeats 1600000 in
theorem stateOf_none (a : Option Addr) (n cap : Nat) (hn : n < 9) (w : World) : Calls Tryz.prog 81 #[.slice a n cap] w fun e w' => e = .returned (.agg #[.pointer none, .int .i64 0, .bool false, .int .i64 0, .slice none 0 0]) ∧ Turn [] w w' := by
  have hz := zero67
  have hnn : ((n : Int) == 9) = false := by rw [beq_eq_false_iff_ne]; omega
  have hn9 : ¬ n = 9 := by omega
  go_enter Tryz.func81, Tryz.ntmps81
  go_wp2_with fail
  refine bodyPost_ret (v := .agg #[.pointer none, .int .i64 0, .bool false, .int .i64 0, .slice none 0 0]) (by simp [results, Tryz.results81, go_sem]) rfl ⟨rfl, (Turn.refl [] w).alloc _⟩

set_option maxRecDepth 100000 in
set_option maxHeartbeats 3200000 in
theorem topen_new (p b m sm rb : Nat) (s : St) (q : Pg) (hd : s.dead = false) (hq : q.dead = false) (hroot : q.root.length < 9) (w : World) (hrb : rb < w.heap.size) (hA : PAt w p b m sm rb s q) :
    Calls Tryz.prog 51 #[.pointer (some ⟨p, 0, none⟩)] w fun e w' => ∃ t r, e = .returned (.tuple #[.pointer (some ⟨t, 0, none⟩), .int .i64 0]) ∧ w.heap.size ≤ t ∧ TreeAt w' t p ⟨none, 0, false, 0, .slice none 0 0⟩ ⟨none, 0, false, 0, .slice none 0 0⟩ ∧ PAt w' p b m sm rb s { q with rd := r } ∧ Turn [p] w w' := by
  have hz := zero70
  have hpl := hA.pg.lt
  have HP0 : Hid (w.heap.size ≠ 1 ∧ w.heap.size ≠ p ∧ w.heap.size ≠ b ∧ w.heap.size ≠ m ∧ w.heap.size ≠ sm ∧ w.heap.size ≠ rb) := by
    have h1 := hA.disk.lt
    have h2 := hA.disk.ltm
    have h3 := hA.pg.lts
    have h4 := hA.pos
    exact ⟨by omega, by omega, by omega, by omega, by omega, by omega⟩
  have hT0 : Turn [] w (w.alloc (.cells #[.pointer (some ⟨p, 0, none⟩), .pointer none, .int .i64 0, .bool false, .int .i64 0, .slice none 0 0, .pointer none, .int .i64 0, .bool false, .int .i64 0, .slice none 0 0] 70)) := (Turn.refl [] w).alloc _
  have hTr0 : TreeAt (w.alloc (.cells #[.pointer (some ⟨p, 0, none⟩), .pointer none, .int .i64 0, .bool false, .int .i64 0, .slice none 0 0, .pointer none, .int .i64 0, .bool false, .int .i64 0, .slice none 0 0] 70)) w.heap.size p ⟨none, 0, false, 0, .slice none 0 0⟩ ⟨none, 0, false, 0, .slice none 0 0⟩ :=
    ⟨World.cell?_alloc_at _ _ _ _ rfl, ⟨World.cell?_alloc_at _ _ _ _ rfl, World.cell?_alloc_at _ _ _ _ rfl, World.cell?_alloc_at _ _ _ _ rfl, World.cell?_alloc_at _ _ _ _ rfl, World.cell?_alloc_at _ _ _ _ rfl⟩, ⟨World.cell?_alloc_at _ _ _ _ rfl, World.cell?_alloc_at _ _ _ _ rfl, World.cell?_alloc_at _ _ _ _ rfl, World.cell?_alloc_at _ _ _ _ rfl, World.cell?_alloc_at _ _ _ _ rfl⟩, fun o => World.frozen?_alloc_at _ _ _ _ rfl⟩
  have HC := hide (tdead_any w.heap.size p b m sm rb s q _ _ hd hq _ (hA.turn0 hT0) hTr0)
  have HT0 := hide hT0
  have HTr0 := hide hTr0
  clear hT0 hTr0 hA
  go_enter Tryz.func51, Tryz.ntmps51
  go_wp2_with fail
  refine HC.out.mono ?_
  rintro e w1 ⟨rfl, ⟨r, hA1⟩, hT1⟩
  have HTr1 := hide (HTr0.out.turn hT1 (by simp; omega))
  have HA1 := hide hA1
  have HT1 := hide ((show Turn [p] w _ from ⟨HT0.out.os, HT0.out.tape, HT0.out.output, HT0.out.size, fun i hi _ => HT0.out.block i hi (by simp)⟩).trans hT1)
  clear hA1 hT1
  go_wp2_with fail
  refine (root_any p b sm rb s.n _ 0 { q with rd := r } (by show q.root.length ≤ 64; omega) w1 HA1.out.pg).mono ?_
  rintro e w2 ⟨a2, c2, rfl, _, _, hT2⟩
  have HTr2 := hide (HTr1.out.turn hT2 (by simp))
  have HA2 := hide (HA1.out.turn0 hT2)
  have HT2 := hide (HT1.out.then hT2 (by simp))
  clear hT2
  go_wp2_with fail
  refine (stateOf_none a2 q.root.length c2 hroot w2).mono ?_
  rintro e w3 ⟨rfl, hT3⟩
  have hTr3 := HTr2.out.turn hT3 (by simp)
  have HA3 := hide (HA2.out.turn0 hT3)
  have HT3 := hide (HT2.out.then hT3 (by simp))
  have hs3 := HT3.out.size
  have hd1 := hTr3.done.c0
  have hd2 := hTr3.done.c1
  have hd3 := hTr3.done.c2
  have hd4 := hTr3.done.c3
  have hd5 := hTr3.done.c4
  have hd6 := hTr3.now.c0
  have hd7 := hTr3.now.c1
  have hd8 := hTr3.now.c2
  have hd9 := hTr3.now.c3
  have hd10 := hTr3.now.c4
  have hf1 := hTr3.fz 1
  have hf2 := hTr3.fz 2
  have hf3 := hTr3.fz 3
  have hf4 := hTr3.fz 4
  have hf5 := hTr3.fz 5
  have hf6 := hTr3.fz 6
  have hf7 := hTr3.fz 7
  have hf8 := hTr3.fz 8
  have hf9 := hTr3.fz 9
  have hf10 := hTr3.fz 10
  have HTr3 := hide hTr3
  have htl := hTr3.lt
  have hap := HA3.out.apart
  have hbl := HA3.out.disk.lt
  clear hT3 hTr3 HA1 HA2
  generalize hte : w.heap.size = t at *
  go_wp2_with fail
  have ht : t ∈ [t] := List.mem_singleton.2 rfl
  have hTs := ((((((((((Turn.refl [t] w3).setCell ht 1 (.pointer none)).setCell ht 2 (.int .i64 0)).setCell ht 3 (.bool false)).setCell ht 4 (.int .i64 0)).setCell ht 5 (.slice none 0 0)).setCell ht 6 (.pointer none)).setCell ht 7 (.int .i64 0)).setCell ht 8 (.bool false)).setCell ht 9 (.int .i64 0)).setCell ht 10 (.slice none 0 0)
  have hTr := (((((((((HTr3.out.setDRoot none).setDKeys 0).setDChanged false).setDFresh 0).setDDropped (.slice none 0 0)).setRoot none).setKeys 0).setChanged false).setFresh 0).setDropped (.slice none 0 0)
  refine bodyPost_ret (v := .tuple #[.pointer (some ⟨t, 0, none⟩), .int .i64 0]) (by simp [results, Tryz.results51, go_sem]) rfl ⟨t, r, rfl, by omega, hTr, ?_, ?_⟩
  · exact HA3.out.turnX hTs (by
      intro x hx
      obtain rfl := List.mem_singleton.1 hx
      have h1 := HA3.out.pos
      have h2 := HP0.out
      exact ⟨h2.1, h2.2.1, h2.2.2.1, h2.2.2.2.1, h2.2.2.2.2.1, h2.2.2.2.2.2⟩)
  · exact HT3.out.then hTs (by simp; omega)
end Go.Proofs.YthehkckdecckhaaGreatDoor
