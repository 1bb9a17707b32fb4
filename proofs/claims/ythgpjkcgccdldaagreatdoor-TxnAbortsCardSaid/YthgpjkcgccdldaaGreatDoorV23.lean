/-
  Places of nodes in memory; nodeAt, where the node is there already.
  A place's once, walked: the closure runs, then the word is stored and the lock is left.
-/
import Derived.Test.YthgpjkcgccdldaaGreatDoorV16
import Derived.Test.YthgpjkcgccdldaaGreatDoorV07

namespace Go.Proofs.YthgpjkcgccdldaaGreatDoor
open Go.RowKit Go.Maps

/-- A place: its page, its level, the once's word, its node. -/
structure PlaceAt (w : World) (a pg lvl : Nat) (d : Int) (v : Value) : Prop where
  c0 : w.cell? ⟨a, 0, none⟩ = some (.int .i64 (pg : Nat))
  c1 : w.cell? ⟨a, 1, none⟩ = some (.int .i64 (lvl : Nat))
  c2 : w.cell? ⟨a, 2, none⟩ = some (.int .u32 d)
  c3 : w.cell? ⟨a, 3, none⟩ = some (.int .i32 0)
  c5 : w.cell? ⟨a, 5, none⟩ = some v
  fz : ∀ o, w.frozen? ⟨a, o, none⟩ = false

theorem PlaceAt.lt {w : World} {a pg lvl : Nat} {d : Int} {v : Value} (h : PlaceAt w a pg lvl d v) : a < w.heap.size := lt_of_cell h.c0
theorem PlaceAt.turn {S : List Nat} {w w' : World} {a pg lvl : Nat} {d : Int} {v : Value} (h : PlaceAt w a pg lvl d v) (hT : Turn S w w') (hn : a ∉ S) : PlaceAt w' a pg lvl d v :=
  have hb := hT.block a h.lt hn
  have hc : ∀ o, w'.cell? ⟨a, o, none⟩ = w.cell? ⟨a, o, none⟩ := fun o => World.cell?_of_block (a := ⟨a, o, none⟩) hb
  ⟨(hc 0).trans h.c0, (hc 1).trans h.c1, (hc 2).trans h.c2, (hc 3).trans h.c3, (hc 5).trans h.c5, fun o => (World.frozen?_of_block (a := ⟨a, o, none⟩) hb).trans (h.fz o)⟩

set_option maxRecDepth 100000 in
set_option maxHeartbeats 1000000 in
theorem nodeAt1_any (ta ba a : Nat) (T : TypeId) (v : Value) (w : World) (h5 : w.cell? ⟨a, 5, none⟩ = some (.iface T v)) (hb : w.cell? ⟨ba, 0, none⟩ = some (.pointer (some ⟨a, 0, none⟩))) :
    Calls Tryz.prog 140 #[.pointer (some ⟨ba, 0, none⟩), .pointer (some ⟨ta, 0, none⟩)] w fun e w' => e = .returned (.tuple #[]) ∧ w' = w := by
  go_enter Tryz.func140, Tryz.ntmps140
  go_wp2
  go_end0
  exact ⟨rfl, rfl⟩

theorem PlaceAt.set {w : World} {a pg lvl : Nat} {d : Int} {v : Value} (h : PlaceAt w a pg lvl d v) (k : Nat) (x : Value) : (∀ o, o ≠ k → (w.setCell ⟨a, k, none⟩ x).cell? ⟨a, o, none⟩ = w.cell? ⟨a, o, none⟩) ∧ ∀ o, (w.setCell ⟨a, k, none⟩ x).frozen? ⟨a, o, none⟩ = false :=
  ⟨fun o hne => World.cell?_setCell_other _ _ _ _ (off_ne hne.symm), fun o => by rw [World.frozen?_setCell]; exact h.fz o⟩

set_option maxRecDepth 100000 in
set_option maxHeartbeats 4000000 in
theorem slow_some (ta ba a : Nat) (pg lvl : Nat) (T : TypeId) (v : Value) (w : World) (hP : PlaceAt w a pg lvl 0 (.iface T v)) (hb : w.cell? ⟨ba, 0, none⟩ = some (.pointer (some ⟨a, 0, none⟩))) (hne : ba ≠ a) :
    Calls Tryz.prog 77 #[.pointer (some ⟨a, 2, none⟩), .func (.func 140) #[] #[.pointer (some ⟨ba, 0, none⟩), .pointer (some ⟨ta, 0, none⟩)]] w fun e w' => e = .returned (.tuple #[]) ∧ PlaceAt w' a pg lvl 1 (.iface T v) ∧ Turn [a] w w' := by
  have h0 := hP.c2
  have h1 := hP.c3
  have f0 := hP.fz 2
  have f1 := hP.fz 3
  obtain ⟨ho, hf⟩ := hP.set 3 (.int .i32 1)
  have hT1 := (Turn.refl [a] w).setCell (List.mem_singleton.2 rfl) 3 (.int .i32 1)
  have hc3 : (w.setCell ⟨a, 3, none⟩ (.int .i32 1)).cell? ⟨a, 3, none⟩ = some (.int .i32 1) := World.cell?_setCell_same _ _ _ h1
  have hb1 : (w.setCell ⟨a, 3, none⟩ (.int .i32 1)).cell? ⟨ba, 0, none⟩ = some (.pointer (some ⟨a, 0, none⟩)) := (hT1.cell (p := ⟨ba, 0, none⟩) (lt_of_cell hb) (by simp; exact hne)).trans hb
  have h51 : (w.setCell ⟨a, 3, none⟩ (.int .i32 1)).cell? ⟨a, 5, none⟩ = some (.iface T v) := (ho 5 (by omega)).trans hP.c5
  have hl := run_call_load (P := Tryz.prog) Tryz.func107 (by kernel_rfl) (by kernel_rfl) (by kernel_rfl) .u32 (by kernel_rfl) ((ho 2 (by omega)).trans h0)
  have hnot : ∀ (x : Bool) (w : World), (Op.unary .not (.bool x)).run Tryz.prog w = .ok (.bool (!x)) w := fun _ _ => rfl
  have HP := hide hP
  have HT1 := hide hT1
  have HO := hide ho
  clear hP hT1 ho
  go_enter_defers Tryz.func77, Tryz.ntmps77
  go_wp2_with (first | (go_at_call 108; refine (Sm.lock_free ⟨a, 3, none⟩ _ (by go_simp) (by go_simp)).mono ?_; rintro e w' ⟨rfl, rfl⟩) | (go_at_call 140; refine (nodeAt1_any ta ba a T v _ (by exact h51) (by exact hb1)).mono ?_; rintro e w2 ⟨rfl, rfl⟩) | (go_at_call 76; go_in))
  generalize hw2 : w.setCell ⟨a, 3, none⟩ (.int .i32 1) = w2 at *
  refine leaves_cons (f := 110) (args := #[.pointer (some ⟨a, 2, none⟩), .bool true]) (by simp) (by simp [go_sem]) ?_
  refine (Sm.store_deferred ⟨a, 2, none⟩ (.int .u32 0) .returning _ ((HO.out 2 (by omega)).trans h0) (hf 2)).mono ?_
  rintro e u' w'' ⟨rfl, rfl, rfl⟩
  have hc3' : ((w2.setCell ⟨a, 2, none⟩ (.int .u32 1)).drew).cell? ⟨a, 3, none⟩ = some (.int .i32 1) := (World.cell?_setCell_other _ _ _ _ (off_ne (by omega))).trans hc3
  have hf3' : ((w2.setCell ⟨a, 2, none⟩ (.int .u32 1)).drew).frozen? ⟨a, 3, none⟩ = false := (World.frozen?_setCell ..).trans (hf 3)
  refine leaves_cons (f := 109) (args := #[.pointer (some ⟨a, 3, none⟩)]) (by simp [settle]) (by simp [go_sem]) ?_
  refine (Sm.unlock_deferred ⟨a, 3, none⟩ _ _ hc3' hf3').mono ?_
  rintro e u' w'' ⟨rfl, rfl, rfl⟩
  simp [Leaves, settle, results, Tryz.results77]
  have e2 : ∀ o, o ≠ 2 → o ≠ 3 → (((w2.setCell ⟨a, 2, none⟩ (.int .u32 1)).drew).setCell ⟨a, 3, none⟩ (.int .i32 0)).cell? ⟨a, o, none⟩ = w.cell? ⟨a, o, none⟩ := fun o h2 h3 =>
    (World.cell?_setCell_other _ _ _ _ (off_ne (Ne.symm h3))).trans ((World.cell?_setCell_other _ _ _ _ (off_ne (Ne.symm h2))).trans (HO.out o h3))
  have hc2 : w2.cell? ⟨a, 2, none⟩ = some (.int .u32 0) := (HO.out 2 (by omega)).trans h0
  refine ⟨⟨(e2 0 (by omega) (by omega)).trans HP.out.c0, (e2 1 (by omega) (by omega)).trans HP.out.c1, (World.cell?_setCell_other _ _ _ _ (off_ne (by omega))).trans (World.cell?_setCell_same _ _ _ hc2), World.cell?_setCell_same _ _ _ hc3', (e2 5 (by omega) (by omega)).trans HP.out.c5, fun o => by rw [World.frozen?_setCell]; exact (World.frozen?_setCell ..).trans (hf o)⟩, ?_⟩
  exact ((HT1.out.setCell (List.mem_singleton.2 rfl) 2 (.int .u32 1)).drew).setCell (List.mem_singleton.2 rfl) 3 (.int .i32 0)

set_option maxHeartbeats 1600000 in
set_option maxRecDepth 100000 in
theorem do_some (ta ba a : Nat) (pg lvl : Nat) (d : Int) (hd : d = 0 ∨ d = 1) (T : TypeId) (v : Value) (w : World) (hP : PlaceAt w a pg lvl d (.iface T v)) (hb : w.cell? ⟨ba, 0, none⟩ = some (.pointer (some ⟨a, 0, none⟩))) (hne : ba ≠ a) :
    Calls Tryz.prog 50 #[.pointer (some ⟨a, 2, none⟩), .func (.func 140) #[] #[.pointer (some ⟨ba, 0, none⟩), .pointer (some ⟨ta, 0, none⟩)]] w fun e w' => e = .returned (.tuple #[]) ∧ PlaceAt w' a pg lvl 1 (.iface T v) ∧ Turn [a] w w' := by
  have hl := run_call_load (P := Tryz.prog) Tryz.func107 (by kernel_rfl) (by kernel_rfl) (by kernel_rfl) .u32 (by kernel_rfl) hP.c2
  have hnot : ∀ (x : Bool) (w : World), (Op.unary .not (.bool x)).run Tryz.prog w = .ok (.bool (!x)) w := fun _ _ => rfl
  have HP := hide hP
  have HB := hide hb
  clear hP hb
  rcases hd with rfl | rfl
  · go_enter Tryz.func50, Tryz.ntmps50
    go_wp2_with (first | (go_at_call 77; refine (slow_some ta ba a pg lvl T v w HP.out HB.out hne).mono ?_; rintro e w' ⟨rfl, hP2, hT2⟩; have HP2 := hide hP2; clear hP2) | (go_at_call 76; go_in))
    go_end0
    exact ⟨rfl, HP2.out, hT2⟩
  · go_enter Tryz.func50, Tryz.ntmps50
    go_wp2_with (go_at_call 76; go_in)
    go_end0
    exact ⟨rfl, HP.out, Turn.refl _ _⟩

set_option maxHeartbeats 1600000 in
set_option maxRecDepth 100000 in
theorem nodeAt_some (t a : Nat) (pg lvl : Nat) (d : Int) (hd : d = 0 ∨ d = 1) (T : TypeId) (v : Value) (w : World) (hP : PlaceAt w a pg lvl d (.iface T v)) :
    Calls Tryz.prog 105 #[.pointer (some ⟨t, 0, none⟩), .pointer (some ⟨a, 0, none⟩)] w fun e w' => e = .returned (.iface T v) ∧ PlaceAt w' a pg lvl 1 (.iface T v) ∧ Turn [a] w w' := by
  have hmf : ∀ (fn : Fn) (first cap : Array Value) (w : World), (Instr.makeFunc fn first cap).run Tryz.prog w = .ok (.func fn first cap) w := fun _ _ _ _ => rfl
  have hal := hP.lt
  have hT1 : Turn [] w ((w.alloc (.cells #[.pointer (some ⟨t, 0, none⟩)] 82)).alloc (.cells #[.pointer (some ⟨a, 0, none⟩)] 122)) := ((Turn.refl [] w).alloc _).alloc _
  have hb : ((w.alloc (.cells #[.pointer (some ⟨t, 0, none⟩)] 82)).alloc (.cells #[.pointer (some ⟨a, 0, none⟩)] 122)).cell? ⟨w.heap.size + 1, 0, none⟩ = some (.pointer (some ⟨a, 0, none⟩)) := by
    have e : w.heap.size + 1 = (w.alloc (.cells #[.pointer (some ⟨t, 0, none⟩)] 82)).heap.size := by simp
    rw [e]
    exact World.cell?_alloc_at _ _ _ _ rfl
  have HC := hide (do_some w.heap.size (w.heap.size + 1) a pg lvl d hd T v _ (hP.turn hT1 (by simp)) hb (by omega))
  have HT1 := hide hT1
  clear hP hT1 hb
  go_enter Tryz.func105, Tryz.ntmps105
  go_wp2_with fail
  refine HC.out.mono ?_
  rintro e w1 ⟨rfl, hP1, hT2⟩
  have HP1 := hide hP1
  have h5 := hP1.c5
  have hb2 : w1.cell? ⟨w.heap.size + 1, 0, none⟩ = some (.pointer (some ⟨a, 0, none⟩)) := by
    refine (hT2.cell (p := ⟨w.heap.size + 1, 0, none⟩) (by simp) (by simp; omega)).trans ?_
    have e : w.heap.size + 1 = (w.alloc (.cells #[.pointer (some ⟨t, 0, none⟩)] 82)).heap.size := by simp
    rw [e]
    exact World.cell?_alloc_at _ _ _ _ rfl
  have HT2 := hide hT2
  clear hP1 hT2
  go_wp2_with fail
  go_ret
  exact ⟨rfl, HP1.out, (show Turn [a] w _ from ⟨HT1.out.os, HT1.out.tape, HT1.out.output, HT1.out.size, fun i hi _ => HT1.out.block i hi (by simp)⟩).then HT2.out (by simp)⟩

set_option maxHeartbeats 1600000 in
set_option maxRecDepth 100000 in
theorem nodeAt_nil (t : Nat) (w : World) :
    Calls Tryz.prog 105 #[.pointer (some ⟨t, 0, none⟩), .pointer none] w fun e w' => ∃ b, e = .returned (.iface 137 (.slice (some ⟨b, 0, none⟩) 0 0)) ∧ Turn [] w w' := by
  go_enter Tryz.func105, Tryz.ntmps105
  go_wp2_with fail
  go_ret
  exact ⟨_, rfl, (((Turn.refl [] w).alloc _).alloc _).alloc _⟩
end Go.Proofs.YthgpjkcgccdldaaGreatDoor

namespace Go.Proofs.YthgpjkcgccdldaaGreatDoor
open Go.RowKit Go.Maps

set_option maxRecDepth 100000 in
set_option maxHeartbeats 4000000 in
theorem pslow (a ba ta : Nat) (w : World) (R : World → Prop) (h0 : w.cell? ⟨a, 2, none⟩ = some (.int .u32 0)) (h1 : w.cell? ⟨a, 3, none⟩ = some (.int .i32 0)) (hf : ∀ o, w.frozen? ⟨a, o, none⟩ = false)
    (hF : Calls Tryz.prog 140 #[.pointer (some ⟨ba, 0, none⟩), .pointer (some ⟨ta, 0, none⟩)] (w.setCell ⟨a, 3, none⟩ (.int .i32 1)) fun e w2 => e = .returned (.tuple #[]) ∧ R w2 ∧ w2.cell? ⟨a, 2, none⟩ = some (.int .u32 0) ∧ w2.cell? ⟨a, 3, none⟩ = some (.int .i32 1) ∧ ∀ o, w2.frozen? ⟨a, o, none⟩ = false) :
    Calls Tryz.prog 77 #[.pointer (some ⟨a, 2, none⟩), .func (.func 140) #[] #[.pointer (some ⟨ba, 0, none⟩), .pointer (some ⟨ta, 0, none⟩)]] w fun e w' => e = .returned (.tuple #[]) ∧ ∃ w2, R w2 ∧ w2.cell? ⟨a, 2, none⟩ = some (.int .u32 0) ∧ w2.cell? ⟨a, 3, none⟩ = some (.int .i32 1) ∧ w' = ((w2.setCell ⟨a, 2, none⟩ (.int .u32 1)).drew).setCell ⟨a, 3, none⟩ (.int .i32 0) := by
  have f0 := hf 2
  have f1 := hf 3
  have h01 : (w.setCell ⟨a, 3, none⟩ (.int .i32 1)).cell? ⟨a, 2, none⟩ = some (.int .u32 0) := (World.cell?_setCell_other _ _ _ _ (off_ne (by omega))).trans h0
  have hl := run_call_load (P := Tryz.prog) Tryz.func107 (by kernel_rfl) (by kernel_rfl) (by kernel_rfl) .u32 (by kernel_rfl) h01
  have hnot : ∀ (x : Bool) (w : World), (Op.unary .not (.bool x)).run Tryz.prog w = .ok (.bool (!x)) w := fun _ _ => rfl
  have HF := hide hF
  clear hF hf
  go_enter_defers Tryz.func77, Tryz.ntmps77
  go_wp2_with (first | (go_at_call 108; refine (Sm.lock_free ⟨a, 3, none⟩ _ (by go_simp) (by go_simp)).mono ?_; rintro e w' ⟨rfl, rfl⟩) | (go_at_call 140; refine HF.out.mono ?_; rintro e w2 ⟨rfl, hR, k0, k1, kf⟩; have HR := hide hR; have HK := hide kf; clear hR kf) | (go_at_call 76; go_in))
  refine leaves_cons (f := 110) (args := #[.pointer (some ⟨a, 2, none⟩), .bool true]) (by simp) (by simp [go_sem]) ?_
  refine (Sm.store_deferred ⟨a, 2, none⟩ (.int .u32 0) .returning _ k0 (HK.out 2)).mono ?_
  rintro e u' w'' ⟨rfl, rfl, rfl⟩
  have hc3' : ((w2.setCell ⟨a, 2, none⟩ (.int .u32 1)).drew).cell? ⟨a, 3, none⟩ = some (.int .i32 1) := (World.cell?_setCell_other _ _ _ _ (off_ne (by omega))).trans k1
  have hf3' : ((w2.setCell ⟨a, 2, none⟩ (.int .u32 1)).drew).frozen? ⟨a, 3, none⟩ = false := (World.frozen?_setCell ..).trans (HK.out 3)
  refine leaves_cons (f := 109) (args := #[.pointer (some ⟨a, 3, none⟩)]) (by simp [settle]) (by simp [go_sem]) ?_
  refine (Sm.unlock_deferred ⟨a, 3, none⟩ _ _ hc3' hf3').mono ?_
  rintro e u' w'' ⟨rfl, rfl, rfl⟩
  simp [Leaves, settle, results, Tryz.results77]
  exact ⟨w2, HR.out, k0, k1, rfl⟩

set_option maxHeartbeats 1600000 in
set_option maxRecDepth 100000 in
theorem pdo (a ba ta : Nat) (w : World) (R : World → Prop) (h0 : w.cell? ⟨a, 2, none⟩ = some (.int .u32 0)) (h1 : w.cell? ⟨a, 3, none⟩ = some (.int .i32 0)) (hf : ∀ o, w.frozen? ⟨a, o, none⟩ = false)
    (hF : Calls Tryz.prog 140 #[.pointer (some ⟨ba, 0, none⟩), .pointer (some ⟨ta, 0, none⟩)] (w.setCell ⟨a, 3, none⟩ (.int .i32 1)) fun e w2 => e = .returned (.tuple #[]) ∧ R w2 ∧ w2.cell? ⟨a, 2, none⟩ = some (.int .u32 0) ∧ w2.cell? ⟨a, 3, none⟩ = some (.int .i32 1) ∧ ∀ o, w2.frozen? ⟨a, o, none⟩ = false) :
    Calls Tryz.prog 50 #[.pointer (some ⟨a, 2, none⟩), .func (.func 140) #[] #[.pointer (some ⟨ba, 0, none⟩), .pointer (some ⟨ta, 0, none⟩)]] w fun e w' => e = .returned (.tuple #[]) ∧ ∃ w2, R w2 ∧ w2.cell? ⟨a, 2, none⟩ = some (.int .u32 0) ∧ w2.cell? ⟨a, 3, none⟩ = some (.int .i32 1) ∧ w' = ((w2.setCell ⟨a, 2, none⟩ (.int .u32 1)).drew).setCell ⟨a, 3, none⟩ (.int .i32 0) := by
  have hl := run_call_load (P := Tryz.prog) Tryz.func107 (by kernel_rfl) (by kernel_rfl) (by kernel_rfl) .u32 (by kernel_rfl) h0
  have hnot : ∀ (x : Bool) (w : World), (Op.unary .not (.bool x)).run Tryz.prog w = .ok (.bool (!x)) w := fun _ _ => rfl
  have HC := hide (pslow a ba ta w R h0 h1 hf hF)
  clear hF hf
  go_enter Tryz.func50, Tryz.ntmps50
  go_wp2_with (first | (go_at_call 77; refine HC.out.mono ?_; rintro e w' ⟨rfl, hR⟩; have HR := hide hR; clear hR) | (go_at_call 76; go_in))
  go_end0
  exact ⟨rfl, HR.out⟩

end Go.Proofs.YthgpjkcgccdldaaGreatDoor
