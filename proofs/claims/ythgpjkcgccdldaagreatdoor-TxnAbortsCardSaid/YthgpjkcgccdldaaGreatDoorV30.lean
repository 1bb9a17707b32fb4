/-
  A tree in memory; isDead, Left, Height, Len.
-/
import Derived.Test.YthgpjkcgccdldaaGreatDoorV23
import Derived.Test.YthgpjkcgccdldaaGreatDoorV29

namespace Go.Proofs.YthgpjkcgccdldaaGreatDoor
open Go.RowKit Go.Maps

/-- A state of a tree: the root's place, how many keys, whether something was done, nodes to be laid, pages to be freed. -/
structure Stt where
  root : Option Nat
  keys : Nat
  changed : Bool
  fresh : Nat
  dropped : Value

def rootV (r : Option Nat) : Value := .pointer (r.map fun a => ⟨a, 0, none⟩)

structure SttAt (w : World) (t k : Nat) (S : Stt) : Prop where
  c0 : w.cell? ⟨t, k, none⟩ = some (rootV S.root)
  c1 : w.cell? ⟨t, k + 1, none⟩ = some (.int .i64 (S.keys : Nat))
  c2 : w.cell? ⟨t, k + 2, none⟩ = some (.bool S.changed)
  c3 : w.cell? ⟨t, k + 3, none⟩ = some (.int .i64 (S.fresh : Nat))
  c4 : w.cell? ⟨t, k + 4, none⟩ = some S.dropped

/-- A tree: its object in block t, the pager's in p. -/
structure TreeAt (w : World) (t p : Nat) (D S : Stt) : Prop where
  c0 : w.cell? ⟨t, 0, none⟩ = some (.pointer (some ⟨p, 0, none⟩))
  done : SttAt w t 1 D
  now : SttAt w t 6 S
  fz : ∀ o, w.frozen? ⟨t, o, none⟩ = false

theorem TreeAt.lt {w : World} {t p : Nat} {D S : Stt} (h : TreeAt w t p D S) : t < w.heap.size := lt_of_cell h.c0

theorem SttAt.of {w w' : World} {t k : Nat} {S : Stt} (h : SttAt w t k S) (hc : ∀ o, k ≤ o → o < k + 5 → w'.cell? ⟨t, o, none⟩ = w.cell? ⟨t, o, none⟩) : SttAt w' t k S :=
  ⟨(hc k (by omega) (by omega)).trans h.c0, (hc (k + 1) (by omega) (by omega)).trans h.c1, (hc (k + 2) (by omega) (by omega)).trans h.c2, (hc (k + 3) (by omega) (by omega)).trans h.c3, (hc (k + 4) (by omega) (by omega)).trans h.c4⟩

theorem TreeAt.turn {X : List Nat} {w w' : World} {t p : Nat} {D S : Stt} (h : TreeAt w t p D S) (hT : Turn X w w') (hn : t ∉ X) : TreeAt w' t p D S :=
  have hb := hT.block t h.lt hn
  have hc : ∀ o, w'.cell? ⟨t, o, none⟩ = w.cell? ⟨t, o, none⟩ := fun o => World.cell?_of_block (a := ⟨t, o, none⟩) hb
  ⟨(hc 0).trans h.c0, h.done.of fun o _ _ => hc o, h.now.of fun o _ _ => hc o, fun o => (World.frozen?_of_block (a := ⟨t, o, none⟩) hb).trans (h.fz o)⟩

/-- A cell of what is now is stored. -/
theorem TreeAt.set {w : World} {t p : Nat} {D S S' : Stt} (h : TreeAt w t p D S) (k : Nat) (hk : 6 ≤ k) (v : Value) (hS : SttAt (w.setCell ⟨t, k, none⟩ v) t 6 S') : TreeAt (w.setCell ⟨t, k, none⟩ v) t p D S' :=
  have hc : ∀ o, o ≠ k → (w.setCell ⟨t, k, none⟩ v).cell? ⟨t, o, none⟩ = w.cell? ⟨t, o, none⟩ := fun o hne => World.cell?_setCell_other _ _ _ _ (off_ne hne.symm)
  ⟨(hc 0 (by omega)).trans h.c0, h.done.of fun o _ _ => hc o (by omega), hS, fun o => by rw [World.frozen?_setCell]; exact h.fz o⟩

theorem TreeAt.setRoot {w : World} {t p : Nat} {D S : Stt} (h : TreeAt w t p D S) (r : Option Nat) : TreeAt (w.setCell ⟨t, 6, none⟩ (rootV r)) t p D { S with root := r } :=
  have hc : ∀ o, o ≠ 6 → (w.setCell ⟨t, 6, none⟩ (rootV r)).cell? ⟨t, o, none⟩ = w.cell? ⟨t, o, none⟩ := fun o hne => World.cell?_setCell_other _ _ _ _ (off_ne hne.symm)
  h.set 6 (by omega) _ ⟨World.cell?_setCell_same _ _ _ h.now.c0, (hc 7 (by omega)).trans h.now.c1, (hc 8 (by omega)).trans h.now.c2, (hc 9 (by omega)).trans h.now.c3, (hc 10 (by omega)).trans h.now.c4⟩
theorem TreeAt.setKeys {w : World} {t p : Nat} {D S : Stt} (h : TreeAt w t p D S) (n : Nat) : TreeAt (w.setCell ⟨t, 7, none⟩ (.int .i64 (n : Nat))) t p D { S with keys := n } :=
  have hc : ∀ o, o ≠ 7 → (w.setCell ⟨t, 7, none⟩ (.int .i64 (n : Nat))).cell? ⟨t, o, none⟩ = w.cell? ⟨t, o, none⟩ := fun o hne => World.cell?_setCell_other _ _ _ _ (off_ne hne.symm)
  h.set 7 (by omega) _ ⟨(hc 6 (by omega)).trans h.now.c0, World.cell?_setCell_same _ _ _ h.now.c1, (hc 8 (by omega)).trans h.now.c2, (hc 9 (by omega)).trans h.now.c3, (hc 10 (by omega)).trans h.now.c4⟩
theorem TreeAt.setChanged {w : World} {t p : Nat} {D S : Stt} (h : TreeAt w t p D S) (x : Bool) : TreeAt (w.setCell ⟨t, 8, none⟩ (.bool x)) t p D { S with changed := x } :=
  have hc : ∀ o, o ≠ 8 → (w.setCell ⟨t, 8, none⟩ (.bool x)).cell? ⟨t, o, none⟩ = w.cell? ⟨t, o, none⟩ := fun o hne => World.cell?_setCell_other _ _ _ _ (off_ne hne.symm)
  h.set 8 (by omega) _ ⟨(hc 6 (by omega)).trans h.now.c0, (hc 7 (by omega)).trans h.now.c1, World.cell?_setCell_same _ _ _ h.now.c2, (hc 9 (by omega)).trans h.now.c3, (hc 10 (by omega)).trans h.now.c4⟩
theorem TreeAt.setFresh {w : World} {t p : Nat} {D S : Stt} (h : TreeAt w t p D S) (n : Nat) : TreeAt (w.setCell ⟨t, 9, none⟩ (.int .i64 (n : Nat))) t p D { S with fresh := n } :=
  have hc : ∀ o, o ≠ 9 → (w.setCell ⟨t, 9, none⟩ (.int .i64 (n : Nat))).cell? ⟨t, o, none⟩ = w.cell? ⟨t, o, none⟩ := fun o hne => World.cell?_setCell_other _ _ _ _ (off_ne hne.symm)
  h.set 9 (by omega) _ ⟨(hc 6 (by omega)).trans h.now.c0, (hc 7 (by omega)).trans h.now.c1, (hc 8 (by omega)).trans h.now.c2, World.cell?_setCell_same _ _ _ h.now.c3, (hc 10 (by omega)).trans h.now.c4⟩
theorem TreeAt.setDropped {w : World} {t p : Nat} {D S : Stt} (h : TreeAt w t p D S) (v : Value) : TreeAt (w.setCell ⟨t, 10, none⟩ v) t p D { S with dropped := v } :=
  have hc : ∀ o, o ≠ 10 → (w.setCell ⟨t, 10, none⟩ v).cell? ⟨t, o, none⟩ = w.cell? ⟨t, o, none⟩ := fun o hne => World.cell?_setCell_other _ _ _ _ (off_ne hne.symm)
  h.set 10 (by omega) _ ⟨(hc 6 (by omega)).trans h.now.c0, (hc 7 (by omega)).trans h.now.c1, (hc 8 (by omega)).trans h.now.c2, (hc 9 (by omega)).trans h.now.c3, World.cell?_setCell_same _ _ _ h.now.c4⟩

theorem there0 (q : Pg) (N : Nat) : q.thereI N 0 = false := by
  unfold Pg.thereI
  rw [decide_eq_false (show ¬ ((fp N : Nat) : Int) ≤ 0 by unfold fp; omega)]
  rfl

set_option maxRecDepth 100000 in
set_option maxHeartbeats 1600000 in
theorem tdead_any (t p b m sm rb : Nat) (s : St) (q : Pg) (D S : Stt) (hd : s.dead = false) (hq : q.dead = false) (w : World) (hA : PAt w p b m sm rb s q) (hT : TreeAt w t p D S) :
    Calls Tryz.prog 60 #[.pointer (some ⟨t, 0, none⟩)] w fun e w' => e = .returned (.bool false) ∧ (∃ r, PAt w' p b m sm rb s { q with rd := r }) ∧ Turn [p] w w' := by
  have h0 := hT.c0
  have HC := hide (read_no p b m sm rb s q hd hq 0 (there0 q s.n) w hA)
  clear hT hA
  go_enter Tryz.func60, Tryz.ntmps60
  go_wp2_with fail
  refine HC.out.mono ?_
  rintro e w1 ⟨rfl, hA1, hT1⟩
  have HA1 := hide hA1
  clear hA1
  go_wp2_with fail
  go_ret
  exact ⟨rfl, HA1.out, hT1⟩

set_option maxRecDepth 100000 in
set_option maxHeartbeats 1600000 in
theorem tleft_any (t p b m sm rb : Nat) (s : St) (q : Pg) (D S : Stt) (hd : s.dead = false) (htp : t ≠ p) (hfr : S.fresh ≤ 1000000) (w : World) (hA : PAt w p b m sm rb s q) (hT : TreeAt w t p D S) :
    Calls Tryz.prog 66 #[.pointer (some ⟨t, 0, none⟩)] w fun e w' => e = .returned (.int .i64 ((q.left s.n : Nat) - (S.fresh : Nat) : Int)) ∧ PAt w' p b m sm rb s { q with rd := true } ∧ Turn [p] w w' := by
  have h0 := hT.c0
  have h9 := hT.now.c3
  have hlle := left_le q s.n
  have HC := hide (left_any p b m sm rb s q hd w hA)
  have HC' := hide (left_any p b m sm rb s q hd w.drew (hA.turn0 (Turn.refl [] w).drew))
  have htl := hT.lt
  clear hT hA
  generalize q.left s.n = lf at *
  generalize S.fresh = fr at *
  go_enter Tryz.func66, Tryz.ntmps66
  go_wp2_with fail
  go_region_with (go_at_call 93; refine HC'.out.mono ?_; rintro e w1 ⟨rfl, hA1, hT1⟩; have h91 := (hT1.cell (p := ⟨t, 9, none⟩) htl (by simp; exact htp)).trans h9; have HA1 := hide hA1; have HT1 := hide hT1; clear hA1 hT1)
  all_goals
    go_wp2_with fail
    go_ret
    exact ⟨ret_int (by rw [IntKind.wrap_i64]; omega), HA1.out, (Turn.refl [p] w).drew.trans HT1.out⟩
end Go.Proofs.YthgpjkcgccdldaaGreatDoor
