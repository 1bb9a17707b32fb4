/-
  A bucket by itself, and where it lies in memory.
-/
import Derived.Test.YtgmnillollbgbaaBase0
namespace Go.Proofs.Ytgmnillollbgbaa.Th
open Go.RowKit

/-- A bucket: its burst, its rate, the greatest tick so far, and what it has at that. -/
structure Bk where
  burst : Int
  rate : Int
  now : Int
  has : Int

/-- What stands behind a tick. -/
def Bk.to (b : Bk) (n : Int) : Bk := if n ≤ b.now then b else ⟨b.burst, b.rate, n, min (b.has + (n - b.now) * b.rate) b.burst⟩
/-- One less. -/
def Bk.less (b : Bk) : Bk := ⟨b.burst, b.rate, b.now, b.has - 1⟩
/-- What stands behind Pass. -/
def Bk.pass (b : Bk) (n : Int) : Bk := if (b.to n).has < 1 then b.to n else (b.to n).less
/-- What stands behind Set. -/
def Bk.set (b : Bk) (u v n : Int) : Bk := ⟨u, v, (b.to n).now, min (b.to n).has u⟩

/-- The bounds of a bucket's numbers. -/
structure Bk.Ok (b : Bk) : Prop where
  b0 : 1 ≤ b.burst
  b1 : b.burst ≤ 100000
  r0 : 0 ≤ b.rate
  r1 : b.rate ≤ 1000
  n0 : 0 ≤ b.now
  n1 : b.now ≤ 4000000000
  h0 : 0 ≤ b.has
  h1 : b.has ≤ 100000

theorem mul_bd {x r : Int} (hx : 0 ≤ x) (hx1 : x ≤ 4000000000) (hr : 0 ≤ r) (hr1 : r ≤ 1000) : 0 ≤ x * r ∧ x * r ≤ 4000000000000 := by
  refine ⟨Int.mul_nonneg hx hr, ?_⟩
  have := Int.mul_le_mul hx1 hr1 hr (by omega : (0 : Int) ≤ 4000000000)
  omega

theorem Bk.Ok.to {b : Bk} (h : b.Ok) {n : Int} (_h0 : 0 ≤ n) (h1 : n ≤ 4000000000) : (b.to n).Ok := by
  unfold Bk.to
  split
  · exact h
  · rename_i hn
    have := mul_bd (x := n - b.now) (r := b.rate) (by omega) (by have := h.n0; omega) h.r0 h.r1
    refine ⟨h.b0, h.b1, h.r0, h.r1, by omega, by omega, ?_, ?_⟩
    · have := h.h0; have := h.b0; simp only; omega
    · have := h.b1; simp only; omega

theorem Bk.Ok.pass {b : Bk} (h : b.Ok) {n : Int} (h0 : 0 ≤ n) (h1 : n ≤ 4000000000) : (b.pass n).Ok := by
  have k := h.to h0 h1
  unfold Bk.pass
  split
  · exact k
  · exact ⟨k.b0, k.b1, k.r0, k.r1, k.n0, k.n1, by simp only [Bk.less]; omega, by have := k.h1; simp only [Bk.less]; omega⟩

theorem Bk.Ok.set {b : Bk} (h : b.Ok) {u v n : Int} (h0 : 0 ≤ n) (h1 : n ≤ 4000000000) (u0 : 1 ≤ u) (u1 : u ≤ 100000) (v0 : 0 ≤ v) (v1 : v ≤ 1000) : (b.set u v n).Ok := by
  have k := h.to h0 h1
  exact ⟨u0, u1, v0, v1, k.n0, k.n1, by have := k.h0; simp only [Bk.set]; omega, by have := k.h1; simp only [Bk.set]; omega⟩

theorem to_now (b : Bk) : b.to b.now = b := by unfold Bk.to; rw [if_pos (Int.le_refl _)]
theorem to_le {b : Bk} {n : Int} (h : n ≤ b.now) : b.to n = b := by unfold Bk.to; rw [if_pos h]
theorem to_gt {b : Bk} {n : Int} (h : b.now < n) : b.to n = ⟨b.burst, b.rate, n, min (b.has + (n - b.now) * b.rate) b.burst⟩ := by unfold Bk.to; rw [if_neg (by omega)]

/-- A bucket in memory. -/
structure BkAt (w : World) (g : Nat) (b : Bk) : Prop where
  c0 : w.cell? ⟨g, 0, none⟩ = some (.int .i64 b.has)
  c1 : w.cell? ⟨g, 1, none⟩ = some (.int .i64 b.burst)
  c2 : w.cell? ⟨g, 2, none⟩ = some (.int .i64 b.rate)
  c3 : w.cell? ⟨g, 3, none⟩ = some (.int .i64 b.now)
  fz : ∀ o, w.frozen? ⟨g, o, none⟩ = false

/-- The reference's bucket in memory. -/
structure RfAt (w : World) (g : Nat) (b : Bk) : Prop where
  c0 : w.cell? ⟨g, 0, none⟩ = some (.int .i64 b.burst)
  c1 : w.cell? ⟨g, 1, none⟩ = some (.int .i64 b.rate)
  c2 : w.cell? ⟨g, 2, none⟩ = some (.int .i64 b.now)
  c3 : w.cell? ⟨g, 3, none⟩ = some (.int .i64 b.has)
  fz : ∀ o, w.frozen? ⟨g, o, none⟩ = false

theorem frz_turn {S : List Nat} {w w' : World} (h : Turn S w w') {g : Nat} (hg : g < w.heap.size) (hn : g ∉ S) (o : Nat) : w'.frozen? ⟨g, o, none⟩ = w.frozen? ⟨g, o, none⟩ :=
  World.frozen?_of_block (h.block g hg hn)
theorem BkAt.lt {w : World} {g : Nat} {b : Bk} (h : BkAt w g b) : g < w.heap.size := lt_of_cell h.c0
theorem RfAt.lt {w : World} {g : Nat} {b : Bk} (h : RfAt w g b) : g < w.heap.size := lt_of_cell h.c0
theorem BkAt.turn {S : List Nat} {w w' : World} {g : Nat} {b : Bk} (h : BkAt w g b) (hT : Turn S w w') (hn : g ∉ S) : BkAt w' g b :=
  ⟨(hT.cell (p := ⟨g, 0, none⟩) h.lt hn).trans h.c0, (hT.cell (p := ⟨g, 1, none⟩) h.lt hn).trans h.c1, (hT.cell (p := ⟨g, 2, none⟩) h.lt hn).trans h.c2, (hT.cell (p := ⟨g, 3, none⟩) h.lt hn).trans h.c3, fun o => (frz_turn hT h.lt hn o).trans (h.fz o)⟩
theorem RfAt.turn {S : List Nat} {w w' : World} {g : Nat} {b : Bk} (h : RfAt w g b) (hT : Turn S w w') (hn : g ∉ S) : RfAt w' g b :=
  ⟨(hT.cell (p := ⟨g, 0, none⟩) h.lt hn).trans h.c0, (hT.cell (p := ⟨g, 1, none⟩) h.lt hn).trans h.c1, (hT.cell (p := ⟨g, 2, none⟩) h.lt hn).trans h.c2, (hT.cell (p := ⟨g, 3, none⟩) h.lt hn).trans h.c3, fun o => (frz_turn hT h.lt hn o).trans (h.fz o)⟩

theorem BkAt.drew {w : World} {g : Nat} {b : Bk} (h : BkAt w g b) : BkAt w.drew g b := ⟨h.c0, h.c1, h.c2, h.c3, h.fz⟩
theorem BkAt.put {w : World} {g : Nat} {b : Bk} (h : BkAt w g b) (x : Int) : BkAt (w.setCell ⟨g, 0, none⟩ (.int .i64 x)) g ⟨b.burst, b.rate, b.now, x⟩ :=
  ⟨World.cell?_setCell_same _ _ _ h.c0, (World.cell?_setCell_other _ _ _ _ (off_ne (by omega))).trans h.c1, (World.cell?_setCell_other _ _ _ _ (off_ne (by omega))).trans h.c2, (World.cell?_setCell_other _ _ _ _ (off_ne (by omega))).trans h.c3, fun o => by rw [World.frozen?_setCell]; exact h.fz o⟩
theorem BkAt.put1 {w : World} {g : Nat} {b : Bk} (h : BkAt w g b) (x : Int) : BkAt (w.setCell ⟨g, 1, none⟩ (.int .i64 x)) g ⟨x, b.rate, b.now, b.has⟩ :=
  ⟨(World.cell?_setCell_other _ _ _ _ (off_ne (by omega))).trans h.c0, World.cell?_setCell_same _ _ _ h.c1, (World.cell?_setCell_other _ _ _ _ (off_ne (by omega))).trans h.c2, (World.cell?_setCell_other _ _ _ _ (off_ne (by omega))).trans h.c3, fun o => by rw [World.frozen?_setCell]; exact h.fz o⟩
theorem BkAt.put2 {w : World} {g : Nat} {b : Bk} (h : BkAt w g b) (x : Int) : BkAt (w.setCell ⟨g, 2, none⟩ (.int .i64 x)) g ⟨b.burst, x, b.now, b.has⟩ :=
  ⟨(World.cell?_setCell_other _ _ _ _ (off_ne (by omega))).trans h.c0, (World.cell?_setCell_other _ _ _ _ (off_ne (by omega))).trans h.c1, World.cell?_setCell_same _ _ _ h.c2, (World.cell?_setCell_other _ _ _ _ (off_ne (by omega))).trans h.c3, fun o => by rw [World.frozen?_setCell]; exact h.fz o⟩
theorem BkAt.put3 {w : World} {g : Nat} {b : Bk} (h : BkAt w g b) (x : Int) : BkAt (w.setCell ⟨g, 3, none⟩ (.int .i64 x)) g ⟨b.burst, b.rate, x, b.has⟩ :=
  ⟨(World.cell?_setCell_other _ _ _ _ (off_ne (by omega))).trans h.c0, (World.cell?_setCell_other _ _ _ _ (off_ne (by omega))).trans h.c1, (World.cell?_setCell_other _ _ _ _ (off_ne (by omega))).trans h.c2, World.cell?_setCell_same _ _ _ h.c3, fun o => by rw [World.frozen?_setCell]; exact h.fz o⟩
theorem RfAt.drew {w : World} {g : Nat} {b : Bk} (h : RfAt w g b) : RfAt w.drew g b := ⟨h.c0, h.c1, h.c2, h.c3, h.fz⟩
theorem RfAt.put {w : World} {g : Nat} {b : Bk} (h : RfAt w g b) (x : Int) : RfAt (w.setCell ⟨g, 3, none⟩ (.int .i64 x)) g ⟨b.burst, b.rate, b.now, x⟩ :=
  ⟨(World.cell?_setCell_other _ _ _ _ (off_ne (by omega))).trans h.c0, (World.cell?_setCell_other _ _ _ _ (off_ne (by omega))).trans h.c1, (World.cell?_setCell_other _ _ _ _ (off_ne (by omega))).trans h.c2, World.cell?_setCell_same _ _ _ h.c3, fun o => by rw [World.frozen?_setCell]; exact h.fz o⟩
theorem RfAt.put0 {w : World} {g : Nat} {b : Bk} (h : RfAt w g b) (x : Int) : RfAt (w.setCell ⟨g, 0, none⟩ (.int .i64 x)) g ⟨x, b.rate, b.now, b.has⟩ :=
  ⟨World.cell?_setCell_same _ _ _ h.c0, (World.cell?_setCell_other _ _ _ _ (off_ne (by omega))).trans h.c1, (World.cell?_setCell_other _ _ _ _ (off_ne (by omega))).trans h.c2, (World.cell?_setCell_other _ _ _ _ (off_ne (by omega))).trans h.c3, fun o => by rw [World.frozen?_setCell]; exact h.fz o⟩
theorem RfAt.put1 {w : World} {g : Nat} {b : Bk} (h : RfAt w g b) (x : Int) : RfAt (w.setCell ⟨g, 1, none⟩ (.int .i64 x)) g ⟨b.burst, x, b.now, b.has⟩ :=
  ⟨(World.cell?_setCell_other _ _ _ _ (off_ne (by omega))).trans h.c0, World.cell?_setCell_same _ _ _ h.c1, (World.cell?_setCell_other _ _ _ _ (off_ne (by omega))).trans h.c2, (World.cell?_setCell_other _ _ _ _ (off_ne (by omega))).trans h.c3, fun o => by rw [World.frozen?_setCell]; exact h.fz o⟩
theorem RfAt.put2 {w : World} {g : Nat} {b : Bk} (h : RfAt w g b) (x : Int) : RfAt (w.setCell ⟨g, 2, none⟩ (.int .i64 x)) g ⟨b.burst, b.rate, x, b.has⟩ :=
  ⟨(World.cell?_setCell_other _ _ _ _ (off_ne (by omega))).trans h.c0, (World.cell?_setCell_other _ _ _ _ (off_ne (by omega))).trans h.c1, World.cell?_setCell_same _ _ _ h.c2, (World.cell?_setCell_other _ _ _ _ (off_ne (by omega))).trans h.c3, fun o => by rw [World.frozen?_setCell]; exact h.fz o⟩

end Go.Proofs.Ytgmnillollbgbaa.Th
