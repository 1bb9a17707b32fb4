/-
  What a pager is by itself ('Pg'), what it is in memory ('PgAt'); its read and write, isDead, walked.
-/
import Derived.Test.YthgpjkcgccdldaaGreatDoorHead
import Derived.Maps.RangeWalk
namespace Go.Proofs.YthgpjkcgccdldaaGreatDoor
open Go.RowKit Go.Maps

/-- A pager by itself: whether it met the power's end; Commits done; the root; the committed pages; what was done since (1: allocated, 2: freed); whether the map was read; how often 'since' was written. -/
structure Pg where
  dead : Bool
  c : Nat
  root : List Nat
  K : Nat → Bool
  si : Nat → Nat
  rd : Bool
  u : Nat

/-- A block that can't be allocated now. -/
def Pg.tk (q : Pg) (N n : Nat) : Bool := decide (n < 4) || decide (N ≤ n) || q.K n || q.si n == 1

/-- What the map 'since' says. -/
structure Since (D : DataW Value) (si : Nat → Nat) : Prop where
  keys : ∀ kl, has D kl = true → ∃ n : Nat, kl = .int .i64 (n : Int) ∧ si n ≠ 0
  at_ : ∀ n : Nat, D.atKey (.int .i64 (n : Int)) (.lit (.int .i64 0)) = .lit (.int .i64 (si n : Nat))

/-- A pager in memory: its object in block p, the disk's in b, 'since' in sm, the root's bytes in rb; d, l: the once's word and lock. -/
structure PgAt (w : World) (p b sm rb N : Nat) (d l : Int) (q : Pg) : Prop where
  c0 : w.cell? ⟨p, 0, none⟩ = some (.pointer (some ⟨b, 0, none⟩))
  c1 : ∃ x : Int, w.cell? ⟨p, 1, none⟩ = some (.int .i64 x)
  c2 : ∃ x : Int, w.cell? ⟨p, 2, none⟩ = some (.int .i64 x)
  c3 : w.cell? ⟨p, 3, none⟩ = some (.bool q.dead)
  c4 : w.cell? ⟨p, 4, none⟩ = some (.int .i64 (q.c : Nat))
  c5 : ∃ ra rc, w.cell? ⟨p, 5, none⟩ = some (.slice ra q.root.length rc) ∧ BytesAt w ra q.root ∧ (ra = none → rc = 0) ∧ ∀ x, q.root ≠ [] → ra = some x → x.block = rb
  c6 : w.cell? ⟨p, 6, none⟩ = some (.int .u32 d)
  c7 : w.cell? ⟨p, 7, none⟩ = some (.int .i32 l)
  wd : ∃ T, WordsAt w p 9 T ∧ ∀ n, n < 16384 → bit T n = (q.rd && q.tk N n)
  cs : w.cell? ⟨p, 265, none⟩ = some (.map (some sm))
  since : ∃ n D, n ≤ q.u ∧ w.ownsMap Tryz.prog 3 (plainElem Tryz.prog 3) sm n D ∧ Since D q.si
  ne : p ≠ sm
  nr : p ≠ rb

variable {w w' : World} {p b m sm rb N : Nat} {d l : Int} {q : Pg}

set_option maxRecDepth 100000 in
theorem PgAt.fz (h : PgAt w p b sm rb N d l q) (o : Nat) : w.frozen? ⟨p, o, none⟩ = false := by obtain ⟨T, hT, _⟩ := h.wd; exact hT.fz o
set_option maxRecDepth 100000 in
theorem PgAt.lt (h : PgAt w p b sm rb N d l q) : p < w.heap.size := lt_of_cell h.c0
set_option maxRecDepth 100000 in
theorem PgAt.lts (h : PgAt w p b sm rb N d l q) : sm < w.heap.size := by obtain ⟨_, _, _, h, _⟩ := h.since; exact h.lt

set_option maxRecDepth 100000 in
theorem ownsMap_block {H : Type} {P : Program} {k : TypeId} {R : Value → Option (DataW H × List MemPlace)} {w w' : World} {b n : Nat} {D : DataW H} (h : w.ownsMap P k R b n D) (hb : w'.heap[b]? = w.heap[b]?) : w'.ownsMap P k R b n D := by
  obtain ⟨es, clock, he, hF⟩ := h
  exact ⟨es, clock, hb.trans he, hF⟩

set_option maxRecDepth 100000 in
theorem PgAt.turn {S : List Nat} (h : PgAt w p b sm rb N d l q) (hT : Turn S w w') (hp : p ∉ S) (hs : sm ∉ S) (hr : rb ∉ S) : PgAt w' p b sm rb N d l q := by
  have hb := hT.block p h.lt hp
  have hc : ∀ o, w'.cell? ⟨p, o, none⟩ = w.cell? ⟨p, o, none⟩ := fun o => World.cell?_of_block (a := ⟨p, o, none⟩) hb
  obtain ⟨x1, h1⟩ := h.c1
  obtain ⟨x2, h2⟩ := h.c2
  obtain ⟨ra, rc, h5, hB, hn, hx⟩ := h.c5
  obtain ⟨T, hW, hb'⟩ := h.wd
  obtain ⟨n, D, hn', hM, hS⟩ := h.since
  exact ⟨(hc 0).trans h.c0, ⟨x1, (hc 1).trans h1⟩, ⟨x2, (hc 2).trans h2⟩, (hc 3).trans h.c3, (hc 4).trans h.c4,
    ⟨ra, rc, (hc 5).trans h5, hB.turn hT (fun x h1 h2 => by rw [hx x h1 h2]; exact hr), hn, hx⟩, (hc 6).trans h.c6, (hc 7).trans h.c7, ⟨T, hW.turn hT hp, hb'⟩, (hc 265).trans h.cs,
    ⟨n, D, hn', ownsMap_block hM (hT.block sm h.lts hs), hS⟩, h.ne, h.nr⟩

set_option maxRecDepth 100000 in
theorem PgAt.turn0 (h : PgAt w p b sm rb N d l q) (hT : Turn [] w w') : PgAt w' p b sm rb N d l q := h.turn hT (by simp) (by simp) (by simp)

set_option maxRecDepth 100000 in
/-- One cell of the object, not of the bitmap, is stored. -/
theorem PgAt.set (h : PgAt w p b sm rb N d l q) (k : Nat) (v : Value) (hk : k < 9 ∨ k = 265) :
    (∀ o, o ≠ k → (w.setCell ⟨p, k, none⟩ v).cell? ⟨p, o, none⟩ = w.cell? ⟨p, o, none⟩) ∧ (∃ T, WordsAt (w.setCell ⟨p, k, none⟩ v) p 9 T ∧ ∀ n, n < 16384 → bit T n = (q.rd && q.tk N n)) ∧
    (∃ n D, n ≤ q.u ∧ (w.setCell ⟨p, k, none⟩ v).ownsMap Tryz.prog 3 (plainElem Tryz.prog 3) sm n D ∧ Since D q.si) ∧
    (∀ ra, (BytesAt w ra q.root ∧ ∀ x, q.root ≠ [] → ra = some x → x.block = rb) → BytesAt (w.setCell ⟨p, k, none⟩ v) ra q.root) := by
  have ho : ∀ o, o ≠ k → (w.setCell ⟨p, k, none⟩ v).cell? ⟨p, o, none⟩ = w.cell? ⟨p, o, none⟩ := fun o hne => World.cell?_setCell_other _ _ _ _ (off_ne hne.symm)
  obtain ⟨T, hW, hb'⟩ := h.wd
  obtain ⟨n, D, hn', hM, hS⟩ := h.since
  have hT : Turn [p] w (w.setCell ⟨p, k, none⟩ v) := (Turn.refl [p] w).setCell (List.mem_singleton.2 rfl) k v
  refine ⟨ho, ⟨T, ⟨fun i hi => (ho _ (by omega)).trans (hW.cell i hi), fun o => by rw [World.frozen?_setCell]; exact hW.fz o, hW.lt, by rw [World.size_setCell]; exact hW.blk⟩, hb'⟩,
    ⟨n, D, hn', ownsMap_block hM (hT.block sm h.lts (fun hm => h.ne (List.mem_singleton.1 hm).symm)), hS⟩, fun ra hr => hr.1.turn hT fun x h1 h2 => by rw [hr.2 x h1 h2]; exact fun hm => h.nr (List.mem_singleton.1 hm).symm⟩

set_option maxRecDepth 100000 in
theorem PgAt.setReads (h : PgAt w p b sm rb N d l q) (x : Int) : PgAt (w.setCell ⟨p, 1, none⟩ (.int .i64 x)) p b sm rb N d l q := by
  obtain ⟨ho, hw, hs, hr⟩ := h.set 1 (.int .i64 x) (by omega)
  obtain ⟨x1, h1⟩ := h.c1
  obtain ⟨x2, h2⟩ := h.c2
  obtain ⟨ra, rc, h5, hB, hn, hx⟩ := h.c5
  exact ⟨(ho 0 (by omega)).trans h.c0, ⟨x, World.cell?_setCell_same _ _ _ h1⟩, ⟨x2, (ho 2 (by omega)).trans h2⟩, (ho 3 (by omega)).trans h.c3, (ho 4 (by omega)).trans h.c4, ⟨ra, rc, (ho 5 (by omega)).trans h5, hr ra ⟨hB, hx⟩, hn, hx⟩,
    (ho 6 (by omega)).trans h.c6, (ho 7 (by omega)).trans h.c7, hw, (ho 265 (by omega)).trans h.cs, hs, h.ne, h.nr⟩
set_option maxRecDepth 100000 in
theorem PgAt.setWrites (h : PgAt w p b sm rb N d l q) (x : Int) : PgAt (w.setCell ⟨p, 2, none⟩ (.int .i64 x)) p b sm rb N d l q := by
  obtain ⟨ho, hw, hs, hr⟩ := h.set 2 (.int .i64 x) (by omega)
  obtain ⟨x1, h1⟩ := h.c1
  obtain ⟨x2, h2⟩ := h.c2
  obtain ⟨ra, rc, h5, hB, hn, hx⟩ := h.c5
  exact ⟨(ho 0 (by omega)).trans h.c0, ⟨x1, (ho 1 (by omega)).trans h1⟩, ⟨x, World.cell?_setCell_same _ _ _ h2⟩, (ho 3 (by omega)).trans h.c3, (ho 4 (by omega)).trans h.c4, ⟨ra, rc, (ho 5 (by omega)).trans h5, hr ra ⟨hB, hx⟩, hn, hx⟩,
    (ho 6 (by omega)).trans h.c6, (ho 7 (by omega)).trans h.c7, hw, (ho 265 (by omega)).trans h.cs, hs, h.ne, h.nr⟩
set_option maxRecDepth 100000 in
theorem PgAt.setDead (h : PgAt w p b sm rb N d l q) (x : Bool) : PgAt (w.setCell ⟨p, 3, none⟩ (.bool x)) p b sm rb N d l { q with dead := x } := by
  obtain ⟨ho, hw, hs, hr⟩ := h.set 3 (.bool x) (by omega)
  obtain ⟨x1, h1⟩ := h.c1
  obtain ⟨x2, h2⟩ := h.c2
  obtain ⟨ra, rc, h5, hB, hn, hx⟩ := h.c5
  exact ⟨(ho 0 (by omega)).trans h.c0, ⟨x1, (ho 1 (by omega)).trans h1⟩, ⟨x2, (ho 2 (by omega)).trans h2⟩, World.cell?_setCell_same _ _ _ h.c3, (ho 4 (by omega)).trans h.c4, ⟨ra, rc, (ho 5 (by omega)).trans h5, hr ra ⟨hB, hx⟩, hn, hx⟩,
    (ho 6 (by omega)).trans h.c6, (ho 7 (by omega)).trans h.c7, hw, (ho 265 (by omega)).trans h.cs, hs, h.ne, h.nr⟩
set_option maxRecDepth 100000 in
theorem PgAt.setC (h : PgAt w p b sm rb N d l q) (x : Nat) : PgAt (w.setCell ⟨p, 4, none⟩ (.int .i64 (x : Nat))) p b sm rb N d l { q with c := x } := by
  obtain ⟨ho, hw, hs, hr⟩ := h.set 4 (.int .i64 (x : Nat)) (by omega)
  obtain ⟨x1, h1⟩ := h.c1
  obtain ⟨x2, h2⟩ := h.c2
  obtain ⟨ra, rc, h5, hB, hn, hx⟩ := h.c5
  exact ⟨(ho 0 (by omega)).trans h.c0, ⟨x1, (ho 1 (by omega)).trans h1⟩, ⟨x2, (ho 2 (by omega)).trans h2⟩, (ho 3 (by omega)).trans h.c3, World.cell?_setCell_same _ _ _ h.c4, ⟨ra, rc, (ho 5 (by omega)).trans h5, hr ra ⟨hB, hx⟩, hn, hx⟩,
    (ho 6 (by omega)).trans h.c6, (ho 7 (by omega)).trans h.c7, hw, (ho 265 (by omega)).trans h.cs, hs, h.ne, h.nr⟩
set_option maxRecDepth 100000 in
theorem PgAt.setRoot (h : PgAt w p b sm rb N d l q) (ra : Option Addr) (rc rb' : Nat) (root : List Nat) (hB : BytesAt w ra root) (hn : ra = none → rc = 0) (hx : ∀ x, root ≠ [] → ra = some x → x.block = rb') (hne : p ≠ rb') :
    PgAt (w.setCell ⟨p, 5, none⟩ (.slice ra root.length rc)) p b sm rb' N d l { q with root := root } := by
  obtain ⟨ho, hw, hs, _⟩ := h.set 5 (.slice ra root.length rc) (by omega)
  obtain ⟨x1, h1⟩ := h.c1
  obtain ⟨x2, h2⟩ := h.c2
  obtain ⟨_, _, h5, _⟩ := h.c5
  have hT : Turn [p] w (w.setCell ⟨p, 5, none⟩ (.slice ra root.length rc)) := (Turn.refl [p] w).setCell (List.mem_singleton.2 rfl) 5 _
  exact ⟨(ho 0 (by omega)).trans h.c0, ⟨x1, (ho 1 (by omega)).trans h1⟩, ⟨x2, (ho 2 (by omega)).trans h2⟩, (ho 3 (by omega)).trans h.c3, (ho 4 (by omega)).trans h.c4,
    ⟨ra, rc, World.cell?_setCell_same _ _ _ h5, hB.turn hT (fun x h1 h2 hm => hne (by rw [← hx x h1 h2]; exact (List.mem_singleton.1 hm).symm)), hn, hx⟩,
    (ho 6 (by omega)).trans h.c6, (ho 7 (by omega)).trans h.c7, hw, (ho 265 (by omega)).trans h.cs, hs, h.ne, hne⟩
set_option maxRecDepth 100000 in
theorem PgAt.setDone (h : PgAt w p b sm rb N d l q) (x : Int) : PgAt (w.setCell ⟨p, 6, none⟩ (.int .u32 x)) p b sm rb N x l q := by
  obtain ⟨ho, hw, hs, hr⟩ := h.set 6 (.int .u32 x) (by omega)
  obtain ⟨x1, h1⟩ := h.c1
  obtain ⟨x2, h2⟩ := h.c2
  obtain ⟨ra, rc, h5, hB, hn, hx⟩ := h.c5
  exact ⟨(ho 0 (by omega)).trans h.c0, ⟨x1, (ho 1 (by omega)).trans h1⟩, ⟨x2, (ho 2 (by omega)).trans h2⟩, (ho 3 (by omega)).trans h.c3, (ho 4 (by omega)).trans h.c4, ⟨ra, rc, (ho 5 (by omega)).trans h5, hr ra ⟨hB, hx⟩, hn, hx⟩,
    World.cell?_setCell_same _ _ _ h.c6, (ho 7 (by omega)).trans h.c7, hw, (ho 265 (by omega)).trans h.cs, hs, h.ne, h.nr⟩
set_option maxRecDepth 100000 in
theorem PgAt.setLock (h : PgAt w p b sm rb N d l q) (x : Int) : PgAt (w.setCell ⟨p, 7, none⟩ (.int .i32 x)) p b sm rb N d x q := by
  obtain ⟨ho, hw, hs, hr⟩ := h.set 7 (.int .i32 x) (by omega)
  obtain ⟨x1, h1⟩ := h.c1
  obtain ⟨x2, h2⟩ := h.c2
  obtain ⟨ra, rc, h5, hB, hn, hx⟩ := h.c5
  exact ⟨(ho 0 (by omega)).trans h.c0, ⟨x1, (ho 1 (by omega)).trans h1⟩, ⟨x2, (ho 2 (by omega)).trans h2⟩, (ho 3 (by omega)).trans h.c3, (ho 4 (by omega)).trans h.c4, ⟨ra, rc, (ho 5 (by omega)).trans h5, hr ra ⟨hB, hx⟩, hn, hx⟩,
    (ho 6 (by omega)).trans h.c6, World.cell?_setCell_same _ _ _ h.c7, hw, (ho 265 (by omega)).trans h.cs, hs, h.ne, h.nr⟩
set_option maxRecDepth 100000 in
theorem PgAt.drew (h : PgAt w p b sm rb N d l q) : PgAt w.drew p b sm rb N d l q := h.turn0 (Turn.refl [] w).drew
set_option maxRecDepth 100000 in
/-- The bitmap turns. -/
theorem PgAt.setWords (h : PgAt w p b sm rb N d l q) (hT : Turn [p] w w') (hc : ∀ o, o < 9 ∨ o = 265 → w'.cell? ⟨p, o, none⟩ = w.cell? ⟨p, o, none⟩) {T : Nat → Nat} {q' : Pg} (hW : WordsAt w' p 9 T) (hb : ∀ n, n < 16384 → bit T n = (q'.rd && q'.tk N n))
    (e1 : q'.dead = q.dead) (e2 : q'.c = q.c) (e3 : q'.root = q.root) (e4 : q'.si = q.si) (e5 : q'.u = q.u) : PgAt w' p b sm rb N d l q' := by
  obtain ⟨x1, h1⟩ := h.c1
  obtain ⟨x2, h2⟩ := h.c2
  obtain ⟨ra, rc, h5, hB, hn, hx⟩ := h.c5
  obtain ⟨n, D, hn', hM, hS⟩ := h.since
  exact ⟨(hc 0 (by omega)).trans h.c0, ⟨x1, (hc 1 (by omega)).trans h1⟩, ⟨x2, (hc 2 (by omega)).trans h2⟩, by rw [e1]; exact (hc 3 (by omega)).trans h.c3, by rw [e2]; exact (hc 4 (by omega)).trans h.c4,
    ⟨ra, rc, by rw [e3]; exact (hc 5 (by omega)).trans h5, by rw [e3]; exact hB.turn hT (fun x h1 h2 hm => h.nr (by rw [← hx x h1 h2]; exact (List.mem_singleton.1 hm).symm)), hn, by rw [e3]; exact hx⟩,
    (hc 6 (by omega)).trans h.c6, (hc 7 (by omega)).trans h.c7, ⟨T, hW, hb⟩, (hc 265 (by omega)).trans h.cs,
    ⟨n, D, by rw [e5]; exact hn', ownsMap_block hM (hT.block sm h.lts (fun hm => h.ne (List.mem_singleton.1 hm).symm)), by rw [e4]; exact hS⟩, h.ne, h.nr⟩

end Go.Proofs.YthgpjkcgccdldaaGreatDoor
