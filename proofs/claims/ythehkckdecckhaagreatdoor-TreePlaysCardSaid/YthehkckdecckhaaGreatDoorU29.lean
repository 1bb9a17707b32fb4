/-
  What a pager is by itself ('Pg'), what it is in memory ('PgAt'); its read and write, isDead, walked.
  A pager's read and write, isDead, Seq, Root, walked.
  What a pager's disk says ('Laid'); what was written is what is read: pages, maps; bytes.Clone, Root, walked.
  The free map, read once: readFreeMap, Once.Do with it, freeMap, walked.
  Left, isThere, Free, Read, Alloc of a pager, walked.
-/
import Derived.Test.YthehkckdecckhaaGreatDoorU28
import Derived.Maps.RangeWalk

namespace Go.Proofs.YthehkckdecckhaaGreatDoor
open Go.RowKit Go.Maps

/-- A pager by itself: whether it met the power's end; Commits done; the root; the committed pages; what was done since (1: allocated, 2: freed); whether the map was read; how often 'since' was written. -/
structure Pg where
  dead : Bool
  c : Nat
  root : List Nat
  K : Nat → Bool
  si : Nat → Nat
  rd : Bool
  u : Nat

/-- The first page's block. -/
def fp (N : Nat) : Nat := 2 + 2 * mbs N
theorem fp_bd {N : Nat} (h1 : 64 ≤ N) (h2 : N ≤ 16384) : 4 ≤ fp N ∧ fp N ≤ 10 ∧ fp N < N ∧ 1 ≤ mbs N ∧ mbs N ≤ 4 ∧ fp N = 2 + 2 * mbs N ∧ N ≤ 4096 * mbs N := by unfold fp mbs; omega

theorem fp2 (N : Nat) : 2 ≤ fp N := by unfold fp; omega

/-- A block that can't be allocated now. -/
def Pg.tk (q : Pg) (N n : Nat) : Bool := decide (n < fp N) || decide (N ≤ n) || q.K n || q.si n == 1

/-- What the map 'since' says. -/
structure Since (D : DataW Value) (si : Nat → Nat) : Prop where
  keys : ∀ kl, has D kl = true → ∃ n : Nat, kl = .int .i64 (n : Int) ∧ si n ≠ 0
  at_ : ∀ n : Nat, D.atKey (.int .i64 (n : Int)) (.lit (.int .i64 0)) = .lit (.int .i64 (si n : Nat))

/-- A pager in memory: its object in block p, the disk's in b, 'since' in sm, the root's bytes in rb; d, l: the once's word and lock. -/
structure PgAt (w : World) (p b sm rb N : Nat) (d l : Int) (q : Pg) : Prop where
  c0 : w.cell? ⟨p, 0, none⟩ = some (.pointer (some ⟨b, 0, none⟩))
  c1 : ∃ x : Int, w.cell? ⟨p, 1, none⟩ = some (.int .i64 x)
  c2 : ∃ x : Int, w.cell? ⟨p, 2, none⟩ = some (.int .i64 x)
  c3 : w.cell? ⟨p, 3, none⟩ = some (.bool q.dead)
  c4 : w.cell? ⟨p, 4, none⟩ = some (.int .i64 (q.c : Nat))
  c5 : ∃ ra rc, w.cell? ⟨p, 5, none⟩ = some (.slice ra q.root.length rc) ∧ BytesAt w ra q.root ∧ (ra = none → rc = 0) ∧ ∀ x, q.root ≠ [] → ra = some x → x.block = rb
  c6 : w.cell? ⟨p, 6, none⟩ = some (.int .u32 d)
  c7 : w.cell? ⟨p, 7, none⟩ = some (.int .i32 l)
  wd : ∃ T, WordsAt w p 9 T ∧ ∀ n, n < 16384 → bit T n = (q.rd && q.tk N n)
  cs : w.cell? ⟨p, 265, none⟩ = some (.map (some sm))
  since : ∃ n D, n ≤ q.u ∧ w.ownsMap Tryz.prog 3 (plainElem Tryz.prog 3) sm n D ∧ Since D q.si
  ne : p ≠ sm
  nr : p ≠ rb

variable {w w' : World} {p b m sm rb N : Nat} {d l : Int} {q : Pg}

set_option maxRecDepth 100000 in
theorem PgAt.fz (h : PgAt w p b sm rb N d l q) (o : Nat) : w.frozen? ⟨p, o, none⟩ = false := by obtain ⟨T, hT, _⟩ := h.wd; exact hT.fz o
set_option maxRecDepth 100000 in
theorem PgAt.lt (h : PgAt w p b sm rb N d l q) : p < w.heap.size := lt_of_cell h.c0
set_option maxRecDepth 100000 in
theorem PgAt.lts (h : PgAt w p b sm rb N d l q) : sm < w.heap.size := by obtain ⟨_, _, _, h, _⟩ := h.since; exact h.lt

set_option maxRecDepth 100000 in
theorem ownsMap_block {H : Type} {P : Program} {k : TypeId} {R : Value → Option (DataW H × List MemPlace)} {w w' : World} {b n : Nat} {D : DataW H} (h : w.ownsMap P k R b n D) (hb : w'.heap[b]? = w.heap[b]?) : w'.ownsMap P k R b n D := by
  obtain ⟨es, clock, he, hF⟩ := h
  exact ⟨es, clock, hb.trans he, hF⟩

set_option maxRecDepth 100000 in
theorem PgAt.turn {S : List Nat} (h : PgAt w p b sm rb N d l q) (hT : Turn S w w') (hp : p ∉ S) (hs : sm ∉ S) (hr : rb ∉ S) : PgAt w' p b sm rb N d l q := by
  have hb := hT.block p h.lt hp
  have hc : ∀ o, w'.cell? ⟨p, o, none⟩ = w.cell? ⟨p, o, none⟩ := fun o => World.cell?_of_block (a := ⟨p, o, none⟩) hb
  obtain ⟨x1, h1⟩ := h.c1
  obtain ⟨x2, h2⟩ := h.c2
  obtain ⟨ra, rc, h5, hB, hn, hx⟩ := h.c5
  obtain ⟨T, hW, hb'⟩ := h.wd
  obtain ⟨n, D, hn', hM, hS⟩ := h.since
  exact ⟨(hc 0).trans h.c0, ⟨x1, (hc 1).trans h1⟩, ⟨x2, (hc 2).trans h2⟩, (hc 3).trans h.c3, (hc 4).trans h.c4,
    ⟨ra, rc, (hc 5).trans h5, hB.turn hT (fun x h1 h2 => by rw [hx x h1 h2]; exact hr), hn, hx⟩, (hc 6).trans h.c6, (hc 7).trans h.c7, ⟨T, hW.turn hT hp, hb'⟩, (hc 265).trans h.cs,
    ⟨n, D, hn', ownsMap_block hM (hT.block sm h.lts hs), hS⟩, h.ne, h.nr⟩

set_option maxRecDepth 100000 in
theorem PgAt.turn0 (h : PgAt w p b sm rb N d l q) (hT : Turn [] w w') : PgAt w' p b sm rb N d l q := h.turn hT (by simp) (by simp) (by simp)

set_option maxRecDepth 100000 in
/-- One cell of the object, not of the bitmap, is stored. -/
theorem PgAt.set (h : PgAt w p b sm rb N d l q) (k : Nat) (v : Value) (hk : k < 9 ∨ k = 265) :
    (∀ o, o ≠ k → (w.setCell ⟨p, k, none⟩ v).cell? ⟨p, o, none⟩ = w.cell? ⟨p, o, none⟩) ∧ (∃ T, WordsAt (w.setCell ⟨p, k, none⟩ v) p 9 T ∧ ∀ n, n < 16384 → bit T n = (q.rd && q.tk N n)) ∧
    (∃ n D, n ≤ q.u ∧ (w.setCell ⟨p, k, none⟩ v).ownsMap Tryz.prog 3 (plainElem Tryz.prog 3) sm n D ∧ Since D q.si) ∧
    (∀ ra, (BytesAt w ra q.root ∧ ∀ x, q.root ≠ [] → ra = some x → x.block = rb) → BytesAt (w.setCell ⟨p, k, none⟩ v) ra q.root) := by
  have ho : ∀ o, o ≠ k → (w.setCell ⟨p, k, none⟩ v).cell? ⟨p, o, none⟩ = w.cell? ⟨p, o, none⟩ := fun o hne => World.cell?_setCell_other _ _ _ _ (off_ne hne.symm)
  obtain ⟨T, hW, hb'⟩ := h.wd
  obtain ⟨n, D, hn', hM, hS⟩ := h.since
  have hT : Turn [p] w (w.setCell ⟨p, k, none⟩ v) := (Turn.refl [p] w).setCell (List.mem_singleton.2 rfl) k v
  refine ⟨ho, ⟨T, ⟨fun i hi => (ho _ (by omega)).trans (hW.cell i hi), fun o => by rw [World.frozen?_setCell]; exact hW.fz o, hW.lt, by rw [World.size_setCell]; exact hW.blk⟩, hb'⟩,
    ⟨n, D, hn', ownsMap_block hM (hT.block sm h.lts (fun hm => h.ne (List.mem_singleton.1 hm).symm)), hS⟩, fun ra hr => hr.1.turn hT fun x h1 h2 => by rw [hr.2 x h1 h2]; exact fun hm => h.nr (List.mem_singleton.1 hm).symm⟩

set_option maxRecDepth 100000 in
theorem PgAt.setReads (h : PgAt w p b sm rb N d l q) (x : Int) : PgAt (w.setCell ⟨p, 1, none⟩ (.int .i64 x)) p b sm rb N d l q := by
  obtain ⟨ho, hw, hs, hr⟩ := h.set 1 (.int .i64 x) (by omega)
  obtain ⟨x1, h1⟩ := h.c1
  obtain ⟨x2, h2⟩ := h.c2
  obtain ⟨ra, rc, h5, hB, hn, hx⟩ := h.c5
  exact ⟨(ho 0 (by omega)).trans h.c0, ⟨x, World.cell?_setCell_same _ _ _ h1⟩, ⟨x2, (ho 2 (by omega)).trans h2⟩, (ho 3 (by omega)).trans h.c3, (ho 4 (by omega)).trans h.c4, ⟨ra, rc, (ho 5 (by omega)).trans h5, hr ra ⟨hB, hx⟩, hn, hx⟩,
    (ho 6 (by omega)).trans h.c6, (ho 7 (by omega)).trans h.c7, hw, (ho 265 (by omega)).trans h.cs, hs, h.ne, h.nr⟩
set_option maxRecDepth 100000 in
theorem PgAt.setWrites (h : PgAt w p b sm rb N d l q) (x : Int) : PgAt (w.setCell ⟨p, 2, none⟩ (.int .i64 x)) p b sm rb N d l q := by
  obtain ⟨ho, hw, hs, hr⟩ := h.set 2 (.int .i64 x) (by omega)
  obtain ⟨x1, h1⟩ := h.c1
  obtain ⟨x2, h2⟩ := h.c2
  obtain ⟨ra, rc, h5, hB, hn, hx⟩ := h.c5
  exact ⟨(ho 0 (by omega)).trans h.c0, ⟨x1, (ho 1 (by omega)).trans h1⟩, ⟨x, World.cell?_setCell_same _ _ _ h2⟩, (ho 3 (by omega)).trans h.c3, (ho 4 (by omega)).trans h.c4, ⟨ra, rc, (ho 5 (by omega)).trans h5, hr ra ⟨hB, hx⟩, hn, hx⟩,
    (ho 6 (by omega)).trans h.c6, (ho 7 (by omega)).trans h.c7, hw, (ho 265 (by omega)).trans h.cs, hs, h.ne, h.nr⟩
set_option maxRecDepth 100000 in
theorem PgAt.setDead (h : PgAt w p b sm rb N d l q) (x : Bool) : PgAt (w.setCell ⟨p, 3, none⟩ (.bool x)) p b sm rb N d l { q with dead := x } := by
  obtain ⟨ho, hw, hs, hr⟩ := h.set 3 (.bool x) (by omega)
  obtain ⟨x1, h1⟩ := h.c1
  obtain ⟨x2, h2⟩ := h.c2
  obtain ⟨ra, rc, h5, hB, hn, hx⟩ := h.c5
  exact ⟨(ho 0 (by omega)).trans h.c0, ⟨x1, (ho 1 (by omega)).trans h1⟩, ⟨x2, (ho 2 (by omega)).trans h2⟩, World.cell?_setCell_same _ _ _ h.c3, (ho 4 (by omega)).trans h.c4, ⟨ra, rc, (ho 5 (by omega)).trans h5, hr ra ⟨hB, hx⟩, hn, hx⟩,
    (ho 6 (by omega)).trans h.c6, (ho 7 (by omega)).trans h.c7, hw, (ho 265 (by omega)).trans h.cs, hs, h.ne, h.nr⟩
set_option maxRecDepth 100000 in
theorem PgAt.setC (h : PgAt w p b sm rb N d l q) (x : Nat) : PgAt (w.setCell ⟨p, 4, none⟩ (.int .i64 (x : Nat))) p b sm rb N d l { q with c := x } := by
  obtain ⟨ho, hw, hs, hr⟩ := h.set 4 (.int .i64 (x : Nat)) (by omega)
  obtain ⟨x1, h1⟩ := h.c1
  obtain ⟨x2, h2⟩ := h.c2
  obtain ⟨ra, rc, h5, hB, hn, hx⟩ := h.c5
  exact ⟨(ho 0 (by omega)).trans h.c0, ⟨x1, (ho 1 (by omega)).trans h1⟩, ⟨x2, (ho 2 (by omega)).trans h2⟩, (ho 3 (by omega)).trans h.c3, World.cell?_setCell_same _ _ _ h.c4, ⟨ra, rc, (ho 5 (by omega)).trans h5, hr ra ⟨hB, hx⟩, hn, hx⟩,
    (ho 6 (by omega)).trans h.c6, (ho 7 (by omega)).trans h.c7, hw, (ho 265 (by omega)).trans h.cs, hs, h.ne, h.nr⟩
set_option maxRecDepth 100000 in
theorem PgAt.setRoot (h : PgAt w p b sm rb N d l q) (ra : Option Addr) (rc rb' : Nat) (root : List Nat) (hB : BytesAt w ra root) (hn : ra = none → rc = 0) (hx : ∀ x, root ≠ [] → ra = some x → x.block = rb') (hne : p ≠ rb') :
    PgAt (w.setCell ⟨p, 5, none⟩ (.slice ra root.length rc)) p b sm rb' N d l { q with root := root } := by
  obtain ⟨ho, hw, hs, _⟩ := h.set 5 (.slice ra root.length rc) (by omega)
  obtain ⟨x1, h1⟩ := h.c1
  obtain ⟨x2, h2⟩ := h.c2
  obtain ⟨_, _, h5, _⟩ := h.c5
  have hT : Turn [p] w (w.setCell ⟨p, 5, none⟩ (.slice ra root.length rc)) := (Turn.refl [p] w).setCell (List.mem_singleton.2 rfl) 5 _
  exact ⟨(ho 0 (by omega)).trans h.c0, ⟨x1, (ho 1 (by omega)).trans h1⟩, ⟨x2, (ho 2 (by omega)).trans h2⟩, (ho 3 (by omega)).trans h.c3, (ho 4 (by omega)).trans h.c4,
    ⟨ra, rc, World.cell?_setCell_same _ _ _ h5, hB.turn hT (fun x h1 h2 hm => hne (by rw [← hx x h1 h2]; exact (List.mem_singleton.1 hm).symm)), hn, hx⟩,
    (ho 6 (by omega)).trans h.c6, (ho 7 (by omega)).trans h.c7, hw, (ho 265 (by omega)).trans h.cs, hs, h.ne, hne⟩
set_option maxRecDepth 100000 in
theorem PgAt.setDone (h : PgAt w p b sm rb N d l q) (x : Int) : PgAt (w.setCell ⟨p, 6, none⟩ (.int .u32 x)) p b sm rb N x l q := by
  obtain ⟨ho, hw, hs, hr⟩ := h.set 6 (.int .u32 x) (by omega)
  obtain ⟨x1, h1⟩ := h.c1
  obtain ⟨x2, h2⟩ := h.c2
  obtain ⟨ra, rc, h5, hB, hn, hx⟩ := h.c5
  exact ⟨(ho 0 (by omega)).trans h.c0, ⟨x1, (ho 1 (by omega)).trans h1⟩, ⟨x2, (ho 2 (by omega)).trans h2⟩, (ho 3 (by omega)).trans h.c3, (ho 4 (by omega)).trans h.c4, ⟨ra, rc, (ho 5 (by omega)).trans h5, hr ra ⟨hB, hx⟩, hn, hx⟩,
    World.cell?_setCell_same _ _ _ h.c6, (ho 7 (by omega)).trans h.c7, hw, (ho 265 (by omega)).trans h.cs, hs, h.ne, h.nr⟩
set_option maxRecDepth 100000 in
theorem PgAt.setLock (h : PgAt w p b sm rb N d l q) (x : Int) : PgAt (w.setCell ⟨p, 7, none⟩ (.int .i32 x)) p b sm rb N d x q := by
  obtain ⟨ho, hw, hs, hr⟩ := h.set 7 (.int .i32 x) (by omega)
  obtain ⟨x1, h1⟩ := h.c1
  obtain ⟨x2, h2⟩ := h.c2
  obtain ⟨ra, rc, h5, hB, hn, hx⟩ := h.c5
  exact ⟨(ho 0 (by omega)).trans h.c0, ⟨x1, (ho 1 (by omega)).trans h1⟩, ⟨x2, (ho 2 (by omega)).trans h2⟩, (ho 3 (by omega)).trans h.c3, (ho 4 (by omega)).trans h.c4, ⟨ra, rc, (ho 5 (by omega)).trans h5, hr ra ⟨hB, hx⟩, hn, hx⟩,
    (ho 6 (by omega)).trans h.c6, World.cell?_setCell_same _ _ _ h.c7, hw, (ho 265 (by omega)).trans h.cs, hs, h.ne, h.nr⟩
set_option maxRecDepth 100000 in
theorem PgAt.drew (h : PgAt w p b sm rb N d l q) : PgAt w.drew p b sm rb N d l q := h.turn0 (Turn.refl [] w).drew
set_option maxRecDepth 100000 in
/-- The bitmap turns. -/
theorem PgAt.setWords (h : PgAt w p b sm rb N d l q) (hT : Turn [p] w w') (hc : ∀ o, o < 9 ∨ o = 265 → w'.cell? ⟨p, o, none⟩ = w.cell? ⟨p, o, none⟩) {T : Nat → Nat} {q' : Pg} (hW : WordsAt w' p 9 T) (hb : ∀ n, n < 16384 → bit T n = (q'.rd && q'.tk N n))
    (e1 : q'.dead = q.dead) (e2 : q'.c = q.c) (e3 : q'.root = q.root) (e4 : q'.si = q.si) (e5 : q'.u = q.u) : PgAt w' p b sm rb N d l q' := by
  obtain ⟨x1, h1⟩ := h.c1
  obtain ⟨x2, h2⟩ := h.c2
  obtain ⟨ra, rc, h5, hB, hn, hx⟩ := h.c5
  obtain ⟨n, D, hn', hM, hS⟩ := h.since
  exact ⟨(hc 0 (by omega)).trans h.c0, ⟨x1, (hc 1 (by omega)).trans h1⟩, ⟨x2, (hc 2 (by omega)).trans h2⟩, by rw [e1]; exact (hc 3 (by omega)).trans h.c3, by rw [e2]; exact (hc 4 (by omega)).trans h.c4,
    ⟨ra, rc, by rw [e3]; exact (hc 5 (by omega)).trans h5, by rw [e3]; exact hB.turn hT (fun x h1 h2 hm => h.nr (by rw [← hx x h1 h2]; exact (List.mem_singleton.1 hm).symm)), hn, by rw [e3]; exact hx⟩,
    (hc 6 (by omega)).trans h.c6, (hc 7 (by omega)).trans h.c7, ⟨T, hW, hb⟩, (hc 265 (by omega)).trans h.cs,
    ⟨n, D, by rw [e5]; exact hn', ownsMap_block hM (hT.block sm h.lts (fun hm => h.ne (List.mem_singleton.1 hm).symm)), by rw [e4]; exact hS⟩, h.ne, h.nr⟩

end Go.Proofs.YthehkckdecckhaaGreatDoor

namespace Go.Proofs.YthehkckdecckhaaGreatDoor
open Go.RowKit Go.Maps

/-- The blocks of a pager and of its disk are apart. -/
structure Apart (p b m sm rb : Nat) : Prop where
  pb : p ≠ b
  pm : p ≠ m
  sb : sm ≠ b
  smm : sm ≠ m
  rbb : rb ≠ b
  rbm : rb ≠ m
  sr : sm ≠ rb

def fB (s : St) (n : Nat) : Nat → Nat := fun i => (s.f n).getD i 0
set_option maxRecDepth 100000 in
theorem fB_list (s : St) (G : s.Good) (n : Nat) : bytesOf 512 (fB s n) = s.f n := by
  have := bytesOf_list (s.f n)
  rw [G.len n] at this
  exact this

set_option maxRecDepth 100000 in
set_option maxHeartbeats 400000 in
theorem addw_any (b o : Nat) (x : Int) (w : World) (hc : w.cell? ⟨b, o, none⟩ = some (.int .i64 x)) (hz : w.frozen? ⟨b, o, none⟩ = false) :
    Calls Tryz.prog 75 #[.pointer (some ⟨b, o, none⟩), .int .i64 1] w fun e w' => e = .returned (.int .i64 (IntKind.i64.wrap (x + 1))) ∧ w' = w.setCell ⟨b, o, none⟩ (.int .i64 (IntKind.i64.wrap (x + 1))) := by
  have hadd := run_call_add (P := Tryz.prog) Tryz.func111 (by kernel_rfl) (by kernel_rfl) (by kernel_rfl) .i64 (by kernel_rfl) (y := 1) (s := IntKind.i64.wrap (x + 1)) hc hz rfl
  generalize IntKind.i64.wrap (x + 1) = y at *
  go_enter Tryz.func75, Tryz.ntmps75
  go_wp2
  go_ret
  exact ⟨rfl, rfl⟩

set_option maxRecDepth 100000 in
set_option maxHeartbeats 400000 in
theorem store_any (b o : Nat) (x y : Int) (w : World) (hc : w.cell? ⟨b, o, none⟩ = some (.int .i64 x)) (hz : w.frozen? ⟨b, o, none⟩ = false) :
    Calls Tryz.prog 80 #[.pointer (some ⟨b, o, none⟩), .int .i64 y] w fun e w' => e = .returned (.tuple #[]) ∧ w' = w.setCell ⟨b, o, none⟩ (.int .i64 y) := by
  have hst := run_call_store (P := Tryz.prog) Tryz.func115 (by kernel_rfl) (by kernel_rfl) (by kernel_rfl) (by kernel_rfl) (k := .i64) (y := y) hc hz
  go_enter Tryz.func80, Tryz.ntmps80
  go_wp2
  go_end0
  exact ⟨rfl, rfl⟩

set_option maxRecDepth 100000 in
set_option maxHeartbeats 400000 in
/-- Disk.Read, of a block that there is. -/
theorem dread_ok (b m : Nat) (s : St) (G : s.Good) (hd : s.dead = false) (j : Nat) (hj : j < s.n) (w : World) (hD : DiskAt w b m s) : Calls Tryz.prog 112 #[.pointer (some ⟨b, 0, none⟩), .int .i64 (j : Nat)] w fun e w' =>
    e = .returned (.tuple #[.slice (some ⟨w.heap.size, 0, none⟩) 512 512, .int .i64 0]) ∧ RowAt w' w.heap.size 512 (fB s j) ∧ Turn [] w w' := by
  have hnot : ∀ (x : Bool) (w : World), (Op.unary .not (.bool x)).run Tryz.prog w = .ok (.bool (!x)) w := fun _ _ => rfl
  have h3 := hD.c3
  have h1 := hD.c1
  have HD := hide hD
  clear hD
  rw [hd] at h3
  have ho : s.out j = false := by unfold St.out; simp; omega
  have HO := hide ho
  have hlook := look w b m s HD.out G.n1 j (by omega)
  have hlen := G.len j
  have hz := zero93c
  have hst := run_storeCells_new (P := Tryz.prog) w 191 zcells (bcells (s.f j)) (by rw [bcells_size, hlen]; exact info93) (by rw [bcells_size, hlen]; show (bcells zeros).size = 512; rw [bcells_size, zeros_length]) (bcells_one _)
  have hsz : (bcells (s.f j)).size = 512 := by rw [bcells_size, hlen]
  have HL := hide hlen
  clear hd ho hlen hj
  go_enter Tryz.func112, Tryz.ntmps112
  go_wp2_with fail
  refine (has_any b m s j w HD.out).mono ?_
  rintro e w1 ⟨rfl, rfl⟩
  rw [HO.out]
  go_wp2_with fail
  go_ret2
  refine ⟨rfl, ?_, (Turn.refl _ _).alloc _⟩
  have hb := bytes_new w1 (s.f j) 191
  refine ⟨fun i hi => ?_, fun o => World.frozen?_alloc_at _ _ _ _ rfl, by simp⟩
  have := hb.cell0 (i := i) (by rw [HL.out]; exact hi)
  unfold fB
  rw [List.getD_eq_getElem?_getD, List.getElem?_eq_getElem (by rw [HL.out]; exact hi)]
  exact this

set_option maxRecDepth 100000 in
set_option maxHeartbeats 400000 in
theorem dread_dead (b m : Nat) (s : St) (hd : s.dead = true) (j : Int) (w : World) (hD : DiskAt w b m s) : Calls Tryz.prog 112 #[.pointer (some ⟨b, 0, none⟩), .int .i64 j] w fun e w' =>
    e = .returned (.tuple #[.slice none 0 0, .int .i64 12]) ∧ w' = w := by
  have h3 := hD.c3
  rw [hd] at h3
  clear hd hD
  go_enter Tryz.func112, Tryz.ntmps112
  go_wp2
  go_ret2
  exact ⟨rfl, rfl⟩

set_option maxRecDepth 100000 in
set_option maxHeartbeats 400000 in
theorem pread_ok (p b m sm rb N : Nat) (d l : Int) (q : Pg) (A : Apart p b m sm rb) (s : St) (G : s.Good) (hd : s.dead = false) (j : Nat) (hj : j < s.n) (w : World) (hD : DiskAt w b m s) (hP : PgAt w p b sm rb N d l q) :
    Calls Tryz.prog 78 #[.pointer (some ⟨p, 0, none⟩), .int .i64 (j : Nat)] w fun e w' =>
      e = .returned (.tuple #[.slice (some ⟨w.heap.size, 0, none⟩) 512 512, .int .i64 0]) ∧ RowAt w' w.heap.size 512 (fB s j) ∧ PgAt w' p b sm rb N d l q ∧ DiskAt w' b m s ∧ Wturn p 0 w w' ∧ (∀ o, 9 ≤ o → w'.cell? ⟨p, o, none⟩ = w.cell? ⟨p, o, none⟩) := by
  have h0 := hP.c0
  have HD := hide hD
  have HP := hide hP
  have hpl := hP.lt
  clear hD hP
  go_enter Tryz.func78, Tryz.ntmps78
  go_wp2_with fail
  refine (dread_ok b m s G hd j hj w HD.out).mono ?_
  rintro e w1 ⟨rfl, hR1, hT1⟩
  have HP1 := hide (HP.out.turn0 hT1)
  obtain ⟨x, h1⟩ := HP1.out.c1
  have hz := HP1.out.fz 1
  have HR1 := hide hR1
  have HD1 := hide (HD.out.turn hT1 (by simp) (by simp))
  clear hR1
  go_wp2_with fail
  refine (addw_any p 1 x w1 h1 hz).mono ?_
  rintro e w2 ⟨rfl, rfl⟩
  go_wp2_with fail
  go_ret2
  refine ⟨rfl, HR1.out.other (Nat.ne_of_gt hpl) _ _, HP1.out.setReads _, HD1.out.turn ((Turn.refl [p] w1).setCell (List.mem_singleton.2 rfl) _ _) (by simp; exact Ne.symm A.pb) (by simp; exact Ne.symm A.pm), ?_, ?_⟩
  · have := (Wturn.refl p 0 w1).setCell 1 (.int .i64 (IntKind.i64.wrap (x + 1))) (by omega)
    exact ⟨((hT1.mono (by simp)).trans this.turn), fun o ho => (this.out o ho).trans (hT1.cell (p := ⟨p, o, none⟩) hpl (by simp))⟩
  · intro o ho
    rw [World.cell?_setCell_other _ _ _ _ (off_ne (by omega))]
    exact hT1.cell (p := ⟨p, o, none⟩) hpl (by simp)

set_option maxRecDepth 100000 in
set_option maxHeartbeats 400000 in
theorem pread_dead (p b m sm rb N : Nat) (d l : Int) (q : Pg) (A : Apart p b m sm rb) (s : St) (hd : s.dead = true) (j : Int) (w : World) (hD : DiskAt w b m s) (hP : PgAt w p b sm rb N d l q) :
    Calls Tryz.prog 78 #[.pointer (some ⟨p, 0, none⟩), .int .i64 j] w fun e w' =>
      e = .returned (.tuple #[.slice none 0 0, .int .i64 12]) ∧ PgAt w' p b sm rb N d l { q with dead := true } ∧ DiskAt w' b m s ∧ Turn [p] w w' := by
  have h0 := hP.c0
  have h3 := hP.c3
  have f3 := hP.fz 3
  have HD := hide hD
  have HP := hide hP
  clear hD hP
  go_enter Tryz.func78, Tryz.ntmps78
  go_wp2_with fail
  refine (dread_dead b m s hd j w HD.out).mono ?_
  rintro e w1 ⟨rfl, rfl⟩
  go_wp2_with fail
  go_ret2
  exact ⟨rfl, HP.out.setDead true, HD.out.turn ((Turn.refl [p] w1).setCell (List.mem_singleton.2 rfl) _ _) (by simp; exact Ne.symm A.pb) (by simp; exact Ne.symm A.pm), (Turn.refl [p] w1).setCell (List.mem_singleton.2 rfl) _ _⟩

set_option maxRecDepth 100000 in
set_option maxHeartbeats 400000 in
theorem pwrite_any (p b m sm rb N : Nat) (d l : Int) (q : Pg) (A : Apart p b m sm rb) (s : St) (G : s.Good) (j : Int) (g : Nat) (L : List Nat) (hL : L.length = 512) (w : World) (hB : BytesAt w (some ⟨g, 0, none⟩) L) (hD : DiskAt w b m s) (hP : PgAt w p b sm rb N d l q) :
    Calls Tryz.prog 99 #[.pointer (some ⟨p, 0, none⟩), .int .i64 j, .slice (some ⟨g, 0, none⟩) 512 512] w fun e w' =>
      e = .returned (.int .i64 (s.writeErr j 512)) ∧ PgAt w' p b sm rb N d l { q with dead := if s.writeErr j 512 = 0 then q.dead else true } ∧ DiskAt w' b m (s.write j L) ∧ Turn [p, b, m] w w' ∧ (∀ o, 9 ≤ o → w'.cell? ⟨p, o, none⟩ = w.cell? ⟨p, o, none⟩) := by
  have h0 := hP.c0
  have HD := hide hD
  have HP := hide hP
  have HB := hide hB
  have hpl := hP.lt
  have hpS : p ∉ [b, m] := by simp; exact ⟨A.pb, A.pm⟩
  have hw := write_at b m s G j (some ⟨g, 0, none⟩) 512 512 L hL (by unfold maxLen; omega) w hD hB
  have HW := hide hw
  clear hD hP hB hw
  generalize hE : s.writeErr j 512 = er at *
  by_cases he : er = 0
  · subst he
    go_enter Tryz.func99, Tryz.ntmps99
    go_wp2_with fail
    refine HW.out.mono ?_
    rintro e w1 ⟨rfl, hD1, hT1⟩
    have HD1 := hide hD1
    have HP1 := hide (HP.out.turn hT1 hpS (by simp; exact ⟨A.sb, A.smm⟩) (by simp; exact ⟨A.rbb, A.rbm⟩))
    obtain ⟨x, h2⟩ := HP1.out.c2
    have hz := HP1.out.fz 2
    clear hD1
    go_wp2_with fail
    refine (addw_any p 2 x w1 h2 hz).mono ?_
    rintro e w2 ⟨rfl, rfl⟩
    go_wp2_with fail
    go_ret
    refine ⟨rfl, ?_, HD1.out.turn ((Turn.refl [p] w1).setCell (List.mem_singleton.2 rfl) _ _) (by simp; exact Ne.symm A.pb) (by simp; exact Ne.symm A.pm), (hT1.mono (by simp)).setCell (by simp) _ _, ?_⟩
    · exact HP1.out.setWrites _
    · intro o ho
      rw [World.cell?_setCell_other _ _ _ _ (off_ne (by omega))]
      exact hT1.cell (p := ⟨p, o, none⟩) hpl hpS
  · have t1 : (er != 0) = true := by rw [bne_iff_ne]; exact he
    go_enter Tryz.func99, Tryz.ntmps99
    go_wp2_with fail
    refine HW.out.mono ?_
    rintro e w1 ⟨rfl, hD1, hT1⟩
    have HD1 := hide hD1
    have HP1 := hide (HP.out.turn hT1 hpS (by simp; exact ⟨A.sb, A.smm⟩) (by simp; exact ⟨A.rbb, A.rbm⟩))
    have h3 := HP1.out.c3
    have hz := HP1.out.fz 3
    clear hD1
    go_wp2_with fail
    go_ret
    refine ⟨rfl, ?_, HD1.out.turn ((Turn.refl [p] w1).setCell (List.mem_singleton.2 rfl) _ _) (by simp; exact Ne.symm A.pb) (by simp; exact Ne.symm A.pm), (hT1.mono (by simp)).setCell (by simp) _ _, ?_⟩
    · exact HP1.out.setDead true
    · intro o ho
      rw [World.cell?_setCell_other _ _ _ _ (off_ne (by omega))]
      exact hT1.cell (p := ⟨p, o, none⟩) hpl hpS

set_option maxRecDepth 100000 in
set_option maxHeartbeats 800000 in
/-- isDead, of a pager and a disk that live. -/
theorem isDead_no (p b m sm rb N : Nat) (d l : Int) (q : Pg) (s : St) (hq : q.dead = false) (hd : s.dead = false) (w : World) (hD : DiskAt w b m s) (hP : PgAt w p b sm rb N d l q) (A : Apart p b m sm rb) :
    Calls Tryz.prog 69 #[.pointer (some ⟨p, 0, none⟩)] w fun e w' => e = .returned (.bool false) ∧ PgAt w' p b sm rb N d l q ∧ DiskAt w' b m s ∧ Turn [p] w w' := by
  have h0 := hP.c0
  have h3 := hP.c3
  have f3 := hP.fz 3
  rw [hq] at h3
  have HD := hide hD
  have HP := hide hP
  have HQ := hide hq
  have HDd := hide (fun w' (h : DiskAt w' b m s) => dead_any b m s w' h)
  rw [hd] at HDd
  clear hD hP hq hd
  go_enter Tryz.func69, Tryz.ntmps69
  go_wp2_with fail
  refine (HDd.out _ HD.out).mono ?_
  rintro e w1 ⟨rfl, rfl⟩
  go_wp2_with fail
  go_ret
  refine ⟨rfl, ?_, HD.out.turn ((Turn.refl [p] w1).setCell (List.mem_singleton.2 rfl) _ _) (by simp; exact Ne.symm A.pb) (by simp; exact Ne.symm A.pm), (Turn.refl [p] w1).setCell (List.mem_singleton.2 rfl) _ _⟩
  have h := HP.out.setDead false
  rw [show { q with dead := false } = q by have := HQ.out; cases q; simp at this; simp [this]] at h
  exact h

set_option maxRecDepth 100000 in
set_option maxHeartbeats 800000 in
/-- isDead, where the disk's power has gone. -/
theorem isDead_yes (p b m sm rb N : Nat) (d l : Int) (q : Pg) (s : St) (hq : q.dead = false) (hd : s.dead = true) (w : World) (hD : DiskAt w b m s) (hP : PgAt w p b sm rb N d l q) (A : Apart p b m sm rb) :
    Calls Tryz.prog 69 #[.pointer (some ⟨p, 0, none⟩)] w fun e w' => e = .returned (.bool true) ∧ PgAt w' p b sm rb N d l { q with dead := true } ∧ DiskAt w' b m s ∧ Turn [p] w w' := by
  have h0 := hP.c0
  have h3 := hP.c3
  have f3 := hP.fz 3
  rw [hq] at h3
  have HD := hide hD
  have HP := hide hP
  have HDd := hide (fun w' (h : DiskAt w' b m s) => dead_any b m s w' h)
  rw [hd] at HDd
  clear hD hP hq hd
  go_enter Tryz.func69, Tryz.ntmps69
  go_wp2_with fail
  refine (HDd.out _ HD.out).mono ?_
  rintro e w1 ⟨rfl, rfl⟩
  go_wp2_with fail
  go_ret
  exact ⟨rfl, HP.out.setDead true, HD.out.turn ((Turn.refl [p] w1).setCell (List.mem_singleton.2 rfl) _ _) (by simp; exact Ne.symm A.pb) (by simp; exact Ne.symm A.pm), (Turn.refl [p] w1).setCell (List.mem_singleton.2 rfl) _ _⟩
end Go.Proofs.YthehkckdecckhaaGreatDoor

namespace Go.Proofs.YthehkckdecckhaaGreatDoor
open Go.RowKit Go.Maps

set_option maxRecDepth 100000 in
theorem word_back (T : Nat → Nat) (hT : ∀ i, T i < 18446744073709551616) (b j : Nat) (hj : j < 64) : wordAt (bytesOf 512 (mapB T b)) j = T (64 * b + j) := by
  have e : ((bytesOf 512 (mapB T b)).drop (8 * j)).take 8 = bytesOf 8 fun i => putN (fun _ => 0) 0 8 (T (64 * b + j)) (0 + i) := by
    apply List.ext_getElem
    · simp [bytesOf]; omega
    · intro i h1 h2
      have hi : i < 8 := by simpa [bytesOf] using h2
      simp only [bytesOf, List.getElem_take, List.getElem_drop, List.getElem_map, List.getElem_range]
      unfold mapB putN
      rw [if_pos (by omega), show 64 * b + (8 * j + i) / 8 = 64 * b + j by omega, show (8 * j + i) % 8 = i by omega, show 0 + i - 0 = i by omega]
  unfold wordAt
  rw [e, leNum_put]
  exact Nat.mod_eq_of_lt (hT _)

set_option maxRecDepth 100000 in
theorem mapB_lt (T : Nat → Nat) (i : Nat) : ∀ x, mapB T i x < 256 := fun x => Nat.mod_lt _ (by decide)

set_option maxRecDepth 100000 in
theorem pageB_lt (l : List Nat) (hb : ∀ x ∈ l, x < 256) : ∀ i, pageB l i < 256 := by
  intro i
  unfold pageB
  split
  · exact Nat.mod_lt _ (by decide)
  · split
    · rename_i h
      rw [List.getD_eq_getElem?_getD, List.getElem?_eq_getElem (by omega)]
      exact hb _ (List.getElem_mem _)
    · omega

set_option maxRecDepth 100000 in
theorem page_len (l : List Nat) (hl : l.length ≤ 496) : pageLen (pageB l) = l.length := by
  have := leNum_put (fun _ => 0) 0 2 l.length
  have e : (bytesOf 2 fun i => putN (fun _ => 0) 0 2 l.length (0 + i)) = bytesOf 2 (pageB l) := bytesOf_congr fun i hi => by
    unfold putN pageB
    rw [if_pos (by omega), if_pos hi, show 0 + i - 0 = i by omega]
  rw [e] at this
  unfold pageLen
  rw [this, Nat.mod_eq_of_lt (show l.length < 2 ^ (8 * 2) by omega), Nat.min_eq_left hl]

set_option maxRecDepth 100000 in
theorem page_bytes (l : List Nat) : (bytesOf l.length fun i => pageB l (16 + i)) = l := by
  have e : (bytesOf l.length fun i => pageB l (16 + i)) = bytesOf l.length fun i => l.getD i 0 := bytesOf_congr fun i hi => by
    unfold pageB
    rw [if_neg (by omega), if_pos (by omega), Nat.add_sub_cancel_left]
  rw [e]
  exact bytesOf_list l

/-- What the disk of a pager says: c Commits were done; the root; the pages. -/
structure Laid (s : St) (c : Nat) (root : List Nat) (K : Nat → Bool) : Prop where
  good : s.Good
  n64 : 64 ≤ s.n
  n16 : s.n ≤ 16384
  byte : ∀ i x, x ∈ s.f i → x < 256
  num : ∀ i, i < 2 → hdNum (fB s i) < 9223372036854775808
  ck : c ≤ s.k
  zero : c = 0 → root = [] ∧ hdC (fB s 0) = 0 ∧ hdC (fB s 1) = 0
  some : 0 < c → hdC (fB s (c % 2)) = c ∧ hdR (fB s (c % 2)) = root ∧ hdC (fB s ((c + 1) % 2)) < c
  map : ∃ T, (∀ i, T i < 18446744073709551616) ∧ (∀ j, j < mbs s.n → s.f (2 + c % 2 * mbs s.n + j) = bytesOf 512 (mapB T j)) ∧ ∀ n, fp s.n ≤ n → n < s.n → bit T n = K n
  kr : ∀ n, K n = true → fp s.n ≤ n ∧ n < s.n
  rl : root.length ≤ 64
  rbytes : ∀ x ∈ root, x < 256

set_option maxRecDepth 100000 in
theorem fB_lt {s : St} (h : ∀ i x, x ∈ s.f i → x < 256) (n : Nat) : ∀ i, fB s n i < 256 := by
  intro i
  unfold fB
  rw [List.getD_eq_getElem?_getD]
  by_cases hi : i < (s.f n).length
  · rw [List.getElem?_eq_getElem hi]; exact h n _ (List.getElem_mem hi)
  · rw [List.getElem?_eq_none (by omega)]; decide

set_option maxRecDepth 100000 in
theorem fB_new (n i : Nat) : fB (St.new n) i = fun _ => 0 := by
  funext j
  show zeros.getD j 0 = 0
  unfold zeros
  rw [List.getD_eq_getElem?_getD, List.getElem?_replicate]
  split <;> rfl

set_option maxRecDepth 100000 in
theorem Laid.new {n : Nat} (h1 : 64 ≤ n) (h2 : n ≤ 16384) : Laid (St.new n) 0 [] (fun _ => false) := by
  refine ⟨St.Good.new (by omega), h1, h2, ?_, ?_, Nat.zero_le _, ?_, fun h => absurd h (by omega), ⟨fun _ => 0, fun _ => by show (0 : Nat) < 18446744073709551616; decide, fun j _ => ?_, fun n _ _ => by unfold bit; simp⟩, fun n h => by simp at h, by simp, by simp⟩
  · intro i x hx
    have : x = 0 := List.eq_of_mem_replicate (show x ∈ List.replicate 512 0 from hx)
    omega
  · intro i _; rw [fB_new, head_zero.1]; decide
  · intro _; rw [fB_new, fB_new]; exact ⟨rfl, head_zero.2, head_zero.2⟩
  · show zeros = _
    apply List.ext_getElem
    · rw [zeros_length, bytesOf_length]
    · intro i h1 h2
      have e : zeros[i]'h1 = 0 := by unfold zeros; exact List.getElem_replicate _
      rw [e]
      simp [bytesOf, mapB]

set_option maxRecDepth 100000 in
theorem eq_nil (w : World) : Sem.run Tryz.prog (binOp .eql 52 (.slice none 0 0) (.slice none 0 0)) w = .ok (.bool true) w := by kernel_rfl
set_option maxRecDepth 100000 in
theorem eq_some (x : Addr) (n c : Nat) (w : World) : Sem.run Tryz.prog (binOp .eql 52 (.slice (some x) n c) (.slice none 0 0)) w = .ok (.bool false) w := by kernel_rfl

set_option maxRecDepth 100000 in
set_option maxHeartbeats 800000 in
theorem clone_any (a : Option Addr) (cap : Nat) (l : List Nat) (n : Nat) (hn : l.length = n) (hl : n ≤ 1000) (hnil : a = none → cap = 0) (w : World) (hB : BytesAt w a l) :
    Calls Tryz.prog 73 #[.slice a n cap] w fun e w' => ∃ a' c', e = .returned (.slice a' n c') ∧ BytesAt w' a' l ∧ (a' = none → c' = 0) ∧ (∀ x, a' = some x → w.heap.size ≤ x.block) ∧ Turn [] w w' := by
  have HN := hide hn
  have he1 := eq_nil
  have he2 := eq_some
  cases a with
  | none =>
    obtain rfl := hnil rfl
    have hl0 : l = [] := by
      rcases hB with h | ⟨_, _, e, _⟩
      · exact h
      · cases e
    subst hl0
    obtain rfl : 0 = n := hn
    clear hB
    go_enter Tryz.func73, Tryz.ntmps73
    go_wp2
    go_ret
    exact ⟨none, 0, rfl, .inl rfl, fun _ => rfl, by simp, Turn.refl _ _⟩
  | some x =>
    have hown : (w.alloc (.cells #[] 5)).ownsRow w.heap.size 5 1 (.slice (some ⟨w.heap.size, 0, none⟩) 0 0) 0 (([] : List Nat).map byteCell) := World.ownsRow_made w #[] 0 (Nat.le_refl _) (Nat.zero_le _) rfl
    have HOWN := hide hown
    have HBA := hide (hB.turn ((Turn.refl [] w).alloc (.cells #[] 5)) (by simp))
    clear hown hB hn hnil
    go_enter Tryz.func73, Tryz.ntmps73
    go_wp2_with (at_builtin; refine append_bytes rfl _ _ rfl w.heap.size (.slice (some ⟨w.heap.size, 0, none⟩) 0 0) 0 [] rfl HOWN.out (some x) n cap l rfl HN.out (by simp) HBA.out (by omega) (by simp) ?_; intro v w3 hown3 hgrow3 hnil3)
    have hvn : v ≠ .slice none 0 0 := by
      intro e
      have := hnil3
      simp [e] at this
    obtain ⟨g, cg, hv, _, hg, hgl, hbg, _⟩ := own_some (l := l) (by simpa using hown3) hvn
    have hT3 : Turn [] w w3 := ((Turn.refl [] w).alloc _).grown hgrow3 (by intro k hk; right; simp [Value.ownBlock] at hk; omega)
    rw [HN.out] at hv
    rw [hv]
    have HB3 := hide hbg
    clear hv hown3 hgrow3 hbg HOWN HBA hnil3 hvn
    go_wp2_with fail
    go_ret
    exact ⟨some ⟨g, 0, none⟩, cg, rfl, HB3.out, by simp, fun x hx => by obtain rfl := Option.some.inj hx; exact hg, hT3⟩

set_option maxRecDepth 100000 in
set_option maxHeartbeats 800000 in
theorem root_any (p b sm rb N : Nat) (d l : Int) (q : Pg) (hr : q.root.length ≤ 64) (w : World) (hP : PgAt w p b sm rb N d l q) :
    Calls Tryz.prog 82 #[.pointer (some ⟨p, 0, none⟩)] w fun e w' => ∃ a' c', e = .returned (.slice a' q.root.length c') ∧ BytesAt w' a' q.root ∧ (a' = none → c' = 0) ∧ Turn [] w w' := by
  obtain ⟨ra, rc, h5, hB, hn, _⟩ := hP.c5
  have HC := hide (clone_any ra rc q.root q.root.length rfl (by omega) hn w hB)
  clear hB hP
  generalize q.root.length = n at *
  go_enter Tryz.func82, Tryz.ntmps82
  go_wp2_with fail
  refine HC.out.mono ?_
  rintro e w1 ⟨a', c', rfl, hB1, hn1, _, hT1⟩
  have HB1 := hide hB1
  clear hB1
  go_wp2_with fail
  go_ret
  exact ⟨a', c', rfl, HB1.out, hn1, hT1⟩

end Go.Proofs.YthehkckdecckhaaGreatDoor

namespace Go.Proofs.YthehkckdecckhaaGreatDoor
open Go.RowKit Go.Maps

set_option maxRecDepth 100000 in
theorem bit_addW (T : Nat → Nat) (b : Nat) (l : List Nat) (k : Nat) : bit (addW T b l 64) k = if 4096 * b ≤ k ∧ k < 4096 * b + 4096 then (bit T k || (wordAt l (k / 64 - 64 * b)).testBit (k % 64)) else bit T k := by
  unfold bit addW
  by_cases h : 4096 * b ≤ k ∧ k < 4096 * b + 4096
  · rw [if_pos (by omega), if_pos h, Nat.testBit_or]
  · rw [if_neg (by omega), if_neg h]

/-- Where a slot's map begins. -/
theorem slot_map (c : Nat) {N : Nat} (h1 : 64 ≤ N) (h2 : N ≤ 16384) : 2 + c % 2 * mbs N + mbs N ≤ fp N := by
  obtain ⟨_, _, _, _, _, e, _⟩ := fp_bd h1 h2
  have : c % 2 = 0 ∨ c % 2 = 1 := by omega
  rcases this with h | h
  · rw [h]; omega
  · rw [h]; omega

/-- The pages that the first blocks of the map tell of. -/
def upK (K : Nat → Bool) (j n : Nat) : Bool := decide (n < 4096 * j) && K n

set_option maxRecDepth 100000 in
set_option maxHeartbeats 4000000 in
theorem rfm_any (p b m sm rb : Nat) (d l : Int) (q : Pg) (A : Apart p b m sm rb) (s : St) (L : Laid s q.c q.root q.K) (hd : s.dead = false) (hrd : q.rd = false) (hsi : ∀ n, q.si n = 0) (w : World) (hD : DiskAt w b m s) (hP : PgAt w p b sm rb s.n d l q) :
    Calls Tryz.prog 105 #[.pointer (some ⟨p, 0, none⟩)] w fun e w' => e = .returned (.tuple #[]) ∧ PgAt w' p b sm rb s.n d l { q with rd := true } ∧ DiskAt w' b m s ∧ Turn [p] w w' := by
  have h0 := hP.c0
  have h4 := hP.c4
  have hn1 := L.n64
  have hn2 := L.n16
  have hcb : q.c < 1000000000 := by have := L.ck; have := L.good.k1; omega
  obtain ⟨T, hW, hbits⟩ := hP.wd
  have HW := hide hW
  have HD := hide hD
  have HP := hide hP
  have HRd := hide hrd
  have HBits := hide hbits
  have HL := hide L
  have HF := hide (fun w' => firstPage_any s.n (by omega) w')
  have HS := hide (fun w' => slotOf_any q.c hcb w')
  have HM := hide (fun w' => mapStart_any (q.c % 2) s.n (by omega) (by omega) w')
  have HMb := hide (fun w' => mapBlocks_any s.n (by omega) w')
  rw [show 2 + 2 * mbs s.n = fp s.n from rfl] at HF
  obtain ⟨f4, f10, fN, m1, m4, fe, fc⟩ := fp_bd hn1 hn2
  have hsl := slot_map q.c hn1 hn2
  obtain ⟨fr, hfr⟩ : ∃ fr, fr = 2 + q.c % 2 * mbs s.n := ⟨_, rfl⟩
  rw [← hfr] at HM hsl
  have HFr := hide hfr
  have hdd := hide hd
  have hKe : upK q.K (mbs s.n) = q.K := by
    funext n
    unfold upK
    by_cases h : n < 4096 * mbs s.n
    · rw [decide_eq_true h]; rfl
    · rw [decide_eq_false h]
      cases hk : q.K n with
      | false => rfl
      | true => have := (L.kr n hk).2; omega
  have HKe := hide hKe
  clear hW hD hP hrd hbits L hd hfr hKe
  generalize hc : q.c = c at *
  have HC := hide hc
  go_enter Tryz.func105, Tryz.ntmps105
  go_wp2_with fail
  refine (blocks_any b m s w HD.out).mono ?_
  rintro e w1 ⟨rfl, rfl⟩
  go_wp2_with fail
  go_region_with (first
    | (go_at_call 103; refine (HF.out _).mono ?_; rintro e w2 ⟨rfl, rfl⟩)
    | (go_at_call 130; refine (takeAll_any p 9 (fp s.n) s.n T (by omega) (by omega) _ HW.out.drew).mono ?_; rintro e w2 ⟨rfl, hW2, hT2⟩))
  obtain ⟨T1, hW2, hb1⟩ := hW2
  have hT02 : Turn [p] w1 w2 := (Turn.refl [p] w1).drew.trans hT2.turn
  have hsi' : ∀ n, (q.si n == 1) = false := fun n => by rw [hsi n]; rfl
  have HP2 := hide (HP.out.drew.setWords (q' := { q with rd := true, K := upK q.K 0 }) hT2.turn (fun o ho => hT2.out o (by omega)) hW2 (fun n hn => by
    rw [hb1 n hn, HBits.out n hn, HRd.out]
    unfold Pg.tk upK
    simp [hsi n]) rfl rfl rfl rfl rfl)
  have HD2 := hide (HD.out.drew.turn hT2.turn (by simp; exact Ne.symm A.pb) (by simp; exact Ne.symm A.pm))
  have h42 := HP2.out.c4
  clear hW2 hb1 hT2
  have h42' : w2.cell? ⟨p, 4, none⟩ = some (.int .i64 (c : Nat)) := by rw [← hc]; exact h42
  clear h42 HW HP HD h4 h0
  go_wp2_with fail
  refine (load_any p 4 _ w2 h42').mono ?_
  rintro e w3 ⟨rfl, rfl⟩
  go_wp2_with fail
  refine (HS.out _).mono ?_
  rintro e w3 ⟨rfl, rfl⟩
  go_wp2_with fail
  refine (HM.out _).mono ?_
  rintro e w3 ⟨rfl, rfl⟩
  go_wp2_with fail
  refine (HMb.out _).mono ?_
  rintro e w3 ⟨rfl, rfl⟩
  go_wp2_with fail
  go_loopw [28] (fun i wr => ∃ j : Nat, j ≤ mbs s.n ∧ i = .int .i64 (j : Nat) ∧ PgAt wr p b sm rb s.n d l { q with rd := true, K := upK q.K j } ∧ DiskAt wr b m s ∧ Turn [p] w1 wr) (fun i _ => mbs s.n - (intOf i).toNat)
  case atStart => exact ⟨0, Nat.zero_le _, rfl, HP2.out, HD2.out, hT02⟩
  case round =>
    clear HP2 HD2 hT02 h42'
    obtain ⟨j, hj, rfl, hP3, hD3, hT3⟩ := hrel
    have HP3 := hide hP3
    have HD3 := hide hD3
    have hpl := hP3.lt
    clear hP3 hD3
    by_cases hlt : j < mbs s.n
    · have hn' : fr + j < s.n := by omega
      go_wp2_with fail
      have HRd5 := hide (pread_ok p b m sm rb s.n d l _ A s HL.out.good hdd.out (fr + j) hn' wr HD3.out HP3.out)
      rw [show ((fr + j : Nat) : Int) = (fr : Int) + (j : Int) by omega] at HRd5
      refine HRd5.out.mono ?_
      rintro e w5 ⟨rfl, hR5, hP5, hD5, hT5, _⟩
      have HR5 := hide hR5
      have HP5 := hide hP5
      have HD5 := hide hD5
      obtain ⟨T2, hW5, hb5⟩ := hP5.wd
      have HW5 := hide hW5
      have HB5 := hide hb5
      clear hR5 hP5 hD5 hW5 hb5 HRd5
      go_wp2_with fail
      refine (addBlock_any p 9 j wr.heap.size (by omega) T2 (bytesOf 512 (fB s (fr + j))) (bytesOf_length _ _) (bytesOf_lt (fB_lt HL.out.byte _)) (by omega) w5 HW5.out HR5.out.bytes0).mono ?_
      rintro e w6 ⟨rfl, hW6, hT6⟩
      obtain ⟨Td, hTd, hfd, hbd⟩ := HL.out.map
      have HP6 := hide (HP5.out.setWords (q' := { q with rd := true, K := upK q.K (j + 1) }) hT6.turn (fun o ho => hT6.out o (by omega)) hW6 (fun n hn => by
        rw [bit_addW, HB5.out n hn, fB_list s HL.out.good, HFr.out, hfd j hlt]
        unfold Pg.tk upK
        simp only [Bool.true_and, hsi']
        by_cases h1 : n < fp s.n
        · simp [h1]
        · by_cases h2 : s.n ≤ n
          · simp [h2]
          · by_cases h3 : 4096 * j ≤ n ∧ n < 4096 * j + 4096
            · rw [if_pos h3, word_back Td hTd _ _ (by omega), show 64 * j + (n / 64 - 64 * j) = n / 64 by omega]
              have hx := hbd n (by omega) (by omega)
              unfold bit at hx
              rw [hx, decide_eq_true (show n < 4096 * (j + 1) by omega), decide_eq_false (show ¬ n < 4096 * j by omega)]
              simp [h1, h2]
            · rw [if_neg h3]
              by_cases h5 : n < 4096 * j
              · rw [decide_eq_true h5, decide_eq_true (show n < 4096 * (j + 1) by omega)]
              · rw [decide_eq_false h5, decide_eq_false (show ¬ n < 4096 * (j + 1) by omega)]) rfl rfl rfl rfl rfl)
      have HD6 := hide (HD5.out.turn hT6.turn (by simp; exact Ne.symm A.pb) (by simp; exact Ne.symm A.pm))
      clear hW6
      go_wp2_with fail
      go_roundw
      case rel => exact ⟨j + 1, by omega, by go_num, HP6.out, HD6.out, (hT3.trans hT5.turn).trans hT6.turn⟩
      case measure => simp [intOf]; omega
    · obtain rfl : j = mbs s.n := by omega
      rw [HKe.out] at HP3
      go_wp2_with fail
      go_end0
      subst hc
      exact ⟨rfl, HP3.out, HD3.out, hT3⟩

set_option maxRecDepth 100000 in
set_option maxHeartbeats 4000000 in
theorem pslow_any (p b m sm rb : Nat) (q : Pg) (A : Apart p b m sm rb) (s : St) (L : Laid s q.c q.root q.K) (hd : s.dead = false) (hrd : q.rd = false) (hsi : ∀ n, q.si n = 0) (w : World) (hD : DiskAt w b m s) (hP : PgAt w p b sm rb s.n 0 0 q) :
    Calls Tryz.prog 124 #[.pointer (some ⟨p, 6, none⟩), .func (.func 105) #[.pointer (some ⟨p, 0, none⟩)] #[]] w fun e w' => e = .returned (.tuple #[]) ∧ PgAt w' p b sm rb s.n 1 0 { q with rd := true } ∧ DiskAt w' b m s ∧ Turn [p] w w' := by
  have h0 := hP.c6
  have h1 := hP.c7
  have f0 := hP.fz 6
  have f1 := hP.fz 7
  have hP1 := hP.setLock 1
  have hT1 := (Turn.refl [p] w).setCell (List.mem_singleton.2 rfl) 7 (.int .i32 1)
  have hD1 := hD.turn hT1 (by simp; exact Ne.symm A.pb) (by simp; exact Ne.symm A.pm)
  have HC := hide (rfm_any p b m sm rb 0 1 q A s L hd hrd hsi _ hD1 hP1)
  have hl := run_call_load (P := Tryz.prog) Tryz.func139 (by kernel_rfl) (by kernel_rfl) (by kernel_rfl) .u32 (by kernel_rfl) hP1.c6
  have hnot : ∀ (x : Bool) (w : World), (Op.unary .not (.bool x)).run Tryz.prog w = .ok (.bool (!x)) w := fun _ _ => rfl
  have HT1 := hide hT1
  clear hP hP1 hD hD1 hT1 L hd hrd hsi
  go_enter_defers Tryz.func124, Tryz.ntmps124
  go_wp2_with (first | (go_at_call 140; refine (Sm.lock_free ⟨p, 7, none⟩ _ (by go_simp) (by go_simp)).mono ?_; rintro e w' ⟨rfl, rfl⟩) | (go_at_call 105; refine HC.out.mono ?_; rintro e w2 ⟨rfl, hP2, hD2, hT2⟩) | (go_at_call 123; go_in))
  refine leaves_cons (f := 142) (args := #[.pointer (some ⟨p, 6, none⟩), .bool true]) (by simp) (by simp [go_sem]) ?_
  refine (Sm.store_deferred ⟨p, 6, none⟩ (.int .u32 0) .returning _ hP2.c6 (hP2.fz 6)).mono ?_
  rintro e u' w'' ⟨rfl, rfl, rfl⟩
  have hP3 := (hP2.setDone 1).drew
  have hT3 : Turn [p] w ((w2.setCell ⟨p, 6, none⟩ (.int .u32 1)).drew) := ((HT1.out.trans hT2).setCell (List.mem_singleton.2 rfl) _ _).drew
  have hD3 := (hD2.turn ((Turn.refl [p] w2).setCell (List.mem_singleton.2 rfl) 6 (.int .u32 1)) (by simp; exact Ne.symm A.pb) (by simp; exact Ne.symm A.pm)).drew
  refine leaves_cons (f := 141) (args := #[.pointer (some ⟨p, 7, none⟩)]) (by simp [settle]) (by simp [go_sem]) ?_
  refine (Sm.unlock_deferred ⟨p, 7, none⟩ _ _ hP3.c7 (hP3.fz 7)).mono ?_
  rintro e u' w'' ⟨rfl, rfl, rfl⟩
  have hP4 := hP3.setLock 0
  have hT4 : Turn [p] w _ := hT3.setCell (List.mem_singleton.2 rfl) 7 (.int .i32 0)
  have hD4 := hD3.turn ((Turn.refl [p] _).setCell (List.mem_singleton.2 rfl) 7 (.int .i32 0)) (by simp; exact Ne.symm A.pb) (by simp; exact Ne.symm A.pm)
  simp [Leaves, settle, results, Tryz.results124]
  exact ⟨hP4, hD4, hT4⟩

set_option maxRecDepth 100000 in
set_option maxHeartbeats 1600000 in
theorem pdo_first (p b m sm rb : Nat) (q : Pg) (A : Apart p b m sm rb) (s : St) (L : Laid s q.c q.root q.K) (hd : s.dead = false) (hrd : q.rd = false) (hsi : ∀ n, q.si n = 0) (w : World) (hD : DiskAt w b m s) (hP : PgAt w p b sm rb s.n 0 0 q) :
    Calls Tryz.prog 92 #[.pointer (some ⟨p, 6, none⟩), .func (.func 105) #[.pointer (some ⟨p, 0, none⟩)] #[]] w fun e w' => e = .returned (.tuple #[]) ∧ PgAt w' p b sm rb s.n 1 0 { q with rd := true } ∧ DiskAt w' b m s ∧ Turn [p] w w' := by
  have HC := hide (pslow_any p b m sm rb q A s L hd hrd hsi w hD hP)
  have hl := run_call_load (P := Tryz.prog) Tryz.func139 (by kernel_rfl) (by kernel_rfl) (by kernel_rfl) .u32 (by kernel_rfl) hP.c6
  have hnot : ∀ (x : Bool) (w : World), (Op.unary .not (.bool x)).run Tryz.prog w = .ok (.bool (!x)) w := fun _ _ => rfl
  clear hP hD L hd hrd hsi
  go_enter Tryz.func92, Tryz.ntmps92
  go_wp2_with (first | (go_at_call 124; refine HC.out.mono ?_; rintro e w' ⟨rfl, hP2, hD2, hT2⟩; have HP2 := hide hP2; have HD2 := hide hD2; clear hP2 hD2) | (go_at_call 123; go_in))
  go_end0
  exact ⟨rfl, HP2.out, HD2.out, hT2⟩

set_option maxRecDepth 100000 in
set_option maxHeartbeats 1600000 in
theorem pdo_done (a : Addr) (fv : Value) (w : World) (h0 : w.cell? a = some (.int .u32 1)) :
    Calls Tryz.prog 92 #[.pointer (some a), fv] w fun e w' => e = .returned (.tuple #[]) ∧ w' = w := by
  have hl := run_call_load (P := Tryz.prog) Tryz.func139 (by kernel_rfl) (by kernel_rfl) (by kernel_rfl) .u32 (by kernel_rfl) h0
  have hnot : ∀ (x : Bool) (w : World), (Op.unary .not (.bool x)).run Tryz.prog w = .ok (.bool (!x)) w := fun _ _ => rfl
  go_enter Tryz.func92, Tryz.ntmps92
  go_wp2
  go_end0
  exact ⟨rfl, rfl⟩

/-- The once's word. -/
def Pg.word (q : Pg) : Int := if q.rd = true then 1 else 0

/-- A pager and its disk, in memory, in good order. -/
structure PAt (w : World) (p b m sm rb : Nat) (s : St) (q : Pg) : Prop where
  disk : DiskAt w b m s
  pg : PgAt w p b sm rb s.n q.word 0 q
  laid : Laid s q.c q.root q.K
  apart : Apart p b m sm rb
  s1 : ∀ n, q.si n = 1 → q.K n = false ∧ fp s.n ≤ n ∧ n < s.n
  s2 : ∀ n, q.si n = 2 → q.K n = true
  s3 : ∀ n, q.si n ≤ 2
  s0 : q.rd = false → ∀ n, q.si n = 0
  tab : Tab w
  pos : 1 < p ∧ 1 < b ∧ 1 < m ∧ 1 < sm

set_option maxRecDepth 100000 in
set_option maxHeartbeats 1600000 in
/-- freeMap: the map is read, if it was not yet. -/
theorem freeMap_any (p b m sm rb : Nat) (s : St) (q : Pg) (hd : s.dead = false) (w : World) (hA : PAt w p b m sm rb s q) :
    Calls Tryz.prog 72 #[.pointer (some ⟨p, 0, none⟩)] w fun e w' => e = .returned (.pointer (some ⟨p, 9, none⟩)) ∧ PAt w' p b m sm rb s { q with rd := true } ∧ Turn [p] w w' := by
  have hmf : ∀ (fn : Fn) (first cap : Array Value) (w : World), (Instr.makeFunc fn first cap).run Tryz.prog w = .ok (.func fn first cap) w := fun _ _ _ _ => rfl
  have hc0 := hA.pg.c0
  have htab := fun w' (hT : Turn [p] w w') (i : Nat) (hi : i < 64) => (hT.cell (p := ⟨1, i, none⟩) (lt_of_cell (hA.tab 0 (by omega))) (by have := hA.pos.1; simp; omega)).trans (hA.tab i hi)
  have HTab := hide htab
  have HA := hide hA
  clear htab
  cases hrd : q.rd with
  | false =>
    have hw : q.word = 0 := by unfold Pg.word; rw [hrd]; rfl
    have hP := hA.pg
    rw [hw] at hP
    have HC := hide (pdo_first p b m sm rb q hA.apart s hA.laid hd hrd (hA.s0 hrd) w hA.disk hP)
    clear hP hA hw hrd
    go_enter Tryz.func72, Tryz.ntmps72
    go_wp2_with fail
    refine HC.out.mono ?_
    rintro e w1 ⟨rfl, hP1, hD1, hT1⟩
    have HP1 := hide hP1
    have HD1 := hide hD1
    clear hP1 hD1
    go_wp2_with fail
    go_ret
    exact ⟨rfl, ⟨HD1.out, HP1.out, HA.out.laid, HA.out.apart, HA.out.s1, HA.out.s2, HA.out.s3, fun h => absurd h (by simp), HTab.out w1 hT1, HA.out.pos⟩, hT1⟩
  | true =>
    have hw : q.word = 1 := by unfold Pg.word; rw [hrd]; rfl
    have h6 := hA.pg.c6
    rw [hw] at h6
    have HC := hide (pdo_done ⟨p, 6, none⟩ (.func (.func 105) #[.pointer (some ⟨p, 0, none⟩)] #[]) w h6)
    have HE : Hid ({ q with rd := true } = q) := by show _ = _; cases q; simp at hrd; simp [hrd]
    clear hA hw hrd h6
    go_enter Tryz.func72, Tryz.ntmps72
    go_wp2_with fail
    refine HC.out.mono ?_
    rintro e w1 ⟨rfl, rfl⟩
    go_wp2_with fail
    go_ret
    refine ⟨rfl, ?_, Turn.refl _ _⟩
    rw [HE.out]
    exact HA.out
end Go.Proofs.YthehkckdecckhaaGreatDoor

namespace Go.Proofs.YthehkckdecckhaaGreatDoor
open Go.RowKit Go.Maps

set_option maxRecDepth 100000 in
theorem freeCount_congr {s t : Nat → Bool} {n : Nat} (h : ∀ k, k < n → s k = t k) : freeCount s n = freeCount t n := by
  unfold freeCount
  apply List.countP_congr
  intro k hk
  rw [h k (List.mem_range.1 hk)]

set_option maxRecDepth 100000 in
theorem Tab.turn {S : List Nat} {w w' : World} (h : Tab w) (hT : Turn S w w') (h0 : 1 ∉ S) : Tab w' := fun i hi => (hT.cell (p := ⟨1, i, none⟩) (lt_of_cell (h 0 (by omega))) h0).trans (h i hi)

set_option maxRecDepth 100000 in
theorem PAt.turn {S : List Nat} {w w' : World} {p b m sm rb : Nat} {s : St} {q : Pg} (h : PAt w p b m sm rb s q) (hT : Turn S w w') (h0 : 1 ∉ S) (hp : p ∉ S) (hb : b ∉ S) (hm : m ∉ S) (hs : sm ∉ S) (hr : rb ∉ S) : PAt w' p b m sm rb s q :=
  ⟨h.disk.turn hT hb hm, h.pg.turn hT hp hs hr, h.laid, h.apart, h.s1, h.s2, h.s3, h.s0, h.tab.turn hT h0, h.pos⟩
set_option maxRecDepth 100000 in
theorem PAt.turn0 {w w' : World} {p b m sm rb : Nat} {s : St} {q : Pg} (h : PAt w p b m sm rb s q) (hT : Turn [] w w') : PAt w' p b m sm rb s q := h.turn hT (by simp) (by simp) (by simp) (by simp) (by simp) (by simp)

/-- How many can be allocated now. -/
def Pg.left (q : Pg) (N : Nat) : Nat := freeCount (q.tk N) 16384

set_option maxRecDepth 100000 in
set_option maxHeartbeats 800000 in
theorem left_any (p b m sm rb : Nat) (s : St) (q : Pg) (hd : s.dead = false) (w : World) (hA : PAt w p b m sm rb s q) :
    Calls Tryz.prog 53 #[.pointer (some ⟨p, 0, none⟩)] w fun e w' => e = .returned (.int .i64 (q.left s.n : Nat)) ∧ PAt w' p b m sm rb s { q with rd := true } ∧ Turn [p] w w' := by
  have HF := hide (freeMap_any p b m sm rb s q hd w hA)
  clear hA hd
  go_enter Tryz.func53, Tryz.ntmps53
  go_wp2_with fail
  refine HF.out.mono ?_
  rintro e w1 ⟨rfl, hA1, hT1⟩
  obtain ⟨T, hW, hb⟩ := hA1.pg.wd
  have HA1 := hide hA1
  have HE : Hid (freeCount (bit T) 16384 = q.left s.n) := freeCount_congr fun k hk => by rw [hb k hk]; rfl
  have HC := hide (countFree_any p 9 T w1 hW)
  rw [HE.out] at HC
  clear hA1 hW hb HE
  go_wp2_with fail
  refine HC.out.mono ?_
  rintro e w2 ⟨rfl, rfl⟩
  go_wp2_with fail
  go_ret
  exact ⟨rfl, HA1.out, hT1⟩

/-- There is such a page. -/
def Pg.there (q : Pg) (n : Nat) : Bool := (q.K n || q.si n == 1) && !(q.si n == 2)
def Pg.thereI (q : Pg) (N : Nat) (i : Int) : Bool := decide (((fp N : Nat) : Int) ≤ i) && decide (i < N) && q.there i.toNat

set_option maxRecDepth 100000 in
theorem zero3 (w : World) : Sem.run Tryz.prog (zeroValue 3) w = .ok (.int .i64 0) w := by kernel_rfl

set_option maxRecDepth 100000 in
/-- What 'since' says of a page. -/
theorem since_look {w : World} {p b sm rb N : Nat} {d l : Int} {q : Pg} (h : PgAt w p b sm rb N d l q) (n : Nat) (hn : n ≤ 16384) : (Instr.lookup 135 (.map (some sm)) (.int .i64 (n : Nat)) false).run Tryz.prog w = .ok (.int .i64 (q.si n : Nat)) w := by
  obtain ⟨k, D, _, hM, hS⟩ := h.since
  obtain ⟨c, hrun, hat, _⟩ := hM.lookup_int law3 Tryz.underlying135 Tryz.underlying3 (zero3 w) (key3 (i := n) (by omega))
  rw [hS.at_ n] at hat
  have : (q.si n : Int) = c := by
    have := DataW.lit.inj hat
    exact (Lit.int.inj this).2
  rw [hrun, this]

set_option maxRecDepth 100000 in
set_option maxHeartbeats 1600000 in
theorem isThere_any (p b m sm rb : Nat) (s : St) (q : Pg) (hd : s.dead = false) (i : Int) (w : World) (hA : PAt w p b m sm rb s q) :
    Calls Tryz.prog 70 #[.pointer (some ⟨p, 0, none⟩), .int .i64 i] w fun e w' => e = .returned (.bool (q.thereI s.n i)) ∧ (∃ r, (q.thereI s.n i = true → r = true) ∧ PAt w' p b m sm rb s { q with rd := r }) ∧ Turn [p] w w' := by
  have h0 := hA.pg.c0
  have hn1 := hA.laid.n64
  have hn2 := hA.laid.n16
  have HFp := hide (fun w' => firstPage_any s.n (by omega) w')
  rw [show 2 + 2 * mbs s.n = fp s.n from rfl] at HFp
  obtain ⟨f4, f10, fN, _, _, _, _⟩ := fp_bd hn1 hn2
  have HF := hide (freeMap_any p b m sm rb s q hd w hA)
  have HA := hide hA
  clear hA hd
  by_cases h1 : ((fp s.n : Nat) : Int) ≤ i
  · by_cases h2 : i < s.n
    · obtain ⟨n, rfl⟩ := Int.eq_ofNat_of_zero_le (show 0 ≤ i by omega)
      have HE : Hid (q.thereI s.n (n : Nat) = q.there n) := by
        show _ = _
        unfold Pg.thereI
        rw [decide_eq_true h1, decide_eq_true h2]
        rfl
      have t1 : decide ((n : Int) < ((fp s.n : Nat) : Int)) = false := by simp; omega
      have t2 : decide ((s.n : Int) ≤ (n : Int)) = false := by simp; omega
      go_enter Tryz.func70, Tryz.ntmps70
      go_wp2_with fail
      refine (blocks_any b m s w HA.out.disk).mono ?_
      rintro e w1 ⟨rfl, rfl⟩
      go_wp2_with fail
      refine (HFp.out _).mono ?_
      rintro e w2 ⟨rfl, rfl⟩
      go_wp2_with fail
      refine HF.out.mono ?_
      rintro e w3 ⟨rfl, hA3, hT3⟩
      obtain ⟨T, hW, hb⟩ := hA3.pg.wd
      have hlk := since_look hA3.pg n (by omega)
      have hcs := hA3.pg.cs
      have HA3 := hide hA3
      have HI := hide (isTaken_any p 9 n T (by omega) w3 hW)
      rw [hb n (by omega)] at HI
      have HT : Hid ((true && ({ q with rd := true } : Pg).tk s.n n) = (q.K n || q.si n == 1)) := by
        show _ = _
        unfold Pg.tk
        rw [decide_eq_false (by omega : ¬ n < fp s.n), decide_eq_false (by omega : ¬ s.n ≤ n)]
        simp
      rw [HT.out] at HI
      have hs3 := HA.out.s3 n
      clear hA3 hW hb
      go_wp2_with fail
      refine HI.out.mono ?_
      rintro e w4 ⟨rfl, rfl⟩
      cases hk : (q.K n || q.si n == 1) with
      | true =>
        have HK := hide hk
        clear hk
        go_wp2_with fail
        go_ret
        refine ⟨?_, ⟨true, fun _ => rfl, HA3.out⟩, hT3⟩
        rw [HE.out]
        unfold Pg.there
        rw [HK.out]
        show Ending.returned (.bool ((q.si n : Int) != 2)) = _
        by_cases h : q.si n = 2
        · rw [h]; rfl
        · have : ((q.si n : Int) != 2) = true := by rw [bne_iff_ne]; omega
          rw [this]
          have : (q.si n == 2) = false := by rw [beq_eq_false_iff_ne]; exact h
          rw [this]
          rfl
      | false =>
        have HK := hide hk
        clear hk
        go_wp2_with fail
        go_ret
        refine ⟨?_, ⟨true, fun _ => rfl, HA3.out⟩, hT3⟩
        rw [HE.out]
        unfold Pg.there
        rw [HK.out]
        rfl
    · have HE : Hid (q.thereI s.n i = false) := by
        show _ = _
        unfold Pg.thereI
        rw [decide_eq_false h2]
        simp
      have t1 : decide (i < ((fp s.n : Nat) : Int)) = false := by simp; omega
      have t2 : decide ((s.n : Int) ≤ i) = true := by simp; omega
      go_enter Tryz.func70, Tryz.ntmps70
      go_wp2_with fail
      refine (blocks_any b m s w HA.out.disk).mono ?_
      rintro e w1 ⟨rfl, rfl⟩
      go_wp2_with fail
      refine (HFp.out _).mono ?_
      rintro e w2 ⟨rfl, rfl⟩
      go_wp2_with fail
      go_ret
      refine ⟨by rw [HE.out]; rfl, ⟨q.rd, fun h => absurd h (by rw [HE.out]; simp), HA.out⟩, Turn.refl _ _⟩
  · have HE : Hid (q.thereI s.n i = false) := by
      show _ = _
      unfold Pg.thereI
      rw [decide_eq_false h1]
      rfl
    have t1 : decide (i < ((fp s.n : Nat) : Int)) = true := by simp; omega
    go_enter Tryz.func70, Tryz.ntmps70
    go_wp2_with fail
    refine (blocks_any b m s w HA.out.disk).mono ?_
    rintro e w1 ⟨rfl, rfl⟩
    go_wp2_with fail
    refine (HFp.out _).mono ?_
    rintro e w2 ⟨rfl, rfl⟩
    go_wp2_with fail
    go_ret
    refine ⟨by rw [HE.out]; rfl, ?_, Turn.refl _ _⟩
    cases hr : q.rd with
    | false =>
      have e : ({ q with rd := false } : Pg) = q := by rw [← hr]
      exact .inl ⟨HE.out, by rw [e]; exact HA.out⟩
    | true =>
      have e : ({ q with rd := true } : Pg) = q := by rw [← hr]
      exact .inr (by rw [e]; exact HA.out)

end Go.Proofs.YthehkckdecckhaaGreatDoor

/-
  Free, Read, Alloc of a pager, walked.
-/
namespace Go.Proofs.YthehkckdecckhaaGreatDoor
open Go.RowKit Go.Maps

set_option maxRecDepth 100000 in
theorem key_ne {n k : Nat} (h : n ≠ k) : (Lit.int .i64 (n : Int)) ≠ .int .i64 (k : Int) := fun e => h (by have := (Lit.int.inj e).2; omega)

set_option maxRecDepth 100000 in
theorem Since.del {D : DataW Value} {si : Nat → Nat} (h : Since D si) (n : Nat) : Since (D.del (.int .i64 (n : Int))) (setB si n 0) := by
  refine ⟨fun kl hk => ?_, fun k => ?_⟩
  · by_cases e : kl = .int .i64 (n : Int)
    · rw [e, has_del_same] at hk; cases hk
    · rw [has_del_other e] at hk
      obtain ⟨k, rfl, hs⟩ := h.keys kl hk
      refine ⟨k, rfl, ?_⟩
      unfold setB
      rw [if_neg (fun e' => e (by rw [e']))]
      exact hs
  · unfold setB
    by_cases e : k = n
    · rw [e, atKey_del_same, if_pos rfl]; rfl
    · rw [if_neg e, atKey_del_other (key_ne e)]
      exact h.at_ k

set_option maxRecDepth 100000 in
theorem Since.put {D : DataW Value} {si : Nat → Nat} (h : Since D si) (hM : IsMap D) (n v : Nat) (hv : v ≠ 0) : Since (D.put (.int .i64 (n : Int)) (.lit (.int .i64 (v : Int)))) (setB si n v) := by
  refine ⟨fun kl hk => ?_, fun k => ?_⟩
  · by_cases e : kl = .int .i64 (n : Int)
    · refine ⟨n, e, ?_⟩
      unfold setB
      rw [if_pos rfl]
      exact hv
    · rw [has_put_other e] at hk
      obtain ⟨k, rfl, hs⟩ := h.keys kl hk
      refine ⟨k, rfl, ?_⟩
      unfold setB
      rw [if_neg (fun e' => e (by rw [e']))]
      exact hs
  · unfold setB
    by_cases e : k = n
    · rw [e, atKey_put_same hM (isKey n), if_pos rfl]
    · rw [if_neg e, atKey_put_other (key_ne e)]
      exact h.at_ k

set_option maxRecDepth 100000 in
theorem turn_of_grown {w w' : World} {g : Nat} (h : w.grownBy w' (some g)) : Turn [g] w w' := ⟨h.os, h.tape, h.output, h.size, fun k hk hn => h.block k hk (fun e => hn (by rw [Option.some.inj e]; simp))⟩

set_option maxRecDepth 100000 in
/-- 'since' turns. -/
theorem PgAt.setSince {w w' : World} {p b sm rb N : Nat} {d l : Int} {q : Pg} (h : PgAt w p b sm rb N d l q) (hT : Turn [sm] w w') {n : Nat} {D : DataW Value} {q' : Pg} (hM : w'.ownsMap Tryz.prog 3 (plainElem Tryz.prog 3) sm n D) (hn : n ≤ q'.u) (hS : Since D q'.si) (hr : sm ≠ rb)
    (hb : ∀ k, k < 16384 → (q'.rd && q'.tk N k) = (q.rd && q.tk N k)) (e1 : q'.dead = q.dead) (e2 : q'.c = q.c) (e3 : q'.root = q.root) : PgAt w' p b sm rb N d l q' := by
  have hp : p ∉ [sm] := fun hm => h.ne (List.mem_singleton.1 hm)
  have hc : ∀ o, w'.cell? ⟨p, o, none⟩ = w.cell? ⟨p, o, none⟩ := fun o => hT.cell (p := ⟨p, o, none⟩) h.lt hp
  obtain ⟨x1, h1⟩ := h.c1
  obtain ⟨x2, h2⟩ := h.c2
  obtain ⟨ra, rc, h5, hB, hn', hx⟩ := h.c5
  obtain ⟨T, hW, hbt⟩ := h.wd
  exact ⟨(hc 0).trans h.c0, ⟨x1, (hc 1).trans h1⟩, ⟨x2, (hc 2).trans h2⟩, by rw [e1]; exact (hc 3).trans h.c3, by rw [e2]; exact (hc 4).trans h.c4,
    ⟨ra, rc, by rw [e3]; exact (hc 5).trans h5, by rw [e3]; exact hB.turn hT (fun x h1 h2 hm => hr (by rw [← hx x h1 h2]; exact (List.mem_singleton.1 hm).symm)), hn', by rw [e3]; exact hx⟩,
    (hc 6).trans h.c6, (hc 7).trans h.c7, ⟨T, hW.turn hT hp, fun k hk => by rw [hb k hk]; exact hbt k hk⟩, (hc 265).trans h.cs, ⟨n, D, hn, hM, hS⟩, h.ne, h.nr⟩

set_option maxRecDepth 100000 in
theorem wf_small {n : Nat} (h : n ≤ 100) : (Lit.int .i64 (n : Int)).wf = true := WalkArith.wf_i64 (by omega)
set_option maxRecDepth 100000 in
theorem plain3 (n : Nat) (h : n ≤ 100) : plainElem (H := Value) Tryz.prog 3 (.int .i64 (n : Int)) = some (.lit (.int .i64 (n : Int)), []) := plainElem_int Tryz.underlying3 (wf_small h)

/-- Behind a Free. -/
def Pg.freed (q : Pg) (n : Nat) : Pg := if q.si n = 1 then { q with si := setB q.si n 0, rd := true } else { q with si := setB q.si n 2, rd := true, u := q.u + 1 }

set_option maxRecDepth 100000 in
theorem Pg.there_range {q : Pg} {N : Nat} {i : Int} (h : q.thereI N i = true) : ∃ n : Nat, i = n ∧ fp N ≤ n ∧ n < N ∧ q.there n = true := by
  unfold Pg.thereI at h
  simp only [Bool.and_eq_true, decide_eq_true_eq] at h
  obtain ⟨n, rfl⟩ := Int.eq_ofNat_of_zero_le (show 0 ≤ i by omega)
  exact ⟨n, rfl, by omega, by omega, h.2⟩

set_option maxRecDepth 100000 in
set_option maxHeartbeats 1600000 in
theorem free_no (p b m sm rb : Nat) (s : St) (q : Pg) (hd : s.dead = false) (hq : q.dead = false) (i : Int) (hi : q.thereI s.n i = false) (w : World) (hA : PAt w p b m sm rb s q) :
    Calls Tryz.prog 47 #[.pointer (some ⟨p, 0, none⟩), .int .i64 i] w fun e w' => e = .returned (.int .i64 2) ∧ (∃ r, PAt w' p b m sm rb s { q with rd := r }) ∧ Turn [p] w w' := by
  have hnot : ∀ (x : Bool) (w : World), (Op.unary .not (.bool x)).run Tryz.prog w = .ok (.bool (!x)) w := fun _ _ => rfl
  have HI := hide (isDead_no p b m sm rb s.n q.word 0 q s hq hd w hA.disk hA.pg hA.apart)
  have HA := hide hA
  have Hi := hide hi
  clear hA hi
  go_enter Tryz.func47, Tryz.ntmps47
  go_wp2_with fail
  refine HI.out.mono ?_
  rintro e w1 ⟨rfl, hP1, hD1, hT1⟩
  have HA1 : Hid (PAt w1 p b m sm rb s q) := ⟨hD1, hP1, HA.out.laid, HA.out.apart, HA.out.s1, HA.out.s2, HA.out.s3, HA.out.s0, HA.out.tab.turn hT1 (by have := HA.out.pos.1; simp; omega), HA.out.pos⟩
  clear hP1 hD1
  go_wp2_with fail
  refine (isThere_any p b m sm rb s q hd i w1 HA1.out).mono ?_
  rintro e w2 ⟨rfl, ⟨r, _, hA2⟩, hT2⟩
  rw [Hi.out]
  have HA2 := hide hA2
  clear hA2
  go_wp2_with fail
  go_ret
  exact ⟨rfl, ⟨r, HA2.out⟩, hT1.trans hT2⟩

set_option maxRecDepth 100000 in
set_option maxHeartbeats 3200000 in
theorem free_yes (p b m sm rb : Nat) (s : St) (q : Pg) (hd : s.dead = false) (hq : q.dead = false) (hu : q.u < 1000000000) (n : Nat) (hi : q.thereI s.n n = true) (w : World) (hA : PAt w p b m sm rb s q) :
    Calls Tryz.prog 47 #[.pointer (some ⟨p, 0, none⟩), .int .i64 (n : Nat)] w fun e w' => e = .returned (.int .i64 0) ∧ PAt w' p b m sm rb s (q.freed n) ∧ Turn [p, sm] w w' := by
  have hnot : ∀ (x : Bool) (w : World), (Op.unary .not (.bool x)).run Tryz.prog w = .ok (.bool (!x)) w := fun _ _ => rfl
  have HI := hide (isDead_no p b m sm rb s.n q.word 0 q s hq hd w hA.disk hA.pg hA.apart)
  obtain ⟨n', e', hn4, hnN, hth⟩ := Pg.there_range hi
  obtain rfl : n = n' := by omega
  have hN := hA.laid.n16
  have HA := hide hA
  have Hi := hide hi
  clear hA hi e'
  have hth2 : (q.K n = true ∨ q.si n = 1) ∧ q.si n ≠ 2 := by
    unfold Pg.there at hth
    simpa using hth
  have Hth := hide hth2
  clear hth hth2
  have HB : Hid (∀ w1, Turn [p] w w1 → PgAt w1 p b sm rb s.n q.word 0 q → DiskAt w1 b m s → PAt w1 p b m sm rb s q) := fun w1 hT1 hP1 hD1 => ⟨hD1, hP1, HA.out.laid, HA.out.apart, HA.out.s1, HA.out.s2, HA.out.s3, HA.out.s0, HA.out.tab.turn hT1 (by have := HA.out.pos.1; simp; omega), HA.out.pos⟩
  by_cases h1 : q.si n = 1
  · have HE : Hid (q.freed n = { q with si := setB q.si n 0, rd := true }) := by show _ = _; unfold Pg.freed; rw [if_pos h1]
    have H1 := hide h1
    clear h1
    go_enter Tryz.func47, Tryz.ntmps47
    go_wp2_with fail
    refine HI.out.mono ?_
    rintro e w1 ⟨rfl, hP1, hD1, hT1⟩
    have HA1 := hide (HB.out w1 hT1 hP1 hD1)
    clear hP1 hD1
    go_wp2_with fail
    refine (isThere_any p b m sm rb s q hd (n : Nat) w1 HA1.out).mono ?_
    rintro e w2 ⟨rfl, ⟨r, hr, hA2⟩, hT2⟩
    obtain rfl := hr Hi.out
    rw [Hi.out]
    have hlk := since_look hA2.pg n (by omega)
    have hl1 : ({ q with rd := true } : Pg).si n = 1 := H1.out
    rw [hl1] at hlk
    have hcs := hA2.pg.cs
    obtain ⟨k, D, hk, hM, hS⟩ := hA2.pg.since
    obtain ⟨w3, hrun, hM3, hmt⟩ := hM.drop law3 Tryz.underlying135 (key3 (i := n) (by omega)) 0
    have hT3 := turn_of_grown hmt.grown
    have HP3 := hide (hA2.pg.setSince (q' := { q with rd := true, si := setB q.si n 0, K := fun k => q.K k || decide (k = n) }) hT3 hM3 hk (hS.del n) HA.out.apart.sr (fun k _ => by
      unfold Pg.tk setB
      by_cases e : k = n
      · subst e; simp [H1.out]
      · simp [e]) rfl rfl rfl)
    have HD3 := hide (hA2.disk.turn hT3 (by simp; exact Ne.symm HA.out.apart.sb) (by simp; exact Ne.symm HA.out.apart.smm))
    have HA2 := hide hA2
    clear hA2 hM hM3 hmt hS hl1 hr hk
    obtain ⟨T, hW, hb⟩ := HP3.out.wd
    have HW := hide hW
    have HBt := hide hb
    have HTab3 := hide (HA2.out.tab.turn hT3 (by have := HA.out.pos.2.2.2; simp; omega))
    clear hW hb
    go_wp2_with fail
    refine (free_any p 9 n T (by omega) w3 HW.out).mono ?_
    rintro e w4 ⟨rfl, hW4, hT4⟩
    have HP4 := hide (HP3.out.setWords (q' := { q with si := setB q.si n 0, rd := true }) hT4.turn (fun o ho => hT4.out o (by omega)) hW4 (fun k hk => by
      rw [bit_freeW, HBt.out k hk]
      have hs1 := HA.out.s1 n H1.out
      unfold Pg.tk setB
      by_cases e : k = n
      · subst e
        have h4 : ¬ k < fp s.n := by omega
        have h5 : ¬ s.n ≤ k := by omega
        simp [hs1.1, h4, h5]
      · simp [e]) rfl rfl rfl rfl rfl)
    have HD4 := hide (HD3.out.turn hT4.turn (by simp; exact Ne.symm HA.out.apart.pb) (by simp; exact Ne.symm HA.out.apart.pm))
    have HTab4 := hide (HTab3.out.turn hT4.turn (by have := HA.out.pos.1; simp; omega))
    clear hW4
    go_wp2_with fail
    go_ret
    refine ⟨rfl, ?_, ?_⟩
    · rw [HE.out]
      refine ⟨HD4.out, HP4.out, HA.out.laid, HA.out.apart, ?_, ?_, ?_, fun h => absurd h (by simp), HTab4.out, HA.out.pos⟩
      · intro k hk
        simp only [setB] at hk
        split at hk
        · omega
        · exact HA.out.s1 k hk
      · intro k hk
        simp only [setB] at hk
        split at hk
        · omega
        · exact HA.out.s2 k hk
      · intro k
        show setB q.si n 0 k ≤ 2
        unfold setB
        split
        · omega
        · exact HA.out.s3 k
    · exact (((hT1.trans hT2).mono (by simp)).trans (hT3.mono (by simp))).trans (hT4.turn.mono (by simp))
  · have HE : Hid (q.freed n = { q with si := setB q.si n 2, rd := true, u := q.u + 1 }) := by show _ = _; unfold Pg.freed; rw [if_neg h1]
    have hK : q.K n = true := by
      rcases Hth.out.1 with h | h
      · exact h
      · exact absurd h h1
    have H1 := hide h1
    have HK := hide hK
    have t1 : ((q.si n : Int) == 1) = false := by rw [beq_eq_false_iff_ne]; omega
    clear h1 hK
    go_enter Tryz.func47, Tryz.ntmps47
    go_wp2_with fail
    refine HI.out.mono ?_
    rintro e w1 ⟨rfl, hP1, hD1, hT1⟩
    have HA1 := hide (HB.out w1 hT1 hP1 hD1)
    clear hP1 hD1
    go_wp2_with fail
    refine (isThere_any p b m sm rb s q hd (n : Nat) w1 HA1.out).mono ?_
    rintro e w2 ⟨rfl, ⟨r, hr, hA2⟩, hT2⟩
    obtain rfl := hr Hi.out
    rw [Hi.out]
    have hlk := since_look hA2.pg n (by omega)
    have hl1 : ({ q with rd := true } : Pg).si n = q.si n := rfl
    rw [hl1] at hlk
    have hcs := hA2.pg.cs
    obtain ⟨k, D, hk, hM, hS⟩ := hA2.pg.since
    have hk' : k ≤ q.u := hk
    obtain ⟨w3, hrun, hM3, hgr⟩ := World.ownsMap.update (t := 135) (e := 3) hM law3 Tryz.underlying135 (by unfold maxLen; omega) (key3 (i := n) (by omega)) (plain3 2 (by omega))
    have hrun' : (Instr.mapUpdate 135 (.map (some sm)) (.int .i64 (n : Nat)) (.int .i64 2)).run Tryz.prog w2 = .ok () w3 := hrun
    clear hrun
    have hT3 := turn_of_grown hgr
    have HP3 := hide (hA2.pg.setSince (q' := { q with si := setB q.si n 2, rd := true, u := q.u + 1 }) hT3 hM3 (by show k + 1 ≤ q.u + 1; omega) (hS.put hM.isMap n 2 (by omega)) HA.out.apart.sr (fun k _ => by
      unfold Pg.tk setB
      by_cases e : k = n
      · subst e; simp [HK.out]
      · simp [e]) rfl rfl rfl)
    have HD3 := hide (hA2.disk.turn hT3 (by simp; exact Ne.symm HA.out.apart.sb) (by simp; exact Ne.symm HA.out.apart.smm))
    have HTab3 := hide (hA2.tab.turn hT3 (by have := HA.out.pos.2.2.2; simp; omega))
    clear hA2 hM hM3 hgr hS hl1 hr hk hk'
    go_wp2_with fail
    go_ret
    refine ⟨rfl, ?_, ?_⟩
    · rw [HE.out]
      refine ⟨HD3.out, HP3.out, HA.out.laid, HA.out.apart, ?_, ?_, ?_, fun h => absurd h (by simp), HTab3.out, HA.out.pos⟩
      · intro k hk
        simp only [setB] at hk
        split at hk
        · omega
        · exact HA.out.s1 k hk
      · intro k hk
        simp only [setB] at hk
        split at hk
        · rename_i e
          rw [e]
          exact HK.out
        · exact HA.out.s2 k hk
      · intro k
        show setB q.si n 2 k ≤ 2
        unfold setB
        split
        · omega
        · exact HA.out.s3 k
    · exact ((hT1.trans hT2).mono (by simp)).trans (hT3.mono (by simp))

/-- Read, of a page that there is. -/
def Told (P : Prop) : Prop := P

set_option maxRecDepth 100000 in
set_option maxHeartbeats 3200000 in
theorem read_yes (p b m sm rb : Nat) (s : St) (q : Pg) (hd : s.dead = false) (hq : q.dead = false) (n : Nat) (hi : q.thereI s.n n = true) (l : List Nat) (hl : l.length ≤ 496) (hf : s.f n = bytesOf 512 (pageB l)) (w : World) (hA : PAt w p b m sm rb s q) :
    Calls Tryz.prog 54 #[.pointer (some ⟨p, 0, none⟩), .int .i64 (n : Nat)] w fun e w' => ∃ g o, w.heap.size ≤ g ∧ g < w'.heap.size ∧ e = .returned (.tuple #[.slice (some ⟨g, o, none⟩) l.length l.length, .int .i64 0]) ∧ BytesAt w' (some ⟨g, o, none⟩) l ∧ (∀ j, w'.frozen? ⟨g, j, none⟩ = false) ∧ PAt w' p b m sm rb s { q with rd := true } ∧ Turn [p] w w' := by
  have hnot : ∀ (x : Bool) (w : World), (Op.unary .not (.bool x)).run Tryz.prog w = .ok (.bool (!x)) w := fun _ _ => rfl
  have HI := hide (isDead_no p b m sm rb s.n q.word 0 q s hq hd w hA.disk hA.pg hA.apart)
  obtain ⟨n', e', hn4, hnN, _⟩ := Pg.there_range hi
  obtain rfl : n = n' := by omega
  have HA := hide hA
  have Hi := hide hi
  have HF := hide hf
  clear hA hi e' hf
  have HB : Hid (∀ w1, Turn [p] w w1 → PgAt w1 p b sm rb s.n q.word 0 q → DiskAt w1 b m s → PAt w1 p b m sm rb s q) := fun w1 hT1 hP1 hD1 => ⟨hD1, hP1, HA.out.laid, HA.out.apart, HA.out.s1, HA.out.s2, HA.out.s3, HA.out.s0, HA.out.tab.turn hT1 (by have := HA.out.pos.1; simp; omega), HA.out.pos⟩
  have HPB : Hid (∀ i, i < 512 → fB s n i = pageB l i) := by
    intro i hi
    unfold fB
    rw [HF.out, bytesOf_get _ _ _ hi]
  have hlen : pageLen (fB s n) = l.length := by
    rw [← page_len l hl]
    unfold pageLen
    rw [bytesOf_congr fun i hi => HPB.out i (by omega)]
  have HLen := hide hlen
  clear hlen
  go_enter Tryz.func54, Tryz.ntmps54
  go_wp2_with fail
  refine HI.out.mono ?_
  rintro e w1 ⟨rfl, hP1, hD1, hT1⟩
  have HA1 := hide (HB.out w1 hT1 hP1 hD1)
  clear hP1 hD1
  go_wp2_with fail
  refine (isThere_any p b m sm rb s q hd (n : Nat) w1 HA1.out).mono ?_
  rintro e w2 ⟨rfl, ⟨r, hr, hA2⟩, hT2⟩
  obtain rfl := hr Hi.out
  rw [Hi.out]
  have HA2 := hide hA2
  have hs2 := (hT1.trans hT2).size
  clear hA2 hr
  go_wp2_with fail
  refine (pread_ok p b m sm rb s.n _ 0 _ HA2.out.apart s HA2.out.laid.good hd n hnN w2 HA2.out.disk HA2.out.pg).mono ?_
  rintro e w3 ⟨rfl, hR3, hP3, hD3, hT3, _⟩
  have HR3 := hide hR3
  have HA3 : Hid (PAt w3 p b m sm rb s { q with rd := true }) := ⟨hD3, hP3, HA2.out.laid, HA2.out.apart, HA2.out.s1, HA2.out.s2, HA2.out.s3, HA2.out.s0, HA2.out.tab.turn hT3.turn (by have := HA2.out.pos.1; simp; omega), HA2.out.pos⟩
  clear hR3 hP3 hD3
  go_wp2_with fail
  refine (pageBytes_any w2.heap.size (fB s n) (fB_lt HA3.out.laid.byte n) w3 HR3.out).mono ?_
  rintro e w4 ⟨o, rfl, ho, rfl⟩
  rw [HLen.out] at ho ⊢
  go_wp2_with fail
  go_ret2
  refine ⟨w2.heap.size, o, hs2, HR3.out.lt, rfl, ?_, HR3.out.fz, HA3.out, (hT1.trans hT2).trans hT3.turn⟩
  rcases ho with h | h
  · left; exact List.eq_nil_of_length_eq_zero h
  · subst h
    have := HR3.out.bytes 16 l.length (by omega)
    rw [bytesOf_congr (B := fun i => pageB l (16 + i)) (fun i hi => HPB.out _ (by omega)), page_bytes] at this
    exact this

set_option maxRecDepth 100000 in
set_option maxHeartbeats 1600000 in
theorem read_no (p b m sm rb : Nat) (s : St) (q : Pg) (hd : s.dead = false) (hq : q.dead = false) (i : Int) (hi : q.thereI s.n i = false) (w : World) (hA : PAt w p b m sm rb s q) :
    Calls Tryz.prog 54 #[.pointer (some ⟨p, 0, none⟩), .int .i64 i] w fun e w' => e = .returned (.tuple #[.slice none 0 0, .int .i64 2]) ∧ (∃ r, PAt w' p b m sm rb s { q with rd := r }) ∧ Turn [p] w w' := by
  have hnot : ∀ (x : Bool) (w : World), (Op.unary .not (.bool x)).run Tryz.prog w = .ok (.bool (!x)) w := fun _ _ => rfl
  have HI := hide (isDead_no p b m sm rb s.n q.word 0 q s hq hd w hA.disk hA.pg hA.apart)
  have HA := hide hA
  have Hi := hide hi
  clear hA hi
  go_enter Tryz.func54, Tryz.ntmps54
  go_wp2_with fail
  refine HI.out.mono ?_
  rintro e w1 ⟨rfl, hP1, hD1, hT1⟩
  have HA1 : Hid (PAt w1 p b m sm rb s q) := ⟨hD1, hP1, HA.out.laid, HA.out.apart, HA.out.s1, HA.out.s2, HA.out.s3, HA.out.s0, HA.out.tab.turn hT1 (by have := HA.out.pos.1; simp; omega), HA.out.pos⟩
  clear hP1 hD1
  go_wp2_with fail
  refine (isThere_any p b m sm rb s q hd i w1 HA1.out).mono ?_
  rintro e w2 ⟨rfl, ⟨r, _, hA2⟩, hT2⟩
  rw [Hi.out]
  have HA2 := hide hA2
  clear hA2
  go_wp2_with fail
  go_ret2
  exact ⟨rfl, ⟨r, HA2.out⟩, hT1.trans hT2⟩
end Go.Proofs.YthehkckdecckhaaGreatDoor
