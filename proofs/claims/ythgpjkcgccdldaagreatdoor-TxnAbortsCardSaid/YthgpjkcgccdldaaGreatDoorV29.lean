/-
  What a pager is by itself ('Pg'), what it is in memory ('PgAt'); its read and write, isDead, walked.
  A pager's read and write, isDead, Seq, Root, walked.
  What a pager's disk says ('Laid'); what was written is what is read: pages, maps; bytes.Clone, Root, walked.
  The free map, read once: readFreeMap, Once.Do with it, freeMap, walked.
  Left, isThere, Free, Read, Alloc of a pager, walked.
  How many pages can be allocated: bounds and steps.
  Alloc of a pager, walked.
  Going through 'since', in whatever order; Abort of a pager, walked.
  writeCommit of a pager, walked.
  Commit of a pager, walked.
  Open, walked.
-/
import Derived.Test.YthgpjkcgccdldaaGreatDoorV28
import Derived.Maps.RangeWalk

namespace Go.Proofs.YthgpjkcgccdldaaGreatDoor
open Go.RowKit Go.Maps

/-- A pager by itself: whether it met the power's end; Commits done; the root; the committed pages; what was done since (1: allocated, 2: freed); whether the map was read; how often 'since' was written. -/
structure Pg where
  dead : Bool
  c : Nat
  root : List Nat
  K : Nat → Bool
  si : Nat → Nat
  rd : Bool
  u : Nat

/-- The first page's block. -/
def fp (N : Nat) : Nat := 2 + 2 * mbs N
theorem fp_bd {N : Nat} (h1 : 64 ≤ N) (h2 : N ≤ 16384) : 4 ≤ fp N ∧ fp N ≤ 10 ∧ fp N < N ∧ 1 ≤ mbs N ∧ mbs N ≤ 4 ∧ fp N = 2 + 2 * mbs N ∧ N ≤ 4096 * mbs N := by unfold fp mbs; omega

theorem fp2 (N : Nat) : 2 ≤ fp N := by unfold fp; omega

/-- A block that can't be allocated now. -/
def Pg.tk (q : Pg) (N n : Nat) : Bool := decide (n < fp N) || decide (N ≤ n) || q.K n || q.si n == 1

/-- What the map 'since' says. -/
structure Since (D : DataW Value) (si : Nat → Nat) : Prop where
  keys : ∀ kl, has D kl = true → ∃ n : Nat, kl = .int .i64 (n : Int) ∧ si n ≠ 0
  at_ : ∀ n : Nat, D.atKey (.int .i64 (n : Int)) (.lit (.int .i64 0)) = .lit (.int .i64 (si n : Nat))

/-- A pager in memory: its object in block p, the disk's in b, 'since' in sm, the root's bytes in rb; d, l: the once's word and lock. -/
structure PgAt (w : World) (p b sm rb N : Nat) (d l : Int) (q : Pg) : Prop where
  c0 : w.cell? ⟨p, 0, none⟩ = some (.pointer (some ⟨b, 0, none⟩))
  c1 : ∃ x : Int, w.cell? ⟨p, 1, none⟩ = some (.int .i64 x)
  c2 : ∃ x : Int, w.cell? ⟨p, 2, none⟩ = some (.int .i64 x)
  c3 : w.cell? ⟨p, 3, none⟩ = some (.bool q.dead)
  c4 : w.cell? ⟨p, 4, none⟩ = some (.int .i64 (q.c : Nat))
  c5 : ∃ ra rc, w.cell? ⟨p, 5, none⟩ = some (.slice ra q.root.length rc) ∧ BytesAt w ra q.root ∧ (ra = none → rc = 0) ∧ ∀ x, q.root ≠ [] → ra = some x → x.block = rb
  c6 : w.cell? ⟨p, 6, none⟩ = some (.int .u32 d)
  c7 : w.cell? ⟨p, 7, none⟩ = some (.int .i32 l)
  wd : ∃ T, WordsAt w p 9 T ∧ ∀ n, n < 16384 → bit T n = (q.rd && q.tk N n)
  cs : w.cell? ⟨p, 265, none⟩ = some (.map (some sm))
  since : ∃ n D, n ≤ q.u ∧ w.ownsMap Tryz.prog 3 (plainElem Tryz.prog 3) sm n D ∧ Since D q.si
  ne : p ≠ sm
  nr : p ≠ rb

variable {w w' : World} {p b m sm rb N : Nat} {d l : Int} {q : Pg}

set_option maxRecDepth 100000 in
theorem PgAt.fz (h : PgAt w p b sm rb N d l q) (o : Nat) : w.frozen? ⟨p, o, none⟩ = false := by obtain ⟨T, hT, _⟩ := h.wd; exact hT.fz o
set_option maxRecDepth 100000 in
theorem PgAt.lt (h : PgAt w p b sm rb N d l q) : p < w.heap.size := lt_of_cell h.c0
set_option maxRecDepth 100000 in
theorem PgAt.lts (h : PgAt w p b sm rb N d l q) : sm < w.heap.size := by obtain ⟨_, _, _, h, _⟩ := h.since; exact h.lt

set_option maxRecDepth 100000 in
theorem ownsMap_block {H : Type} {P : Program} {k : TypeId} {R : Value → Option (DataW H × List MemPlace)} {w w' : World} {b n : Nat} {D : DataW H} (h : w.ownsMap P k R b n D) (hb : w'.heap[b]? = w.heap[b]?) : w'.ownsMap P k R b n D := by
  obtain ⟨es, clock, he, hF⟩ := h
  exact ⟨es, clock, hb.trans he, hF⟩

set_option maxRecDepth 100000 in
theorem PgAt.turn {S : List Nat} (h : PgAt w p b sm rb N d l q) (hT : Turn S w w') (hp : p ∉ S) (hs : sm ∉ S) (hr : rb ∉ S) : PgAt w' p b sm rb N d l q := by
  have hb := hT.block p h.lt hp
  have hc : ∀ o, w'.cell? ⟨p, o, none⟩ = w.cell? ⟨p, o, none⟩ := fun o => World.cell?_of_block (a := ⟨p, o, none⟩) hb
  obtain ⟨x1, h1⟩ := h.c1
  obtain ⟨x2, h2⟩ := h.c2
  obtain ⟨ra, rc, h5, hB, hn, hx⟩ := h.c5
  obtain ⟨T, hW, hb'⟩ := h.wd
  obtain ⟨n, D, hn', hM, hS⟩ := h.since
  exact ⟨(hc 0).trans h.c0, ⟨x1, (hc 1).trans h1⟩, ⟨x2, (hc 2).trans h2⟩, (hc 3).trans h.c3, (hc 4).trans h.c4,
    ⟨ra, rc, (hc 5).trans h5, hB.turn hT (fun x h1 h2 => by rw [hx x h1 h2]; exact hr), hn, hx⟩, (hc 6).trans h.c6, (hc 7).trans h.c7, ⟨T, hW.turn hT hp, hb'⟩, (hc 265).trans h.cs,
    ⟨n, D, hn', ownsMap_block hM (hT.block sm h.lts hs), hS⟩, h.ne, h.nr⟩

set_option maxRecDepth 100000 in
theorem PgAt.turn0 (h : PgAt w p b sm rb N d l q) (hT : Turn [] w w') : PgAt w' p b sm rb N d l q := h.turn hT (by simp) (by simp) (by simp)

set_option maxRecDepth 100000 in
/-- One cell of the object, not of the bitmap, is stored. -/
theorem PgAt.set (h : PgAt w p b sm rb N d l q) (k : Nat) (v : Value) (hk : k < 9 ∨ k = 265) :
    (∀ o, o ≠ k → (w.setCell ⟨p, k, none⟩ v).cell? ⟨p, o, none⟩ = w.cell? ⟨p, o, none⟩) ∧ (∃ T, WordsAt (w.setCell ⟨p, k, none⟩ v) p 9 T ∧ ∀ n, n < 16384 → bit T n = (q.rd && q.tk N n)) ∧
    (∃ n D, n ≤ q.u ∧ (w.setCell ⟨p, k, none⟩ v).ownsMap Tryz.prog 3 (plainElem Tryz.prog 3) sm n D ∧ Since D q.si) ∧
    (∀ ra, (BytesAt w ra q.root ∧ ∀ x, q.root ≠ [] → ra = some x → x.block = rb) → BytesAt (w.setCell ⟨p, k, none⟩ v) ra q.root) := by
  have ho : ∀ o, o ≠ k → (w.setCell ⟨p, k, none⟩ v).cell? ⟨p, o, none⟩ = w.cell? ⟨p, o, none⟩ := fun o hne => World.cell?_setCell_other _ _ _ _ (off_ne hne.symm)
  obtain ⟨T, hW, hb'⟩ := h.wd
  obtain ⟨n, D, hn', hM, hS⟩ := h.since
  have hT : Turn [p] w (w.setCell ⟨p, k, none⟩ v) := (Turn.refl [p] w).setCell (List.mem_singleton.2 rfl) k v
  refine ⟨ho, ⟨T, ⟨fun i hi => (ho _ (by omega)).trans (hW.cell i hi), fun o => by rw [World.frozen?_setCell]; exact hW.fz o, hW.lt, by rw [World.size_setCell]; exact hW.blk⟩, hb'⟩,
    ⟨n, D, hn', ownsMap_block hM (hT.block sm h.lts (fun hm => h.ne (List.mem_singleton.1 hm).symm)), hS⟩, fun ra hr => hr.1.turn hT fun x h1 h2 => by rw [hr.2 x h1 h2]; exact fun hm => h.nr (List.mem_singleton.1 hm).symm⟩

set_option maxRecDepth 100000 in
theorem PgAt.setReads (h : PgAt w p b sm rb N d l q) (x : Int) : PgAt (w.setCell ⟨p, 1, none⟩ (.int .i64 x)) p b sm rb N d l q := by
  obtain ⟨ho, hw, hs, hr⟩ := h.set 1 (.int .i64 x) (by omega)
  obtain ⟨x1, h1⟩ := h.c1
  obtain ⟨x2, h2⟩ := h.c2
  obtain ⟨ra, rc, h5, hB, hn, hx⟩ := h.c5
  exact ⟨(ho 0 (by omega)).trans h.c0, ⟨x, World.cell?_setCell_same _ _ _ h1⟩, ⟨x2, (ho 2 (by omega)).trans h2⟩, (ho 3 (by omega)).trans h.c3, (ho 4 (by omega)).trans h.c4, ⟨ra, rc, (ho 5 (by omega)).trans h5, hr ra ⟨hB, hx⟩, hn, hx⟩,
    (ho 6 (by omega)).trans h.c6, (ho 7 (by omega)).trans h.c7, hw, (ho 265 (by omega)).trans h.cs, hs, h.ne, h.nr⟩
set_option maxRecDepth 100000 in
theorem PgAt.setWrites (h : PgAt w p b sm rb N d l q) (x : Int) : PgAt (w.setCell ⟨p, 2, none⟩ (.int .i64 x)) p b sm rb N d l q := by
  obtain ⟨ho, hw, hs, hr⟩ := h.set 2 (.int .i64 x) (by omega)
  obtain ⟨x1, h1⟩ := h.c1
  obtain ⟨x2, h2⟩ := h.c2
  obtain ⟨ra, rc, h5, hB, hn, hx⟩ := h.c5
  exact ⟨(ho 0 (by omega)).trans h.c0, ⟨x1, (ho 1 (by omega)).trans h1⟩, ⟨x, World.cell?_setCell_same _ _ _ h2⟩, (ho 3 (by omega)).trans h.c3, (ho 4 (by omega)).trans h.c4, ⟨ra, rc, (ho 5 (by omega)).trans h5, hr ra ⟨hB, hx⟩, hn, hx⟩,
    (ho 6 (by omega)).trans h.c6, (ho 7 (by omega)).trans h.c7, hw, (ho 265 (by omega)).trans h.cs, hs, h.ne, h.nr⟩
set_option maxRecDepth 100000 in
theorem PgAt.setDead (h : PgAt w p b sm rb N d l q) (x : Bool) : PgAt (w.setCell ⟨p, 3, none⟩ (.bool x)) p b sm rb N d l { q with dead := x } := by
  obtain ⟨ho, hw, hs, hr⟩ := h.set 3 (.bool x) (by omega)
  obtain ⟨x1, h1⟩ := h.c1
  obtain ⟨x2, h2⟩ := h.c2
  obtain ⟨ra, rc, h5, hB, hn, hx⟩ := h.c5
  exact ⟨(ho 0 (by omega)).trans h.c0, ⟨x1, (ho 1 (by omega)).trans h1⟩, ⟨x2, (ho 2 (by omega)).trans h2⟩, World.cell?_setCell_same _ _ _ h.c3, (ho 4 (by omega)).trans h.c4, ⟨ra, rc, (ho 5 (by omega)).trans h5, hr ra ⟨hB, hx⟩, hn, hx⟩,
    (ho 6 (by omega)).trans h.c6, (ho 7 (by omega)).trans h.c7, hw, (ho 265 (by omega)).trans h.cs, hs, h.ne, h.nr⟩
set_option maxRecDepth 100000 in
theorem PgAt.setC (h : PgAt w p b sm rb N d l q) (x : Nat) : PgAt (w.setCell ⟨p, 4, none⟩ (.int .i64 (x : Nat))) p b sm rb N d l { q with c := x } := by
  obtain ⟨ho, hw, hs, hr⟩ := h.set 4 (.int .i64 (x : Nat)) (by omega)
  obtain ⟨x1, h1⟩ := h.c1
  obtain ⟨x2, h2⟩ := h.c2
  obtain ⟨ra, rc, h5, hB, hn, hx⟩ := h.c5
  exact ⟨(ho 0 (by omega)).trans h.c0, ⟨x1, (ho 1 (by omega)).trans h1⟩, ⟨x2, (ho 2 (by omega)).trans h2⟩, (ho 3 (by omega)).trans h.c3, World.cell?_setCell_same _ _ _ h.c4, ⟨ra, rc, (ho 5 (by omega)).trans h5, hr ra ⟨hB, hx⟩, hn, hx⟩,
    (ho 6 (by omega)).trans h.c6, (ho 7 (by omega)).trans h.c7, hw, (ho 265 (by omega)).trans h.cs, hs, h.ne, h.nr⟩
set_option maxRecDepth 100000 in
theorem PgAt.setRoot (h : PgAt w p b sm rb N d l q) (ra : Option Addr) (rc rb' : Nat) (root : List Nat) (hB : BytesAt w ra root) (hn : ra = none → rc = 0) (hx : ∀ x, root ≠ [] → ra = some x → x.block = rb') (hne : p ≠ rb') :
    PgAt (w.setCell ⟨p, 5, none⟩ (.slice ra root.length rc)) p b sm rb' N d l { q with root := root } := by
  obtain ⟨ho, hw, hs, _⟩ := h.set 5 (.slice ra root.length rc) (by omega)
  obtain ⟨x1, h1⟩ := h.c1
  obtain ⟨x2, h2⟩ := h.c2
  obtain ⟨_, _, h5, _⟩ := h.c5
  have hT : Turn [p] w (w.setCell ⟨p, 5, none⟩ (.slice ra root.length rc)) := (Turn.refl [p] w).setCell (List.mem_singleton.2 rfl) 5 _
  exact ⟨(ho 0 (by omega)).trans h.c0, ⟨x1, (ho 1 (by omega)).trans h1⟩, ⟨x2, (ho 2 (by omega)).trans h2⟩, (ho 3 (by omega)).trans h.c3, (ho 4 (by omega)).trans h.c4,
    ⟨ra, rc, World.cell?_setCell_same _ _ _ h5, hB.turn hT (fun x h1 h2 hm => hne (by rw [← hx x h1 h2]; exact (List.mem_singleton.1 hm).symm)), hn, hx⟩,
    (ho 6 (by omega)).trans h.c6, (ho 7 (by omega)).trans h.c7, hw, (ho 265 (by omega)).trans h.cs, hs, h.ne, hne⟩
set_option maxRecDepth 100000 in
theorem PgAt.setDone (h : PgAt w p b sm rb N d l q) (x : Int) : PgAt (w.setCell ⟨p, 6, none⟩ (.int .u32 x)) p b sm rb N x l q := by
  obtain ⟨ho, hw, hs, hr⟩ := h.set 6 (.int .u32 x) (by omega)
  obtain ⟨x1, h1⟩ := h.c1
  obtain ⟨x2, h2⟩ := h.c2
  obtain ⟨ra, rc, h5, hB, hn, hx⟩ := h.c5
  exact ⟨(ho 0 (by omega)).trans h.c0, ⟨x1, (ho 1 (by omega)).trans h1⟩, ⟨x2, (ho 2 (by omega)).trans h2⟩, (ho 3 (by omega)).trans h.c3, (ho 4 (by omega)).trans h.c4, ⟨ra, rc, (ho 5 (by omega)).trans h5, hr ra ⟨hB, hx⟩, hn, hx⟩,
    World.cell?_setCell_same _ _ _ h.c6, (ho 7 (by omega)).trans h.c7, hw, (ho 265 (by omega)).trans h.cs, hs, h.ne, h.nr⟩
set_option maxRecDepth 100000 in
theorem PgAt.setLock (h : PgAt w p b sm rb N d l q) (x : Int) : PgAt (w.setCell ⟨p, 7, none⟩ (.int .i32 x)) p b sm rb N d x q := by
  obtain ⟨ho, hw, hs, hr⟩ := h.set 7 (.int .i32 x) (by omega)
  obtain ⟨x1, h1⟩ := h.c1
  obtain ⟨x2, h2⟩ := h.c2
  obtain ⟨ra, rc, h5, hB, hn, hx⟩ := h.c5
  exact ⟨(ho 0 (by omega)).trans h.c0, ⟨x1, (ho 1 (by omega)).trans h1⟩, ⟨x2, (ho 2 (by omega)).trans h2⟩, (ho 3 (by omega)).trans h.c3, (ho 4 (by omega)).trans h.c4, ⟨ra, rc, (ho 5 (by omega)).trans h5, hr ra ⟨hB, hx⟩, hn, hx⟩,
    (ho 6 (by omega)).trans h.c6, World.cell?_setCell_same _ _ _ h.c7, hw, (ho 265 (by omega)).trans h.cs, hs, h.ne, h.nr⟩
set_option maxRecDepth 100000 in
theorem PgAt.drew (h : PgAt w p b sm rb N d l q) : PgAt w.drew p b sm rb N d l q := h.turn0 (Turn.refl [] w).drew
set_option maxRecDepth 100000 in
/-- The bitmap turns. -/
theorem PgAt.setWords (h : PgAt w p b sm rb N d l q) (hT : Turn [p] w w') (hc : ∀ o, o < 9 ∨ o = 265 → w'.cell? ⟨p, o, none⟩ = w.cell? ⟨p, o, none⟩) {T : Nat → Nat} {q' : Pg} (hW : WordsAt w' p 9 T) (hb : ∀ n, n < 16384 → bit T n = (q'.rd && q'.tk N n))
    (e1 : q'.dead = q.dead) (e2 : q'.c = q.c) (e3 : q'.root = q.root) (e4 : q'.si = q.si) (e5 : q'.u = q.u) : PgAt w' p b sm rb N d l q' := by
  obtain ⟨x1, h1⟩ := h.c1
  obtain ⟨x2, h2⟩ := h.c2
  obtain ⟨ra, rc, h5, hB, hn, hx⟩ := h.c5
  obtain ⟨n, D, hn', hM, hS⟩ := h.since
  exact ⟨(hc 0 (by omega)).trans h.c0, ⟨x1, (hc 1 (by omega)).trans h1⟩, ⟨x2, (hc 2 (by omega)).trans h2⟩, by rw [e1]; exact (hc 3 (by omega)).trans h.c3, by rw [e2]; exact (hc 4 (by omega)).trans h.c4,
    ⟨ra, rc, by rw [e3]; exact (hc 5 (by omega)).trans h5, by rw [e3]; exact hB.turn hT (fun x h1 h2 hm => h.nr (by rw [← hx x h1 h2]; exact (List.mem_singleton.1 hm).symm)), hn, by rw [e3]; exact hx⟩,
    (hc 6 (by omega)).trans h.c6, (hc 7 (by omega)).trans h.c7, ⟨T, hW, hb⟩, (hc 265 (by omega)).trans h.cs,
    ⟨n, D, by rw [e5]; exact hn', ownsMap_block hM (hT.block sm h.lts (fun hm => h.ne (List.mem_singleton.1 hm).symm)), by rw [e4]; exact hS⟩, h.ne, h.nr⟩

end Go.Proofs.YthgpjkcgccdldaaGreatDoor

namespace Go.Proofs.YthgpjkcgccdldaaGreatDoor
open Go.RowKit Go.Maps

/-- The blocks of a pager and of its disk are apart. -/
structure Apart (p b m sm rb : Nat) : Prop where
  pb : p ≠ b
  pm : p ≠ m
  sb : sm ≠ b
  smm : sm ≠ m
  rbb : rb ≠ b
  rbm : rb ≠ m
  sr : sm ≠ rb

def fB (s : St) (n : Nat) : Nat → Nat := fun i => (s.f n).getD i 0
set_option maxRecDepth 100000 in
theorem fB_list (s : St) (G : s.Good) (n : Nat) : bytesOf 512 (fB s n) = s.f n := by
  have := bytesOf_list (s.f n)
  rw [G.len n] at this
  exact this

set_option maxRecDepth 100000 in
set_option maxHeartbeats 400000 in
theorem addw_any (b o : Nat) (x : Int) (w : World) (hc : w.cell? ⟨b, o, none⟩ = some (.int .i64 x)) (hz : w.frozen? ⟨b, o, none⟩ = false) :
    Calls Tryz.prog 46 #[.pointer (some ⟨b, o, none⟩), .int .i64 1] w fun e w' => e = .returned (.int .i64 (IntKind.i64.wrap (x + 1))) ∧ w' = w.setCell ⟨b, o, none⟩ (.int .i64 (IntKind.i64.wrap (x + 1))) := by
  have hadd := run_call_add (P := Tryz.prog) Tryz.func73 (by kernel_rfl) (by kernel_rfl) (by kernel_rfl) .i64 (by kernel_rfl) (y := 1) (s := IntKind.i64.wrap (x + 1)) hc hz rfl
  generalize IntKind.i64.wrap (x + 1) = y at *
  go_enter Tryz.func46, Tryz.ntmps46
  go_wp2
  go_ret
  exact ⟨rfl, rfl⟩

set_option maxRecDepth 100000 in
set_option maxHeartbeats 400000 in
theorem store_any (b o : Nat) (x y : Int) (w : World) (hc : w.cell? ⟨b, o, none⟩ = some (.int .i64 x)) (hz : w.frozen? ⟨b, o, none⟩ = false) :
    Calls Tryz.prog 36 #[.pointer (some ⟨b, o, none⟩), .int .i64 y] w fun e w' => e = .returned (.tuple #[]) ∧ w' = w.setCell ⟨b, o, none⟩ (.int .i64 y) := by
  have hst := run_call_store (P := Tryz.prog) Tryz.func63 (by kernel_rfl) (by kernel_rfl) (by kernel_rfl) (by kernel_rfl) (k := .i64) (y := y) hc hz
  go_enter Tryz.func36, Tryz.ntmps36
  go_wp2
  go_end0
  exact ⟨rfl, rfl⟩

set_option maxRecDepth 100000 in
set_option maxHeartbeats 400000 in
/-- Disk.Read, of a block that there is. -/
theorem dread_ok (b m : Nat) (s : St) (G : s.Good) (hd : s.dead = false) (j : Nat) (hj : j < s.n) (w : World) (hD : DiskAt w b m s) : Calls Tryz.prog 84 #[.pointer (some ⟨b, 0, none⟩), .int .i64 (j : Nat)] w fun e w' =>
    e = .returned (.tuple #[.slice (some ⟨w.heap.size, 0, none⟩) 512 512, .int .i64 0]) ∧ RowAt w' w.heap.size 512 (fB s j) ∧ Turn [] w w' := by
  have hnot : ∀ (x : Bool) (w : World), (Op.unary .not (.bool x)).run Tryz.prog w = .ok (.bool (!x)) w := fun _ _ => rfl
  have h3 := hD.c3
  have h1 := hD.c1
  have HD := hide hD
  clear hD
  rw [hd] at h3
  have ho : s.out j = false := by unfold St.out; simp; omega
  have HO := hide ho
  have hlook := look w b m s HD.out G.n1 j (by omega)
  have hlen := G.len j
  have hz := zero93c
  have hst := run_storeCells_new (P := Tryz.prog) w 185 zcells (bcells (s.f j)) (by rw [bcells_size, hlen]; exact info93) (by rw [bcells_size, hlen]; show (bcells zeros).size = 512; rw [bcells_size, zeros_length]) (bcells_one _)
  have hsz : (bcells (s.f j)).size = 512 := by rw [bcells_size, hlen]
  have HL := hide hlen
  clear hd ho hlen hj
  go_enter Tryz.func84, Tryz.ntmps84
  go_wp2_with fail
  refine (has_any b m s j w HD.out).mono ?_
  rintro e w1 ⟨rfl, rfl⟩
  rw [HO.out]
  go_wp2_with fail
  go_ret2
  refine ⟨rfl, ?_, (Turn.refl _ _).alloc _⟩
  have hb := bytes_new w1 (s.f j) 185
  refine ⟨fun i hi => ?_, fun o => World.frozen?_alloc_at _ _ _ _ rfl, by simp⟩
  have := hb.cell0 (i := i) (by rw [HL.out]; exact hi)
  unfold fB
  rw [List.getD_eq_getElem?_getD, List.getElem?_eq_getElem (by rw [HL.out]; exact hi)]
  exact this

set_option maxRecDepth 100000 in
set_option maxHeartbeats 400000 in
theorem pread_ok (p b m sm rb N : Nat) (d l : Int) (q : Pg) (A : Apart p b m sm rb) (s : St) (G : s.Good) (hd : s.dead = false) (j : Nat) (hj : j < s.n) (w : World) (hD : DiskAt w b m s) (hP : PgAt w p b sm rb N d l q) :
    Calls Tryz.prog 58 #[.pointer (some ⟨p, 0, none⟩), .int .i64 (j : Nat)] w fun e w' =>
      e = .returned (.tuple #[.slice (some ⟨w.heap.size, 0, none⟩) 512 512, .int .i64 0]) ∧ RowAt w' w.heap.size 512 (fB s j) ∧ PgAt w' p b sm rb N d l q ∧ DiskAt w' b m s ∧ Wturn p 0 w w' ∧ (∀ o, 9 ≤ o → w'.cell? ⟨p, o, none⟩ = w.cell? ⟨p, o, none⟩) := by
  have h0 := hP.c0
  have HD := hide hD
  have HP := hide hP
  have hpl := hP.lt
  clear hD hP
  go_enter Tryz.func58, Tryz.ntmps58
  go_wp2_with fail
  refine (dread_ok b m s G hd j hj w HD.out).mono ?_
  rintro e w1 ⟨rfl, hR1, hT1⟩
  have HP1 := hide (HP.out.turn0 hT1)
  obtain ⟨x, h1⟩ := HP1.out.c1
  have hz := HP1.out.fz 1
  have HR1 := hide hR1
  have HD1 := hide (HD.out.turn hT1 (by simp) (by simp))
  clear hR1
  go_wp2_with fail
  refine (addw_any p 1 x w1 h1 hz).mono ?_
  rintro e w2 ⟨rfl, rfl⟩
  go_wp2_with fail
  go_ret2
  refine ⟨rfl, HR1.out.other (Nat.ne_of_gt hpl) _ _, HP1.out.setReads _, HD1.out.turn ((Turn.refl [p] w1).setCell (List.mem_singleton.2 rfl) _ _) (by simp; exact Ne.symm A.pb) (by simp; exact Ne.symm A.pm), ?_, ?_⟩
  · have := (Wturn.refl p 0 w1).setCell 1 (.int .i64 (IntKind.i64.wrap (x + 1))) (by omega)
    exact ⟨((hT1.mono (by simp)).trans this.turn), fun o ho => (this.out o ho).trans (hT1.cell (p := ⟨p, o, none⟩) hpl (by simp))⟩
  · intro o ho
    rw [World.cell?_setCell_other _ _ _ _ (off_ne (by omega))]
    exact hT1.cell (p := ⟨p, o, none⟩) hpl (by simp)

set_option maxRecDepth 100000 in
set_option maxHeartbeats 400000 in
theorem pwrite_any (p b m sm rb N : Nat) (d l : Int) (q : Pg) (A : Apart p b m sm rb) (s : St) (G : s.Good) (j : Int) (g : Nat) (L : List Nat) (hL : L.length = 512) (w : World) (hB : BytesAt w (some ⟨g, 0, none⟩) L) (hD : DiskAt w b m s) (hP : PgAt w p b sm rb N d l q) :
    Calls Tryz.prog 162 #[.pointer (some ⟨p, 0, none⟩), .int .i64 j, .slice (some ⟨g, 0, none⟩) 512 512] w fun e w' =>
      e = .returned (.int .i64 (s.writeErr j 512)) ∧ PgAt w' p b sm rb N d l { q with dead := if s.writeErr j 512 = 0 then q.dead else true } ∧ DiskAt w' b m (s.write j L) ∧ Turn [p, b, m] w w' ∧ (∀ o, 9 ≤ o → w'.cell? ⟨p, o, none⟩ = w.cell? ⟨p, o, none⟩) := by
  have h0 := hP.c0
  have HD := hide hD
  have HP := hide hP
  have HB := hide hB
  have hpl := hP.lt
  have hpS : p ∉ [b, m] := by simp; exact ⟨A.pb, A.pm⟩
  have hw := write_at b m s G j (some ⟨g, 0, none⟩) 512 512 L hL (by unfold maxLen; omega) w hD hB
  have HW := hide hw
  clear hD hP hB hw
  generalize hE : s.writeErr j 512 = er at *
  by_cases he : er = 0
  · subst he
    go_enter Tryz.func162, Tryz.ntmps162
    go_wp2_with fail
    refine HW.out.mono ?_
    rintro e w1 ⟨rfl, hD1, hT1⟩
    have HD1 := hide hD1
    have HP1 := hide (HP.out.turn hT1 hpS (by simp; exact ⟨A.sb, A.smm⟩) (by simp; exact ⟨A.rbb, A.rbm⟩))
    obtain ⟨x, h2⟩ := HP1.out.c2
    have hz := HP1.out.fz 2
    clear hD1
    go_wp2_with fail
    refine (addw_any p 2 x w1 h2 hz).mono ?_
    rintro e w2 ⟨rfl, rfl⟩
    go_wp2_with fail
    go_ret
    refine ⟨rfl, ?_, HD1.out.turn ((Turn.refl [p] w1).setCell (List.mem_singleton.2 rfl) _ _) (by simp; exact Ne.symm A.pb) (by simp; exact Ne.symm A.pm), (hT1.mono (by simp)).setCell (by simp) _ _, ?_⟩
    · exact HP1.out.setWrites _
    · intro o ho
      rw [World.cell?_setCell_other _ _ _ _ (off_ne (by omega))]
      exact hT1.cell (p := ⟨p, o, none⟩) hpl hpS
  · have t1 : (er != 0) = true := by rw [bne_iff_ne]; exact he
    go_enter Tryz.func162, Tryz.ntmps162
    go_wp2_with fail
    refine HW.out.mono ?_
    rintro e w1 ⟨rfl, hD1, hT1⟩
    have HD1 := hide hD1
    have HP1 := hide (HP.out.turn hT1 hpS (by simp; exact ⟨A.sb, A.smm⟩) (by simp; exact ⟨A.rbb, A.rbm⟩))
    have h3 := HP1.out.c3
    have hz := HP1.out.fz 3
    clear hD1
    go_wp2_with fail
    go_ret
    refine ⟨rfl, ?_, HD1.out.turn ((Turn.refl [p] w1).setCell (List.mem_singleton.2 rfl) _ _) (by simp; exact Ne.symm A.pb) (by simp; exact Ne.symm A.pm), (hT1.mono (by simp)).setCell (by simp) _ _, ?_⟩
    · exact HP1.out.setDead true
    · intro o ho
      rw [World.cell?_setCell_other _ _ _ _ (off_ne (by omega))]
      exact hT1.cell (p := ⟨p, o, none⟩) hpl hpS

set_option maxRecDepth 100000 in
set_option maxHeartbeats 800000 in
/-- isDead, of a pager and a disk that live. -/
theorem isDead_no (p b m sm rb N : Nat) (d l : Int) (q : Pg) (s : St) (hq : q.dead = false) (hd : s.dead = false) (w : World) (hD : DiskAt w b m s) (hP : PgAt w p b sm rb N d l q) (A : Apart p b m sm rb) :
    Calls Tryz.prog 89 #[.pointer (some ⟨p, 0, none⟩)] w fun e w' => e = .returned (.bool false) ∧ PgAt w' p b sm rb N d l q ∧ DiskAt w' b m s ∧ Turn [p] w w' := by
  have h0 := hP.c0
  have h3 := hP.c3
  have f3 := hP.fz 3
  rw [hq] at h3
  have HD := hide hD
  have HP := hide hP
  have HQ := hide hq
  have HDd := hide (fun w' (h : DiskAt w' b m s) => dead_any b m s w' h)
  rw [hd] at HDd
  clear hD hP hq hd
  go_enter Tryz.func89, Tryz.ntmps89
  go_wp2_with fail
  refine (HDd.out _ HD.out).mono ?_
  rintro e w1 ⟨rfl, rfl⟩
  go_wp2_with fail
  go_ret
  refine ⟨rfl, ?_, HD.out.turn ((Turn.refl [p] w1).setCell (List.mem_singleton.2 rfl) _ _) (by simp; exact Ne.symm A.pb) (by simp; exact Ne.symm A.pm), (Turn.refl [p] w1).setCell (List.mem_singleton.2 rfl) _ _⟩
  have h := HP.out.setDead false
  rw [show { q with dead := false } = q by have := HQ.out; cases q; simp at this; simp [this]] at h
  exact h

end Go.Proofs.YthgpjkcgccdldaaGreatDoor

namespace Go.Proofs.YthgpjkcgccdldaaGreatDoor
open Go.RowKit Go.Maps

set_option maxRecDepth 100000 in
theorem word_back (T : Nat → Nat) (hT : ∀ i, T i < 18446744073709551616) (b j : Nat) (hj : j < 64) : wordAt (bytesOf 512 (mapB T b)) j = T (64 * b + j) := by
  have e : ((bytesOf 512 (mapB T b)).drop (8 * j)).take 8 = bytesOf 8 fun i => putN (fun _ => 0) 0 8 (T (64 * b + j)) (0 + i) := by
    apply List.ext_getElem
    · simp [bytesOf]; omega
    · intro i h1 h2
      have hi : i < 8 := by simpa [bytesOf] using h2
      simp only [bytesOf, List.getElem_take, List.getElem_drop, List.getElem_map, List.getElem_range]
      unfold mapB putN
      rw [if_pos (by omega), show 64 * b + (8 * j + i) / 8 = 64 * b + j by omega, show (8 * j + i) % 8 = i by omega, show 0 + i - 0 = i by omega]
  unfold wordAt
  rw [e, leNum_put]
  exact Nat.mod_eq_of_lt (hT _)

set_option maxRecDepth 100000 in
theorem mapB_lt (T : Nat → Nat) (i : Nat) : ∀ x, mapB T i x < 256 := fun x => Nat.mod_lt _ (by decide)

set_option maxRecDepth 100000 in
theorem pageB_lt (l : List Nat) (hb : ∀ x ∈ l, x < 256) : ∀ i, pageB l i < 256 := by
  intro i
  unfold pageB
  split
  · exact Nat.mod_lt _ (by decide)
  · split
    · rename_i h
      rw [List.getD_eq_getElem?_getD, List.getElem?_eq_getElem (by omega)]
      exact hb _ (List.getElem_mem _)
    · omega

set_option maxRecDepth 100000 in
theorem page_len (l : List Nat) (hl : l.length ≤ 496) : pageLen (pageB l) = l.length := by
  have := leNum_put (fun _ => 0) 0 2 l.length
  have e : (bytesOf 2 fun i => putN (fun _ => 0) 0 2 l.length (0 + i)) = bytesOf 2 (pageB l) := bytesOf_congr fun i hi => by
    unfold putN pageB
    rw [if_pos (by omega), if_pos hi, show 0 + i - 0 = i by omega]
  rw [e] at this
  unfold pageLen
  rw [this, Nat.mod_eq_of_lt (show l.length < 2 ^ (8 * 2) by omega), Nat.min_eq_left hl]

set_option maxRecDepth 100000 in
theorem page_bytes (l : List Nat) : (bytesOf l.length fun i => pageB l (16 + i)) = l := by
  have e : (bytesOf l.length fun i => pageB l (16 + i)) = bytesOf l.length fun i => l.getD i 0 := bytesOf_congr fun i hi => by
    unfold pageB
    rw [if_neg (by omega), if_pos (by omega), Nat.add_sub_cancel_left]
  rw [e]
  exact bytesOf_list l

/-- What the disk of a pager says: c Commits were done; the root; the pages. -/
structure Laid (s : St) (c : Nat) (root : List Nat) (K : Nat → Bool) : Prop where
  good : s.Good
  n64 : 64 ≤ s.n
  n16 : s.n ≤ 16384
  byte : ∀ i x, x ∈ s.f i → x < 256
  num : ∀ i, i < 2 → hdNum (fB s i) < 9223372036854775808
  ck : c ≤ s.k
  zero : c = 0 → root = [] ∧ hdC (fB s 0) = 0 ∧ hdC (fB s 1) = 0
  some : 0 < c → hdC (fB s (c % 2)) = c ∧ hdR (fB s (c % 2)) = root ∧ hdC (fB s ((c + 1) % 2)) < c
  map : ∃ T, (∀ i, T i < 18446744073709551616) ∧ (∀ j, j < mbs s.n → s.f (2 + c % 2 * mbs s.n + j) = bytesOf 512 (mapB T j)) ∧ ∀ n, fp s.n ≤ n → n < s.n → bit T n = K n
  kr : ∀ n, K n = true → fp s.n ≤ n ∧ n < s.n
  rl : root.length ≤ 64
  rbytes : ∀ x ∈ root, x < 256

set_option maxRecDepth 100000 in
theorem fB_lt {s : St} (h : ∀ i x, x ∈ s.f i → x < 256) (n : Nat) : ∀ i, fB s n i < 256 := by
  intro i
  unfold fB
  rw [List.getD_eq_getElem?_getD]
  by_cases hi : i < (s.f n).length
  · rw [List.getElem?_eq_getElem hi]; exact h n _ (List.getElem_mem hi)
  · rw [List.getElem?_eq_none (by omega)]; decide

set_option maxRecDepth 100000 in
theorem fB_new (n i : Nat) : fB (St.new n) i = fun _ => 0 := by
  funext j
  show zeros.getD j 0 = 0
  unfold zeros
  rw [List.getD_eq_getElem?_getD, List.getElem?_replicate]
  split <;> rfl

set_option maxRecDepth 100000 in
theorem Laid.new {n : Nat} (h1 : 64 ≤ n) (h2 : n ≤ 16384) : Laid (St.new n) 0 [] (fun _ => false) := by
  refine ⟨St.Good.new (by omega), h1, h2, ?_, ?_, Nat.zero_le _, ?_, fun h => absurd h (by omega), ⟨fun _ => 0, fun _ => by show (0 : Nat) < 18446744073709551616; decide, fun j _ => ?_, fun n _ _ => by unfold bit; simp⟩, fun n h => by simp at h, by simp, by simp⟩
  · intro i x hx
    have : x = 0 := List.eq_of_mem_replicate (show x ∈ List.replicate 512 0 from hx)
    omega
  · intro i _; rw [fB_new, head_zero.1]; decide
  · intro _; rw [fB_new, fB_new]; exact ⟨rfl, head_zero.2, head_zero.2⟩
  · show zeros = _
    apply List.ext_getElem
    · rw [zeros_length, bytesOf_length]
    · intro i h1 h2
      have e : zeros[i]'h1 = 0 := by unfold zeros; exact List.getElem_replicate _
      rw [e]
      simp [bytesOf, mapB]

set_option maxRecDepth 100000 in
theorem eq_nil (w : World) : Sem.run Tryz.prog (binOp .eql 68 (.slice none 0 0) (.slice none 0 0)) w = .ok (.bool true) w := by kernel_rfl
set_option maxRecDepth 100000 in
theorem eq_some (x : Addr) (n c : Nat) (w : World) : Sem.run Tryz.prog (binOp .eql 68 (.slice (some x) n c) (.slice none 0 0)) w = .ok (.bool false) w := by kernel_rfl

set_option maxRecDepth 100000 in
set_option maxHeartbeats 800000 in
theorem clone_any (a : Option Addr) (cap : Nat) (l : List Nat) (n : Nat) (hn : l.length = n) (hl : n ≤ 1000) (hnil : a = none → cap = 0) (w : World) (hB : BytesAt w a l) :
    Calls Tryz.prog 88 #[.slice a n cap] w fun e w' => ∃ a' c', e = .returned (.slice a' n c') ∧ BytesAt w' a' l ∧ (a' = none → c' = 0) ∧ (∀ x, a' = some x → w.heap.size ≤ x.block) ∧ Turn [] w w' := by
  have HN := hide hn
  have he1 := eq_nil
  have he2 := eq_some
  cases a with
  | none =>
    obtain rfl := hnil rfl
    have hl0 : l = [] := by
      rcases hB with h | ⟨_, _, e, _⟩
      · exact h
      · cases e
    subst hl0
    obtain rfl : 0 = n := hn
    clear hB
    go_enter Tryz.func88, Tryz.ntmps88
    go_wp2
    go_ret
    exact ⟨none, 0, rfl, .inl rfl, fun _ => rfl, by simp, Turn.refl _ _⟩
  | some x =>
    have hown : (w.alloc (.cells #[] 5)).ownsRow w.heap.size 5 1 (.slice (some ⟨w.heap.size, 0, none⟩) 0 0) 0 (([] : List Nat).map byteCell) := World.ownsRow_made w #[] 0 (Nat.le_refl _) (Nat.zero_le _) rfl
    have HOWN := hide hown
    have HBA := hide (hB.turn ((Turn.refl [] w).alloc (.cells #[] 5)) (by simp))
    clear hown hB hn hnil
    go_enter Tryz.func88, Tryz.ntmps88
    go_wp2_with (at_builtin; refine append_bytes rfl _ _ rfl w.heap.size (.slice (some ⟨w.heap.size, 0, none⟩) 0 0) 0 [] rfl HOWN.out (some x) n cap l rfl HN.out (by simp) HBA.out (by omega) (by simp) ?_; intro v w3 hown3 hgrow3 hnil3)
    have hvn : v ≠ .slice none 0 0 := by
      intro e
      have := hnil3
      simp [e] at this
    obtain ⟨g, cg, hv, _, hg, hgl, hbg, _⟩ := own_some (l := l) (by simpa using hown3) hvn
    have hT3 : Turn [] w w3 := ((Turn.refl [] w).alloc _).grown hgrow3 (by intro k hk; right; simp [Value.ownBlock] at hk; omega)
    rw [HN.out] at hv
    rw [hv]
    have HB3 := hide hbg
    clear hv hown3 hgrow3 hbg HOWN HBA hnil3 hvn
    go_wp2_with fail
    go_ret
    exact ⟨some ⟨g, 0, none⟩, cg, rfl, HB3.out, by simp, fun x hx => by obtain rfl := Option.some.inj hx; exact hg, hT3⟩

set_option maxRecDepth 100000 in
set_option maxHeartbeats 800000 in
theorem root_any (p b sm rb N : Nat) (d l : Int) (q : Pg) (hr : q.root.length ≤ 64) (w : World) (hP : PgAt w p b sm rb N d l q) :
    Calls Tryz.prog 62 #[.pointer (some ⟨p, 0, none⟩)] w fun e w' => ∃ a' c', e = .returned (.slice a' q.root.length c') ∧ BytesAt w' a' q.root ∧ (a' = none → c' = 0) ∧ Turn [] w w' := by
  obtain ⟨ra, rc, h5, hB, hn, _⟩ := hP.c5
  have HC := hide (clone_any ra rc q.root q.root.length rfl (by omega) hn w hB)
  clear hB hP
  generalize q.root.length = n at *
  go_enter Tryz.func62, Tryz.ntmps62
  go_wp2_with fail
  refine HC.out.mono ?_
  rintro e w1 ⟨a', c', rfl, hB1, hn1, _, hT1⟩
  have HB1 := hide hB1
  clear hB1
  go_wp2_with fail
  go_ret
  exact ⟨a', c', rfl, HB1.out, hn1, hT1⟩

end Go.Proofs.YthgpjkcgccdldaaGreatDoor

namespace Go.Proofs.YthgpjkcgccdldaaGreatDoor
open Go.RowKit Go.Maps

set_option maxRecDepth 100000 in
theorem bit_addW (T : Nat → Nat) (b : Nat) (l : List Nat) (k : Nat) : bit (addW T b l 64) k = if 4096 * b ≤ k ∧ k < 4096 * b + 4096 then (bit T k || (wordAt l (k / 64 - 64 * b)).testBit (k % 64)) else bit T k := by
  unfold bit addW
  by_cases h : 4096 * b ≤ k ∧ k < 4096 * b + 4096
  · rw [if_pos (by omega), if_pos h, Nat.testBit_or]
  · rw [if_neg (by omega), if_neg h]

/-- Where a slot's map begins. -/
theorem slot_map (c : Nat) {N : Nat} (h1 : 64 ≤ N) (h2 : N ≤ 16384) : 2 + c % 2 * mbs N + mbs N ≤ fp N := by
  obtain ⟨_, _, _, _, _, e, _⟩ := fp_bd h1 h2
  have : c % 2 = 0 ∨ c % 2 = 1 := by omega
  rcases this with h | h
  · rw [h]; omega
  · rw [h]; omega

/-- The pages that the first blocks of the map tell of. -/
def upK (K : Nat → Bool) (j n : Nat) : Bool := decide (n < 4096 * j) && K n

set_option maxRecDepth 100000 in
set_option maxHeartbeats 4000000 in
theorem rfm_any (p b m sm rb : Nat) (d l : Int) (q : Pg) (A : Apart p b m sm rb) (s : St) (L : Laid s q.c q.root q.K) (hd : s.dead = false) (hrd : q.rd = false) (hsi : ∀ n, q.si n = 0) (w : World) (hD : DiskAt w b m s) (hP : PgAt w p b sm rb s.n d l q) :
    Calls Tryz.prog 154 #[.pointer (some ⟨p, 0, none⟩)] w fun e w' => e = .returned (.tuple #[]) ∧ PgAt w' p b sm rb s.n d l { q with rd := true } ∧ DiskAt w' b m s ∧ Turn [p] w w' := by
  have h0 := hP.c0
  have h4 := hP.c4
  have hn1 := L.n64
  have hn2 := L.n16
  have hcb : q.c < 1000000000 := by have := L.ck; have := L.good.k1; omega
  obtain ⟨T, hW, hbits⟩ := hP.wd
  have HW := hide hW
  have HD := hide hD
  have HP := hide hP
  have HRd := hide hrd
  have HBits := hide hbits
  have HL := hide L
  have HF := hide (fun w' => firstPage_any s.n (by omega) w')
  have HS := hide (fun w' => slotOf_any q.c hcb w')
  have HM := hide (fun w' => mapStart_any (q.c % 2) s.n (by omega) (by omega) w')
  have HMb := hide (fun w' => mapBlocks_any s.n (by omega) w')
  rw [show 2 + 2 * mbs s.n = fp s.n from rfl] at HF
  obtain ⟨f4, f10, fN, m1, m4, fe, fc⟩ := fp_bd hn1 hn2
  have hsl := slot_map q.c hn1 hn2
  obtain ⟨fr, hfr⟩ : ∃ fr, fr = 2 + q.c % 2 * mbs s.n := ⟨_, rfl⟩
  rw [← hfr] at HM hsl
  have HFr := hide hfr
  have hdd := hide hd
  have hKe : upK q.K (mbs s.n) = q.K := by
    funext n
    unfold upK
    by_cases h : n < 4096 * mbs s.n
    · rw [decide_eq_true h]; rfl
    · rw [decide_eq_false h]
      cases hk : q.K n with
      | false => rfl
      | true => have := (L.kr n hk).2; omega
  have HKe := hide hKe
  clear hW hD hP hrd hbits L hd hfr hKe
  generalize hc : q.c = c at *
  have HC := hide hc
  go_enter Tryz.func154, Tryz.ntmps154
  go_wp2_with fail
  refine (blocks_any b m s w HD.out).mono ?_
  rintro e w1 ⟨rfl, rfl⟩
  go_wp2_with fail
  go_region_with (first
    | (go_at_call 125; refine (HF.out _).mono ?_; rintro e w2 ⟨rfl, rfl⟩)
    | (go_at_call 190; refine (takeAll_any p 9 (fp s.n) s.n T (by omega) (by omega) _ HW.out.drew).mono ?_; rintro e w2 ⟨rfl, hW2, hT2⟩))
  obtain ⟨T1, hW2, hb1⟩ := hW2
  have hT02 : Turn [p] w1 w2 := (Turn.refl [p] w1).drew.trans hT2.turn
  have hsi' : ∀ n, (q.si n == 1) = false := fun n => by rw [hsi n]; rfl
  have HP2 := hide (HP.out.drew.setWords (q' := { q with rd := true, K := upK q.K 0 }) hT2.turn (fun o ho => hT2.out o (by omega)) hW2 (fun n hn => by
    rw [hb1 n hn, HBits.out n hn, HRd.out]
    unfold Pg.tk upK
    simp [hsi n]) rfl rfl rfl rfl rfl)
  have HD2 := hide (HD.out.drew.turn hT2.turn (by simp; exact Ne.symm A.pb) (by simp; exact Ne.symm A.pm))
  have h42 := HP2.out.c4
  clear hW2 hb1 hT2
  have h42' : w2.cell? ⟨p, 4, none⟩ = some (.int .i64 (c : Nat)) := by rw [← hc]; exact h42
  clear h42 HW HP HD h4 h0
  go_wp2_with fail
  refine (load_any p 4 _ w2 h42').mono ?_
  rintro e w3 ⟨rfl, rfl⟩
  go_wp2_with fail
  refine (HS.out _).mono ?_
  rintro e w3 ⟨rfl, rfl⟩
  go_wp2_with fail
  refine (HM.out _).mono ?_
  rintro e w3 ⟨rfl, rfl⟩
  go_wp2_with fail
  refine (HMb.out _).mono ?_
  rintro e w3 ⟨rfl, rfl⟩
  go_wp2_with fail
  go_loopw [28] (fun i wr => ∃ j : Nat, j ≤ mbs s.n ∧ i = .int .i64 (j : Nat) ∧ PgAt wr p b sm rb s.n d l { q with rd := true, K := upK q.K j } ∧ DiskAt wr b m s ∧ Turn [p] w1 wr) (fun i _ => mbs s.n - (intOf i).toNat)
  case atStart => exact ⟨0, Nat.zero_le _, rfl, HP2.out, HD2.out, hT02⟩
  case round =>
    clear HP2 HD2 hT02 h42'
    obtain ⟨j, hj, rfl, hP3, hD3, hT3⟩ := hrel
    have HP3 := hide hP3
    have HD3 := hide hD3
    have hpl := hP3.lt
    clear hP3 hD3
    by_cases hlt : j < mbs s.n
    · have hn' : fr + j < s.n := by omega
      go_wp2_with fail
      have HRd5 := hide (pread_ok p b m sm rb s.n d l _ A s HL.out.good hdd.out (fr + j) hn' wr HD3.out HP3.out)
      rw [show ((fr + j : Nat) : Int) = (fr : Int) + (j : Int) by omega] at HRd5
      refine HRd5.out.mono ?_
      rintro e w5 ⟨rfl, hR5, hP5, hD5, hT5, _⟩
      have HR5 := hide hR5
      have HP5 := hide hP5
      have HD5 := hide hD5
      obtain ⟨T2, hW5, hb5⟩ := hP5.wd
      have HW5 := hide hW5
      have HB5 := hide hb5
      clear hR5 hP5 hD5 hW5 hb5 HRd5
      go_wp2_with fail
      refine (addBlock_any p 9 j wr.heap.size (by omega) T2 (bytesOf 512 (fB s (fr + j))) (bytesOf_length _ _) (bytesOf_lt (fB_lt HL.out.byte _)) (by omega) w5 HW5.out HR5.out.bytes0).mono ?_
      rintro e w6 ⟨rfl, hW6, hT6⟩
      obtain ⟨Td, hTd, hfd, hbd⟩ := HL.out.map
      have HP6 := hide (HP5.out.setWords (q' := { q with rd := true, K := upK q.K (j + 1) }) hT6.turn (fun o ho => hT6.out o (by omega)) hW6 (fun n hn => by
        rw [bit_addW, HB5.out n hn, fB_list s HL.out.good, HFr.out, hfd j hlt]
        unfold Pg.tk upK
        simp only [Bool.true_and, hsi']
        by_cases h1 : n < fp s.n
        · simp [h1]
        · by_cases h2 : s.n ≤ n
          · simp [h2]
          · by_cases h3 : 4096 * j ≤ n ∧ n < 4096 * j + 4096
            · rw [if_pos h3, word_back Td hTd _ _ (by omega), show 64 * j + (n / 64 - 64 * j) = n / 64 by omega]
              have hx := hbd n (by omega) (by omega)
              unfold bit at hx
              rw [hx, decide_eq_true (show n < 4096 * (j + 1) by omega), decide_eq_false (show ¬ n < 4096 * j by omega)]
              simp [h1, h2]
            · rw [if_neg h3]
              by_cases h5 : n < 4096 * j
              · rw [decide_eq_true h5, decide_eq_true (show n < 4096 * (j + 1) by omega)]
              · rw [decide_eq_false h5, decide_eq_false (show ¬ n < 4096 * (j + 1) by omega)]) rfl rfl rfl rfl rfl)
      have HD6 := hide (HD5.out.turn hT6.turn (by simp; exact Ne.symm A.pb) (by simp; exact Ne.symm A.pm))
      clear hW6
      go_wp2_with fail
      go_roundw
      case rel => exact ⟨j + 1, by omega, by go_num, HP6.out, HD6.out, (hT3.trans hT5.turn).trans hT6.turn⟩
      case measure => simp [intOf]; omega
    · obtain rfl : j = mbs s.n := by omega
      rw [HKe.out] at HP3
      go_wp2_with fail
      go_end0
      subst hc
      exact ⟨rfl, HP3.out, HD3.out, hT3⟩

set_option maxRecDepth 100000 in
set_option maxHeartbeats 4000000 in
theorem pslow_any (p b m sm rb : Nat) (q : Pg) (A : Apart p b m sm rb) (s : St) (L : Laid s q.c q.root q.K) (hd : s.dead = false) (hrd : q.rd = false) (hsi : ∀ n, q.si n = 0) (w : World) (hD : DiskAt w b m s) (hP : PgAt w p b sm rb s.n 0 0 q) :
    Calls Tryz.prog 77 #[.pointer (some ⟨p, 6, none⟩), .func (.func 154) #[.pointer (some ⟨p, 0, none⟩)] #[]] w fun e w' => e = .returned (.tuple #[]) ∧ PgAt w' p b sm rb s.n 1 0 { q with rd := true } ∧ DiskAt w' b m s ∧ Turn [p] w w' := by
  have h0 := hP.c6
  have h1 := hP.c7
  have f0 := hP.fz 6
  have f1 := hP.fz 7
  have hP1 := hP.setLock 1
  have hT1 := (Turn.refl [p] w).setCell (List.mem_singleton.2 rfl) 7 (.int .i32 1)
  have hD1 := hD.turn hT1 (by simp; exact Ne.symm A.pb) (by simp; exact Ne.symm A.pm)
  have HC := hide (rfm_any p b m sm rb 0 1 q A s L hd hrd hsi _ hD1 hP1)
  have hl := run_call_load (P := Tryz.prog) Tryz.func107 (by kernel_rfl) (by kernel_rfl) (by kernel_rfl) .u32 (by kernel_rfl) hP1.c6
  have hnot : ∀ (x : Bool) (w : World), (Op.unary .not (.bool x)).run Tryz.prog w = .ok (.bool (!x)) w := fun _ _ => rfl
  have HT1 := hide hT1
  clear hP hP1 hD hD1 hT1 L hd hrd hsi
  go_enter_defers Tryz.func77, Tryz.ntmps77
  go_wp2_with (first | (go_at_call 108; refine (Sm.lock_free ⟨p, 7, none⟩ _ (by go_simp) (by go_simp)).mono ?_; rintro e w' ⟨rfl, rfl⟩) | (go_at_call 154; refine HC.out.mono ?_; rintro e w2 ⟨rfl, hP2, hD2, hT2⟩) | (go_at_call 76; go_in))
  refine leaves_cons (f := 110) (args := #[.pointer (some ⟨p, 6, none⟩), .bool true]) (by simp) (by simp [go_sem]) ?_
  refine (Sm.store_deferred ⟨p, 6, none⟩ (.int .u32 0) .returning _ hP2.c6 (hP2.fz 6)).mono ?_
  rintro e u' w'' ⟨rfl, rfl, rfl⟩
  have hP3 := (hP2.setDone 1).drew
  have hT3 : Turn [p] w ((w2.setCell ⟨p, 6, none⟩ (.int .u32 1)).drew) := ((HT1.out.trans hT2).setCell (List.mem_singleton.2 rfl) _ _).drew
  have hD3 := (hD2.turn ((Turn.refl [p] w2).setCell (List.mem_singleton.2 rfl) 6 (.int .u32 1)) (by simp; exact Ne.symm A.pb) (by simp; exact Ne.symm A.pm)).drew
  refine leaves_cons (f := 109) (args := #[.pointer (some ⟨p, 7, none⟩)]) (by simp [settle]) (by simp [go_sem]) ?_
  refine (Sm.unlock_deferred ⟨p, 7, none⟩ _ _ hP3.c7 (hP3.fz 7)).mono ?_
  rintro e u' w'' ⟨rfl, rfl, rfl⟩
  have hP4 := hP3.setLock 0
  have hT4 : Turn [p] w _ := hT3.setCell (List.mem_singleton.2 rfl) 7 (.int .i32 0)
  have hD4 := hD3.turn ((Turn.refl [p] _).setCell (List.mem_singleton.2 rfl) 7 (.int .i32 0)) (by simp; exact Ne.symm A.pb) (by simp; exact Ne.symm A.pm)
  simp [Leaves, settle, results, Tryz.results77]
  exact ⟨hP4, hD4, hT4⟩

set_option maxRecDepth 100000 in
set_option maxHeartbeats 1600000 in
theorem pdo_first (p b m sm rb : Nat) (q : Pg) (A : Apart p b m sm rb) (s : St) (L : Laid s q.c q.root q.K) (hd : s.dead = false) (hrd : q.rd = false) (hsi : ∀ n, q.si n = 0) (w : World) (hD : DiskAt w b m s) (hP : PgAt w p b sm rb s.n 0 0 q) :
    Calls Tryz.prog 50 #[.pointer (some ⟨p, 6, none⟩), .func (.func 154) #[.pointer (some ⟨p, 0, none⟩)] #[]] w fun e w' => e = .returned (.tuple #[]) ∧ PgAt w' p b sm rb s.n 1 0 { q with rd := true } ∧ DiskAt w' b m s ∧ Turn [p] w w' := by
  have HC := hide (pslow_any p b m sm rb q A s L hd hrd hsi w hD hP)
  have hl := run_call_load (P := Tryz.prog) Tryz.func107 (by kernel_rfl) (by kernel_rfl) (by kernel_rfl) .u32 (by kernel_rfl) hP.c6
  have hnot : ∀ (x : Bool) (w : World), (Op.unary .not (.bool x)).run Tryz.prog w = .ok (.bool (!x)) w := fun _ _ => rfl
  clear hP hD L hd hrd hsi
  go_enter Tryz.func50, Tryz.ntmps50
  go_wp2_with (first | (go_at_call 77; refine HC.out.mono ?_; rintro e w' ⟨rfl, hP2, hD2, hT2⟩; have HP2 := hide hP2; have HD2 := hide hD2; clear hP2 hD2) | (go_at_call 76; go_in))
  go_end0
  exact ⟨rfl, HP2.out, HD2.out, hT2⟩

set_option maxRecDepth 100000 in
set_option maxHeartbeats 1600000 in
theorem pdo_done (a : Addr) (fv : Value) (w : World) (h0 : w.cell? a = some (.int .u32 1)) :
    Calls Tryz.prog 50 #[.pointer (some a), fv] w fun e w' => e = .returned (.tuple #[]) ∧ w' = w := by
  have hl := run_call_load (P := Tryz.prog) Tryz.func107 (by kernel_rfl) (by kernel_rfl) (by kernel_rfl) .u32 (by kernel_rfl) h0
  have hnot : ∀ (x : Bool) (w : World), (Op.unary .not (.bool x)).run Tryz.prog w = .ok (.bool (!x)) w := fun _ _ => rfl
  go_enter Tryz.func50, Tryz.ntmps50
  go_wp2
  go_end0
  exact ⟨rfl, rfl⟩

/-- The once's word. -/
def Pg.word (q : Pg) : Int := if q.rd = true then 1 else 0

/-- A pager and its disk, in memory, in good order. -/
structure PAt (w : World) (p b m sm rb : Nat) (s : St) (q : Pg) : Prop where
  disk : DiskAt w b m s
  pg : PgAt w p b sm rb s.n q.word 0 q
  laid : Laid s q.c q.root q.K
  apart : Apart p b m sm rb
  s1 : ∀ n, q.si n = 1 → q.K n = false ∧ fp s.n ≤ n ∧ n < s.n
  s2 : ∀ n, q.si n = 2 → q.K n = true
  s3 : ∀ n, q.si n ≤ 2
  s0 : q.rd = false → ∀ n, q.si n = 0
  tab : Tab w
  pos : 1 < p ∧ 1 < b ∧ 1 < m ∧ 1 < sm

set_option maxRecDepth 100000 in
set_option maxHeartbeats 1600000 in
/-- freeMap: the map is read, if it was not yet. -/
theorem freeMap_any (p b m sm rb : Nat) (s : St) (q : Pg) (hd : s.dead = false) (w : World) (hA : PAt w p b m sm rb s q) :
    Calls Tryz.prog 126 #[.pointer (some ⟨p, 0, none⟩)] w fun e w' => e = .returned (.pointer (some ⟨p, 9, none⟩)) ∧ PAt w' p b m sm rb s { q with rd := true } ∧ Turn [p] w w' := by
  have hmf : ∀ (fn : Fn) (first cap : Array Value) (w : World), (Instr.makeFunc fn first cap).run Tryz.prog w = .ok (.func fn first cap) w := fun _ _ _ _ => rfl
  have hc0 := hA.pg.c0
  have htab := fun w' (hT : Turn [p] w w') (i : Nat) (hi : i < 64) => (hT.cell (p := ⟨1, i, none⟩) (lt_of_cell (hA.tab 0 (by omega))) (by have := hA.pos.1; simp; omega)).trans (hA.tab i hi)
  have HTab := hide htab
  have HA := hide hA
  clear htab
  cases hrd : q.rd with
  | false =>
    have hw : q.word = 0 := by unfold Pg.word; rw [hrd]; rfl
    have hP := hA.pg
    rw [hw] at hP
    have HC := hide (pdo_first p b m sm rb q hA.apart s hA.laid hd hrd (hA.s0 hrd) w hA.disk hP)
    clear hP hA hw hrd
    go_enter Tryz.func126, Tryz.ntmps126
    go_wp2_with fail
    refine HC.out.mono ?_
    rintro e w1 ⟨rfl, hP1, hD1, hT1⟩
    have HP1 := hide hP1
    have HD1 := hide hD1
    clear hP1 hD1
    go_wp2_with fail
    go_ret
    exact ⟨rfl, ⟨HD1.out, HP1.out, HA.out.laid, HA.out.apart, HA.out.s1, HA.out.s2, HA.out.s3, fun h => absurd h (by simp), HTab.out w1 hT1, HA.out.pos⟩, hT1⟩
  | true =>
    have hw : q.word = 1 := by unfold Pg.word; rw [hrd]; rfl
    have h6 := hA.pg.c6
    rw [hw] at h6
    have HC := hide (pdo_done ⟨p, 6, none⟩ (.func (.func 154) #[.pointer (some ⟨p, 0, none⟩)] #[]) w h6)
    have HE : Hid ({ q with rd := true } = q) := by show _ = _; cases q; simp at hrd; simp [hrd]
    clear hA hw hrd h6
    go_enter Tryz.func126, Tryz.ntmps126
    go_wp2_with fail
    refine HC.out.mono ?_
    rintro e w1 ⟨rfl, rfl⟩
    go_wp2_with fail
    go_ret
    refine ⟨rfl, ?_, Turn.refl _ _⟩
    rw [HE.out]
    exact HA.out
end Go.Proofs.YthgpjkcgccdldaaGreatDoor

namespace Go.Proofs.YthgpjkcgccdldaaGreatDoor
open Go.RowKit Go.Maps

set_option maxRecDepth 100000 in
theorem freeCount_congr {s t : Nat → Bool} {n : Nat} (h : ∀ k, k < n → s k = t k) : freeCount s n = freeCount t n := by
  unfold freeCount
  apply List.countP_congr
  intro k hk
  rw [h k (List.mem_range.1 hk)]

set_option maxRecDepth 100000 in
theorem Tab.turn {S : List Nat} {w w' : World} (h : Tab w) (hT : Turn S w w') (h0 : 1 ∉ S) : Tab w' := fun i hi => (hT.cell (p := ⟨1, i, none⟩) (lt_of_cell (h 0 (by omega))) h0).trans (h i hi)

set_option maxRecDepth 100000 in
theorem PAt.turn {S : List Nat} {w w' : World} {p b m sm rb : Nat} {s : St} {q : Pg} (h : PAt w p b m sm rb s q) (hT : Turn S w w') (h0 : 1 ∉ S) (hp : p ∉ S) (hb : b ∉ S) (hm : m ∉ S) (hs : sm ∉ S) (hr : rb ∉ S) : PAt w' p b m sm rb s q :=
  ⟨h.disk.turn hT hb hm, h.pg.turn hT hp hs hr, h.laid, h.apart, h.s1, h.s2, h.s3, h.s0, h.tab.turn hT h0, h.pos⟩
set_option maxRecDepth 100000 in
theorem PAt.turn0 {w w' : World} {p b m sm rb : Nat} {s : St} {q : Pg} (h : PAt w p b m sm rb s q) (hT : Turn [] w w') : PAt w' p b m sm rb s q := h.turn hT (by simp) (by simp) (by simp) (by simp) (by simp) (by simp)

/-- How many can be allocated now. -/
def Pg.left (q : Pg) (N : Nat) : Nat := freeCount (q.tk N) 16384

set_option maxRecDepth 100000 in
set_option maxHeartbeats 800000 in
theorem left_any (p b m sm rb : Nat) (s : St) (q : Pg) (hd : s.dead = false) (w : World) (hA : PAt w p b m sm rb s q) :
    Calls Tryz.prog 93 #[.pointer (some ⟨p, 0, none⟩)] w fun e w' => e = .returned (.int .i64 (q.left s.n : Nat)) ∧ PAt w' p b m sm rb s { q with rd := true } ∧ Turn [p] w w' := by
  have HF := hide (freeMap_any p b m sm rb s q hd w hA)
  clear hA hd
  go_enter Tryz.func93, Tryz.ntmps93
  go_wp2_with fail
  refine HF.out.mono ?_
  rintro e w1 ⟨rfl, hA1, hT1⟩
  obtain ⟨T, hW, hb⟩ := hA1.pg.wd
  have HA1 := hide hA1
  have HE : Hid (freeCount (bit T) 16384 = q.left s.n) := freeCount_congr fun k hk => by rw [hb k hk]; rfl
  have HC := hide (countFree_any p 9 T w1 hW)
  rw [HE.out] at HC
  clear hA1 hW hb HE
  go_wp2_with fail
  refine HC.out.mono ?_
  rintro e w2 ⟨rfl, rfl⟩
  go_wp2_with fail
  go_ret
  exact ⟨rfl, HA1.out, hT1⟩

/-- There is such a page. -/
def Pg.there (q : Pg) (n : Nat) : Bool := (q.K n || q.si n == 1) && !(q.si n == 2)
def Pg.thereI (q : Pg) (N : Nat) (i : Int) : Bool := decide (((fp N : Nat) : Int) ≤ i) && decide (i < N) && q.there i.toNat

set_option maxRecDepth 100000 in
theorem zero3 (w : World) : Sem.run Tryz.prog (zeroValue 3) w = .ok (.int .i64 0) w := by kernel_rfl

set_option maxRecDepth 100000 in
/-- What 'since' says of a page. -/
theorem since_look {w : World} {p b sm rb N : Nat} {d l : Int} {q : Pg} (h : PgAt w p b sm rb N d l q) (n : Nat) (hn : n ≤ 16384) : (Instr.lookup 111 (.map (some sm)) (.int .i64 (n : Nat)) false).run Tryz.prog w = .ok (.int .i64 (q.si n : Nat)) w := by
  obtain ⟨k, D, _, hM, hS⟩ := h.since
  obtain ⟨c, hrun, hat, _⟩ := hM.lookup_int law3 Tryz.underlying111 Tryz.underlying3 (zero3 w) (key3 (i := n) (by omega))
  rw [hS.at_ n] at hat
  have : (q.si n : Int) = c := by
    have := DataW.lit.inj hat
    exact (Lit.int.inj this).2
  rw [hrun, this]

set_option maxRecDepth 100000 in
set_option maxHeartbeats 1600000 in
theorem isThere_any (p b m sm rb : Nat) (s : St) (q : Pg) (hd : s.dead = false) (i : Int) (w : World) (hA : PAt w p b m sm rb s q) :
    Calls Tryz.prog 90 #[.pointer (some ⟨p, 0, none⟩), .int .i64 i] w fun e w' => e = .returned (.bool (q.thereI s.n i)) ∧ (∃ r, (q.thereI s.n i = true → r = true) ∧ PAt w' p b m sm rb s { q with rd := r }) ∧ Turn [p] w w' := by
  have h0 := hA.pg.c0
  have hn1 := hA.laid.n64
  have hn2 := hA.laid.n16
  have HFp := hide (fun w' => firstPage_any s.n (by omega) w')
  rw [show 2 + 2 * mbs s.n = fp s.n from rfl] at HFp
  obtain ⟨f4, f10, fN, _, _, _, _⟩ := fp_bd hn1 hn2
  have HF := hide (freeMap_any p b m sm rb s q hd w hA)
  have HA := hide hA
  clear hA hd
  by_cases h1 : ((fp s.n : Nat) : Int) ≤ i
  · by_cases h2 : i < s.n
    · obtain ⟨n, rfl⟩ := Int.eq_ofNat_of_zero_le (show 0 ≤ i by omega)
      have HE : Hid (q.thereI s.n (n : Nat) = q.there n) := by
        show _ = _
        unfold Pg.thereI
        rw [decide_eq_true h1, decide_eq_true h2]
        rfl
      have t1 : decide ((n : Int) < ((fp s.n : Nat) : Int)) = false := by simp; omega
      have t2 : decide ((s.n : Int) ≤ (n : Int)) = false := by simp; omega
      go_enter Tryz.func90, Tryz.ntmps90
      go_wp2_with fail
      refine (blocks_any b m s w HA.out.disk).mono ?_
      rintro e w1 ⟨rfl, rfl⟩
      go_wp2_with fail
      refine (HFp.out _).mono ?_
      rintro e w2 ⟨rfl, rfl⟩
      go_wp2_with fail
      refine HF.out.mono ?_
      rintro e w3 ⟨rfl, hA3, hT3⟩
      obtain ⟨T, hW, hb⟩ := hA3.pg.wd
      have hlk := since_look hA3.pg n (by omega)
      have hcs := hA3.pg.cs
      have HA3 := hide hA3
      have HI := hide (isTaken_any p 9 n T (by omega) w3 hW)
      rw [hb n (by omega)] at HI
      have HT : Hid ((true && ({ q with rd := true } : Pg).tk s.n n) = (q.K n || q.si n == 1)) := by
        show _ = _
        unfold Pg.tk
        rw [decide_eq_false (by omega : ¬ n < fp s.n), decide_eq_false (by omega : ¬ s.n ≤ n)]
        simp
      rw [HT.out] at HI
      have hs3 := HA.out.s3 n
      clear hA3 hW hb
      go_wp2_with fail
      refine HI.out.mono ?_
      rintro e w4 ⟨rfl, rfl⟩
      cases hk : (q.K n || q.si n == 1) with
      | true =>
        have HK := hide hk
        clear hk
        go_wp2_with fail
        go_ret
        refine ⟨?_, ⟨true, fun _ => rfl, HA3.out⟩, hT3⟩
        rw [HE.out]
        unfold Pg.there
        rw [HK.out]
        show Ending.returned (.bool ((q.si n : Int) != 2)) = _
        by_cases h : q.si n = 2
        · rw [h]; rfl
        · have : ((q.si n : Int) != 2) = true := by rw [bne_iff_ne]; omega
          rw [this]
          have : (q.si n == 2) = false := by rw [beq_eq_false_iff_ne]; exact h
          rw [this]
          rfl
      | false =>
        have HK := hide hk
        clear hk
        go_wp2_with fail
        go_ret
        refine ⟨?_, ⟨true, fun _ => rfl, HA3.out⟩, hT3⟩
        rw [HE.out]
        unfold Pg.there
        rw [HK.out]
        rfl
    · have HE : Hid (q.thereI s.n i = false) := by
        show _ = _
        unfold Pg.thereI
        rw [decide_eq_false h2]
        simp
      have t1 : decide (i < ((fp s.n : Nat) : Int)) = false := by simp; omega
      have t2 : decide ((s.n : Int) ≤ i) = true := by simp; omega
      go_enter Tryz.func90, Tryz.ntmps90
      go_wp2_with fail
      refine (blocks_any b m s w HA.out.disk).mono ?_
      rintro e w1 ⟨rfl, rfl⟩
      go_wp2_with fail
      refine (HFp.out _).mono ?_
      rintro e w2 ⟨rfl, rfl⟩
      go_wp2_with fail
      go_ret
      refine ⟨by rw [HE.out]; rfl, ⟨q.rd, fun h => absurd h (by rw [HE.out]; simp), HA.out⟩, Turn.refl _ _⟩
  · have HE : Hid (q.thereI s.n i = false) := by
      show _ = _
      unfold Pg.thereI
      rw [decide_eq_false h1]
      rfl
    have t1 : decide (i < ((fp s.n : Nat) : Int)) = true := by simp; omega
    go_enter Tryz.func90, Tryz.ntmps90
    go_wp2_with fail
    refine (blocks_any b m s w HA.out.disk).mono ?_
    rintro e w1 ⟨rfl, rfl⟩
    go_wp2_with fail
    refine (HFp.out _).mono ?_
    rintro e w2 ⟨rfl, rfl⟩
    go_wp2_with fail
    go_ret
    refine ⟨by rw [HE.out]; rfl, ?_, Turn.refl _ _⟩
    cases hr : q.rd with
    | false =>
      have e : ({ q with rd := false } : Pg) = q := by rw [← hr]
      exact .inl ⟨HE.out, by rw [e]; exact HA.out⟩
    | true =>
      have e : ({ q with rd := true } : Pg) = q := by rw [← hr]
      exact .inr (by rw [e]; exact HA.out)

end Go.Proofs.YthgpjkcgccdldaaGreatDoor

/-
  Free, Read, Alloc of a pager, walked.
-/
namespace Go.Proofs.YthgpjkcgccdldaaGreatDoor
open Go.RowKit Go.Maps

set_option maxRecDepth 100000 in
theorem key_ne {n k : Nat} (h : n ≠ k) : (Lit.int .i64 (n : Int)) ≠ .int .i64 (k : Int) := fun e => h (by have := (Lit.int.inj e).2; omega)

set_option maxRecDepth 100000 in
theorem Since.del {D : DataW Value} {si : Nat → Nat} (h : Since D si) (n : Nat) : Since (D.del (.int .i64 (n : Int))) (setB si n 0) := by
  refine ⟨fun kl hk => ?_, fun k => ?_⟩
  · by_cases e : kl = .int .i64 (n : Int)
    · rw [e, has_del_same] at hk; cases hk
    · rw [has_del_other e] at hk
      obtain ⟨k, rfl, hs⟩ := h.keys kl hk
      refine ⟨k, rfl, ?_⟩
      unfold setB
      rw [if_neg (fun e' => e (by rw [e']))]
      exact hs
  · unfold setB
    by_cases e : k = n
    · rw [e, atKey_del_same, if_pos rfl]; rfl
    · rw [if_neg e, atKey_del_other (key_ne e)]
      exact h.at_ k

set_option maxRecDepth 100000 in
theorem Since.put {D : DataW Value} {si : Nat → Nat} (h : Since D si) (hM : IsMap D) (n v : Nat) (hv : v ≠ 0) : Since (D.put (.int .i64 (n : Int)) (.lit (.int .i64 (v : Int)))) (setB si n v) := by
  refine ⟨fun kl hk => ?_, fun k => ?_⟩
  · by_cases e : kl = .int .i64 (n : Int)
    · refine ⟨n, e, ?_⟩
      unfold setB
      rw [if_pos rfl]
      exact hv
    · rw [has_put_other e] at hk
      obtain ⟨k, rfl, hs⟩ := h.keys kl hk
      refine ⟨k, rfl, ?_⟩
      unfold setB
      rw [if_neg (fun e' => e (by rw [e']))]
      exact hs
  · unfold setB
    by_cases e : k = n
    · rw [e, atKey_put_same hM (isKey n), if_pos rfl]
    · rw [if_neg e, atKey_put_other (key_ne e)]
      exact h.at_ k

set_option maxRecDepth 100000 in
theorem turn_of_grown {w w' : World} {g : Nat} (h : w.grownBy w' (some g)) : Turn [g] w w' := ⟨h.os, h.tape, h.output, h.size, fun k hk hn => h.block k hk (fun e => hn (by rw [Option.some.inj e]; simp))⟩

set_option maxRecDepth 100000 in
/-- 'since' turns. -/
theorem PgAt.setSince {w w' : World} {p b sm rb N : Nat} {d l : Int} {q : Pg} (h : PgAt w p b sm rb N d l q) (hT : Turn [sm] w w') {n : Nat} {D : DataW Value} {q' : Pg} (hM : w'.ownsMap Tryz.prog 3 (plainElem Tryz.prog 3) sm n D) (hn : n ≤ q'.u) (hS : Since D q'.si) (hr : sm ≠ rb)
    (hb : ∀ k, k < 16384 → (q'.rd && q'.tk N k) = (q.rd && q.tk N k)) (e1 : q'.dead = q.dead) (e2 : q'.c = q.c) (e3 : q'.root = q.root) : PgAt w' p b sm rb N d l q' := by
  have hp : p ∉ [sm] := fun hm => h.ne (List.mem_singleton.1 hm)
  have hc : ∀ o, w'.cell? ⟨p, o, none⟩ = w.cell? ⟨p, o, none⟩ := fun o => hT.cell (p := ⟨p, o, none⟩) h.lt hp
  obtain ⟨x1, h1⟩ := h.c1
  obtain ⟨x2, h2⟩ := h.c2
  obtain ⟨ra, rc, h5, hB, hn', hx⟩ := h.c5
  obtain ⟨T, hW, hbt⟩ := h.wd
  exact ⟨(hc 0).trans h.c0, ⟨x1, (hc 1).trans h1⟩, ⟨x2, (hc 2).trans h2⟩, by rw [e1]; exact (hc 3).trans h.c3, by rw [e2]; exact (hc 4).trans h.c4,
    ⟨ra, rc, by rw [e3]; exact (hc 5).trans h5, by rw [e3]; exact hB.turn hT (fun x h1 h2 hm => hr (by rw [← hx x h1 h2]; exact (List.mem_singleton.1 hm).symm)), hn', by rw [e3]; exact hx⟩,
    (hc 6).trans h.c6, (hc 7).trans h.c7, ⟨T, hW.turn hT hp, fun k hk => by rw [hb k hk]; exact hbt k hk⟩, (hc 265).trans h.cs, ⟨n, D, hn, hM, hS⟩, h.ne, h.nr⟩

set_option maxRecDepth 100000 in
theorem wf_small {n : Nat} (h : n ≤ 100) : (Lit.int .i64 (n : Int)).wf = true := WalkArith.wf_i64 (by omega)
set_option maxRecDepth 100000 in
theorem plain3 (n : Nat) (h : n ≤ 100) : plainElem (H := Value) Tryz.prog 3 (.int .i64 (n : Int)) = some (.lit (.int .i64 (n : Int)), []) := plainElem_int Tryz.underlying3 (wf_small h)

/-- Behind a Free. -/
def Pg.freed (q : Pg) (n : Nat) : Pg := if q.si n = 1 then { q with si := setB q.si n 0, rd := true } else { q with si := setB q.si n 2, rd := true, u := q.u + 1 }

set_option maxRecDepth 100000 in
theorem Pg.there_range {q : Pg} {N : Nat} {i : Int} (h : q.thereI N i = true) : ∃ n : Nat, i = n ∧ fp N ≤ n ∧ n < N ∧ q.there n = true := by
  unfold Pg.thereI at h
  simp only [Bool.and_eq_true, decide_eq_true_eq] at h
  obtain ⟨n, rfl⟩ := Int.eq_ofNat_of_zero_le (show 0 ≤ i by omega)
  exact ⟨n, rfl, by omega, by omega, h.2⟩

set_option maxRecDepth 100000 in
set_option maxHeartbeats 3200000 in
theorem free_yes (p b m sm rb : Nat) (s : St) (q : Pg) (hd : s.dead = false) (hq : q.dead = false) (hu : q.u < 1000000000) (n : Nat) (hi : q.thereI s.n n = true) (w : World) (hA : PAt w p b m sm rb s q) :
    Calls Tryz.prog 102 #[.pointer (some ⟨p, 0, none⟩), .int .i64 (n : Nat)] w fun e w' => e = .returned (.int .i64 0) ∧ PAt w' p b m sm rb s (q.freed n) ∧ Turn [p, sm] w w' := by
  have hnot : ∀ (x : Bool) (w : World), (Op.unary .not (.bool x)).run Tryz.prog w = .ok (.bool (!x)) w := fun _ _ => rfl
  have HI := hide (isDead_no p b m sm rb s.n q.word 0 q s hq hd w hA.disk hA.pg hA.apart)
  obtain ⟨n', e', hn4, hnN, hth⟩ := Pg.there_range hi
  obtain rfl : n = n' := by omega
  have hN := hA.laid.n16
  have HA := hide hA
  have Hi := hide hi
  clear hA hi e'
  have hth2 : (q.K n = true ∨ q.si n = 1) ∧ q.si n ≠ 2 := by
    unfold Pg.there at hth
    simpa using hth
  have Hth := hide hth2
  clear hth hth2
  have HB : Hid (∀ w1, Turn [p] w w1 → PgAt w1 p b sm rb s.n q.word 0 q → DiskAt w1 b m s → PAt w1 p b m sm rb s q) := fun w1 hT1 hP1 hD1 => ⟨hD1, hP1, HA.out.laid, HA.out.apart, HA.out.s1, HA.out.s2, HA.out.s3, HA.out.s0, HA.out.tab.turn hT1 (by have := HA.out.pos.1; simp; omega), HA.out.pos⟩
  by_cases h1 : q.si n = 1
  · have HE : Hid (q.freed n = { q with si := setB q.si n 0, rd := true }) := by show _ = _; unfold Pg.freed; rw [if_pos h1]
    have H1 := hide h1
    clear h1
    go_enter Tryz.func102, Tryz.ntmps102
    go_wp2_with fail
    refine HI.out.mono ?_
    rintro e w1 ⟨rfl, hP1, hD1, hT1⟩
    have HA1 := hide (HB.out w1 hT1 hP1 hD1)
    clear hP1 hD1
    go_wp2_with fail
    refine (isThere_any p b m sm rb s q hd (n : Nat) w1 HA1.out).mono ?_
    rintro e w2 ⟨rfl, ⟨r, hr, hA2⟩, hT2⟩
    obtain rfl := hr Hi.out
    rw [Hi.out]
    have hlk := since_look hA2.pg n (by omega)
    have hl1 : ({ q with rd := true } : Pg).si n = 1 := H1.out
    rw [hl1] at hlk
    have hcs := hA2.pg.cs
    obtain ⟨k, D, hk, hM, hS⟩ := hA2.pg.since
    obtain ⟨w3, hrun, hM3, hmt⟩ := hM.drop law3 Tryz.underlying111 (key3 (i := n) (by omega)) 0
    have hT3 := turn_of_grown hmt.grown
    have HP3 := hide (hA2.pg.setSince (q' := { q with rd := true, si := setB q.si n 0, K := fun k => q.K k || decide (k = n) }) hT3 hM3 hk (hS.del n) HA.out.apart.sr (fun k _ => by
      unfold Pg.tk setB
      by_cases e : k = n
      · subst e; simp [H1.out]
      · simp [e]) rfl rfl rfl)
    have HD3 := hide (hA2.disk.turn hT3 (by simp; exact Ne.symm HA.out.apart.sb) (by simp; exact Ne.symm HA.out.apart.smm))
    have HA2 := hide hA2
    clear hA2 hM hM3 hmt hS hl1 hr hk
    obtain ⟨T, hW, hb⟩ := HP3.out.wd
    have HW := hide hW
    have HBt := hide hb
    have HTab3 := hide (HA2.out.tab.turn hT3 (by have := HA.out.pos.2.2.2; simp; omega))
    clear hW hb
    go_wp2_with fail
    refine (free_any p 9 n T (by omega) w3 HW.out).mono ?_
    rintro e w4 ⟨rfl, hW4, hT4⟩
    have HP4 := hide (HP3.out.setWords (q' := { q with si := setB q.si n 0, rd := true }) hT4.turn (fun o ho => hT4.out o (by omega)) hW4 (fun k hk => by
      rw [bit_freeW, HBt.out k hk]
      have hs1 := HA.out.s1 n H1.out
      unfold Pg.tk setB
      by_cases e : k = n
      · subst e
        have h4 : ¬ k < fp s.n := by omega
        have h5 : ¬ s.n ≤ k := by omega
        simp [hs1.1, h4, h5]
      · simp [e]) rfl rfl rfl rfl rfl)
    have HD4 := hide (HD3.out.turn hT4.turn (by simp; exact Ne.symm HA.out.apart.pb) (by simp; exact Ne.symm HA.out.apart.pm))
    have HTab4 := hide (HTab3.out.turn hT4.turn (by have := HA.out.pos.1; simp; omega))
    clear hW4
    go_wp2_with fail
    go_ret
    refine ⟨rfl, ?_, ?_⟩
    · rw [HE.out]
      refine ⟨HD4.out, HP4.out, HA.out.laid, HA.out.apart, ?_, ?_, ?_, fun h => absurd h (by simp), HTab4.out, HA.out.pos⟩
      · intro k hk
        simp only [setB] at hk
        split at hk
        · omega
        · exact HA.out.s1 k hk
      · intro k hk
        simp only [setB] at hk
        split at hk
        · omega
        · exact HA.out.s2 k hk
      · intro k
        show setB q.si n 0 k ≤ 2
        unfold setB
        split
        · omega
        · exact HA.out.s3 k
    · exact (((hT1.trans hT2).mono (by simp)).trans (hT3.mono (by simp))).trans (hT4.turn.mono (by simp))
  · have HE : Hid (q.freed n = { q with si := setB q.si n 2, rd := true, u := q.u + 1 }) := by show _ = _; unfold Pg.freed; rw [if_neg h1]
    have hK : q.K n = true := by
      rcases Hth.out.1 with h | h
      · exact h
      · exact absurd h h1
    have H1 := hide h1
    have HK := hide hK
    have t1 : ((q.si n : Int) == 1) = false := by rw [beq_eq_false_iff_ne]; omega
    clear h1 hK
    go_enter Tryz.func102, Tryz.ntmps102
    go_wp2_with fail
    refine HI.out.mono ?_
    rintro e w1 ⟨rfl, hP1, hD1, hT1⟩
    have HA1 := hide (HB.out w1 hT1 hP1 hD1)
    clear hP1 hD1
    go_wp2_with fail
    refine (isThere_any p b m sm rb s q hd (n : Nat) w1 HA1.out).mono ?_
    rintro e w2 ⟨rfl, ⟨r, hr, hA2⟩, hT2⟩
    obtain rfl := hr Hi.out
    rw [Hi.out]
    have hlk := since_look hA2.pg n (by omega)
    have hl1 : ({ q with rd := true } : Pg).si n = q.si n := rfl
    rw [hl1] at hlk
    have hcs := hA2.pg.cs
    obtain ⟨k, D, hk, hM, hS⟩ := hA2.pg.since
    have hk' : k ≤ q.u := hk
    obtain ⟨w3, hrun, hM3, hgr⟩ := World.ownsMap.update (t := 111) (e := 3) hM law3 Tryz.underlying111 (by unfold maxLen; omega) (key3 (i := n) (by omega)) (plain3 2 (by omega))
    have hrun' : (Instr.mapUpdate 111 (.map (some sm)) (.int .i64 (n : Nat)) (.int .i64 2)).run Tryz.prog w2 = .ok () w3 := hrun
    clear hrun
    have hT3 := turn_of_grown hgr
    have HP3 := hide (hA2.pg.setSince (q' := { q with si := setB q.si n 2, rd := true, u := q.u + 1 }) hT3 hM3 (by show k + 1 ≤ q.u + 1; omega) (hS.put hM.isMap n 2 (by omega)) HA.out.apart.sr (fun k _ => by
      unfold Pg.tk setB
      by_cases e : k = n
      · subst e; simp [HK.out]
      · simp [e]) rfl rfl rfl)
    have HD3 := hide (hA2.disk.turn hT3 (by simp; exact Ne.symm HA.out.apart.sb) (by simp; exact Ne.symm HA.out.apart.smm))
    have HTab3 := hide (hA2.tab.turn hT3 (by have := HA.out.pos.2.2.2; simp; omega))
    clear hA2 hM hM3 hgr hS hl1 hr hk hk'
    go_wp2_with fail
    go_ret
    refine ⟨rfl, ?_, ?_⟩
    · rw [HE.out]
      refine ⟨HD3.out, HP3.out, HA.out.laid, HA.out.apart, ?_, ?_, ?_, fun h => absurd h (by simp), HTab3.out, HA.out.pos⟩
      · intro k hk
        simp only [setB] at hk
        split at hk
        · omega
        · exact HA.out.s1 k hk
      · intro k hk
        simp only [setB] at hk
        split at hk
        · rename_i e
          rw [e]
          exact HK.out
        · exact HA.out.s2 k hk
      · intro k
        show setB q.si n 2 k ≤ 2
        unfold setB
        split
        · omega
        · exact HA.out.s3 k
    · exact ((hT1.trans hT2).mono (by simp)).trans (hT3.mono (by simp))

set_option maxRecDepth 100000 in
set_option maxHeartbeats 3200000 in
theorem read_yes (p b m sm rb : Nat) (s : St) (q : Pg) (hd : s.dead = false) (hq : q.dead = false) (n : Nat) (hi : q.thereI s.n n = true) (l : List Nat) (hl : l.length ≤ 496) (hf : s.f n = bytesOf 512 (pageB l)) (w : World) (hA : PAt w p b m sm rb s q) :
    Calls Tryz.prog 64 #[.pointer (some ⟨p, 0, none⟩), .int .i64 (n : Nat)] w fun e w' => ∃ g o, w.heap.size ≤ g ∧ g < w'.heap.size ∧ e = .returned (.tuple #[.slice (some ⟨g, o, none⟩) l.length l.length, .int .i64 0]) ∧ BytesAt w' (some ⟨g, o, none⟩) l ∧ (∀ j, w'.frozen? ⟨g, j, none⟩ = false) ∧ PAt w' p b m sm rb s { q with rd := true } ∧ Turn [p] w w' := by
  have hnot : ∀ (x : Bool) (w : World), (Op.unary .not (.bool x)).run Tryz.prog w = .ok (.bool (!x)) w := fun _ _ => rfl
  have HI := hide (isDead_no p b m sm rb s.n q.word 0 q s hq hd w hA.disk hA.pg hA.apart)
  obtain ⟨n', e', hn4, hnN, _⟩ := Pg.there_range hi
  obtain rfl : n = n' := by omega
  have HA := hide hA
  have Hi := hide hi
  have HF := hide hf
  clear hA hi e' hf
  have HB : Hid (∀ w1, Turn [p] w w1 → PgAt w1 p b sm rb s.n q.word 0 q → DiskAt w1 b m s → PAt w1 p b m sm rb s q) := fun w1 hT1 hP1 hD1 => ⟨hD1, hP1, HA.out.laid, HA.out.apart, HA.out.s1, HA.out.s2, HA.out.s3, HA.out.s0, HA.out.tab.turn hT1 (by have := HA.out.pos.1; simp; omega), HA.out.pos⟩
  have HPB : Hid (∀ i, i < 512 → fB s n i = pageB l i) := by
    intro i hi
    unfold fB
    rw [HF.out, bytesOf_get _ _ _ hi]
  have hlen : pageLen (fB s n) = l.length := by
    rw [← page_len l hl]
    unfold pageLen
    rw [bytesOf_congr fun i hi => HPB.out i (by omega)]
  have HLen := hide hlen
  clear hlen
  go_enter Tryz.func64, Tryz.ntmps64
  go_wp2_with fail
  refine HI.out.mono ?_
  rintro e w1 ⟨rfl, hP1, hD1, hT1⟩
  have HA1 := hide (HB.out w1 hT1 hP1 hD1)
  clear hP1 hD1
  go_wp2_with fail
  refine (isThere_any p b m sm rb s q hd (n : Nat) w1 HA1.out).mono ?_
  rintro e w2 ⟨rfl, ⟨r, hr, hA2⟩, hT2⟩
  obtain rfl := hr Hi.out
  rw [Hi.out]
  have HA2 := hide hA2
  have hs2 := (hT1.trans hT2).size
  clear hA2 hr
  go_wp2_with fail
  refine (pread_ok p b m sm rb s.n _ 0 _ HA2.out.apart s HA2.out.laid.good hd n hnN w2 HA2.out.disk HA2.out.pg).mono ?_
  rintro e w3 ⟨rfl, hR3, hP3, hD3, hT3, _⟩
  have HR3 := hide hR3
  have HA3 : Hid (PAt w3 p b m sm rb s { q with rd := true }) := ⟨hD3, hP3, HA2.out.laid, HA2.out.apart, HA2.out.s1, HA2.out.s2, HA2.out.s3, HA2.out.s0, HA2.out.tab.turn hT3.turn (by have := HA2.out.pos.1; simp; omega), HA2.out.pos⟩
  clear hR3 hP3 hD3
  go_wp2_with fail
  refine (pageBytes_any w2.heap.size (fB s n) (fB_lt HA3.out.laid.byte n) w3 HR3.out).mono ?_
  rintro e w4 ⟨o, rfl, ho, rfl⟩
  rw [HLen.out] at ho ⊢
  go_wp2_with fail
  go_ret2
  refine ⟨w2.heap.size, o, hs2, HR3.out.lt, rfl, ?_, HR3.out.fz, HA3.out, (hT1.trans hT2).trans hT3.turn⟩
  rcases ho with h | h
  · left; exact List.eq_nil_of_length_eq_zero h
  · subst h
    have := HR3.out.bytes 16 l.length (by omega)
    rw [bytesOf_congr (B := fun i => pageB l (16 + i)) (fun i hi => HPB.out _ (by omega)), page_bytes] at this
    exact this

set_option maxRecDepth 100000 in
set_option maxHeartbeats 1600000 in
theorem read_no (p b m sm rb : Nat) (s : St) (q : Pg) (hd : s.dead = false) (hq : q.dead = false) (i : Int) (hi : q.thereI s.n i = false) (w : World) (hA : PAt w p b m sm rb s q) :
    Calls Tryz.prog 64 #[.pointer (some ⟨p, 0, none⟩), .int .i64 i] w fun e w' => e = .returned (.tuple #[.slice none 0 0, .int .i64 2]) ∧ (∃ r, PAt w' p b m sm rb s { q with rd := r }) ∧ Turn [p] w w' := by
  have hnot : ∀ (x : Bool) (w : World), (Op.unary .not (.bool x)).run Tryz.prog w = .ok (.bool (!x)) w := fun _ _ => rfl
  have HI := hide (isDead_no p b m sm rb s.n q.word 0 q s hq hd w hA.disk hA.pg hA.apart)
  have HA := hide hA
  have Hi := hide hi
  clear hA hi
  go_enter Tryz.func64, Tryz.ntmps64
  go_wp2_with fail
  refine HI.out.mono ?_
  rintro e w1 ⟨rfl, hP1, hD1, hT1⟩
  have HA1 : Hid (PAt w1 p b m sm rb s q) := ⟨hD1, hP1, HA.out.laid, HA.out.apart, HA.out.s1, HA.out.s2, HA.out.s3, HA.out.s0, HA.out.tab.turn hT1 (by have := HA.out.pos.1; simp; omega), HA.out.pos⟩
  clear hP1 hD1
  go_wp2_with fail
  refine (isThere_any p b m sm rb s q hd i w1 HA1.out).mono ?_
  rintro e w2 ⟨rfl, ⟨r, _, hA2⟩, hT2⟩
  rw [Hi.out]
  have HA2 := hide hA2
  clear hA2
  go_wp2_with fail
  go_ret2
  exact ⟨rfl, ⟨r, HA2.out⟩, hT1.trans hT2⟩
end Go.Proofs.YthgpjkcgccdldaaGreatDoor

namespace Go.Proofs.YthgpjkcgccdldaaGreatDoor

set_option maxRecDepth 100000 in
theorem fc_succ (t : Nat → Bool) (n : Nat) : freeCount t (n + 1) = freeCount t n + if t n = true then 0 else 1 := by
  unfold freeCount
  rw [List.range_succ, List.countP_append]
  congr 1
  rw [List.countP_singleton]
  cases t n <;> rfl

set_option maxRecDepth 100000 in
theorem fc_mono {s t : Nat → Bool} (n : Nat) (h : ∀ k, k < n → s k = true → t k = true) : freeCount t n ≤ freeCount s n := by
  induction n with
  | zero => exact Nat.le_refl _
  | succ n ih =>
    rw [fc_succ, fc_succ]
    have := ih fun k hk => h k (by omega)
    by_cases hs : s n = true
    · rw [if_pos hs, if_pos (h n (by omega) hs)]; omega
    · rw [if_neg hs]; split <;> omega

set_option maxRecDepth 100000 in
/-- One more is taken. -/
theorem fc_more (t : Nat → Bool) (k n : Nat) : freeCount t n ≤ freeCount (fun j => t j || decide (j = k)) n + 1 := by
  have h : ∀ n, freeCount t n ≤ freeCount (fun j => t j || decide (j = k)) n + (if k < n then 1 else 0) := by
    intro n
    induction n with
    | zero => exact Nat.zero_le _
    | succ n ih =>
      rw [fc_succ, fc_succ]
      by_cases e : n = k
      · subst e
        rw [if_pos (show n < n + 1 by omega)]
        rw [if_neg (show ¬ n < n by omega)] at ih
        have : (if (t n || decide (n = n)) = true then 0 else 1) = 0 := by simp
        rw [this]
        split <;> omega
      · have : (t n || decide (n = k)) = t n := by simp [e]
        rw [this]
        have h1 : (if k < n + 1 then 1 else 0) = (if k < n then 1 else 0) := by
          by_cases h : k < n
          · rw [if_pos h, if_pos (by omega)]
          · rw [if_neg h, if_neg (by omega)]
        rw [h1]
        omega
  have := h n
  split at this <;> omega

set_option maxRecDepth 100000 in
theorem fc_list (t : Nat → Bool) (L : List Nat) (n : Nat) : freeCount t n ≤ freeCount (fun j => t j || decide (j ∈ L)) n + L.length := by
  induction L generalizing t with
  | nil =>
    have : (fun j => t j || decide (j ∈ ([] : List Nat))) = t := by funext j; simp
    rw [this]
    exact Nat.le_refl _
  | cons x L ih =>
    have h1 := fc_more t x n
    have h2 := ih (fun j => t j || decide (j = x))
    have e : (fun j => (t j || decide (j = x)) || decide (j ∈ L)) = fun j => t j || decide (j ∈ x :: L) := by
      funext j
      by_cases h3 : j = x <;> by_cases h4 : j ∈ L <;> simp [h3, h4]
    rw [e] at h2
    rw [List.length_cons]
    omega

set_option maxRecDepth 100000 in
theorem fc_base (F N n : Nat) : freeCount (fun k => decide (k < F) || decide (N ≤ k)) n = min n N - F := by
  induction n with
  | zero => simp [freeCount]
  | succ n ih =>
    rw [fc_succ, ih]
    by_cases h1 : n < F
    · simp [h1]; omega
    · by_cases h2 : N ≤ n
      · simp [h2]; omega
      · simp [h1, h2]; omega

set_option maxRecDepth 100000 in
/-- There is room for all but those that are used. -/
theorem left_ge (q : Pg) (N : Nat) (hN : N ≤ 16384) (L : List Nat) (h : ∀ k, fp N ≤ k → k < N → (q.K k || q.si k == 1) = true → k ∈ L) : N - fp N ≤ q.left N + L.length := by
  have h1 := fc_list (fun k => decide (k < fp N) || decide (N ≤ k)) L 16384
  rw [fc_base, Nat.min_eq_right hN] at h1
  have h2 : freeCount (fun k => (decide (k < fp N) || decide (N ≤ k)) || decide (k ∈ L)) 16384 ≤ q.left N := fc_mono 16384 fun k _ hk => by
    unfold Pg.tk at hk
    by_cases h3 : k < fp N
    · simp [h3]
    · by_cases h4 : N ≤ k
      · simp [h4]
      · have : (q.K k || q.si k == 1) = true := by simpa [h3, h4] using hk
        simp [h k (by omega) (by omega) this]
  omega

set_option maxRecDepth 100000 in
theorem left_le (q : Pg) (N : Nat) : q.left N ≤ 16384 := freeCount_le _ _

set_option maxRecDepth 100000 in
/-- None is left just where all are taken. -/
theorem fc_zero (t : Nat → Bool) (n : Nat) : freeCount t n = 0 ↔ ∀ k, k < n → t k = true := by
  induction n with
  | zero => simp [freeCount]
  | succ n ih =>
    rw [fc_succ]
    constructor
    · intro h k hk
      by_cases e : k = n
      · subst e
        by_cases ht : t k = true
        · exact ht
        · rw [if_neg ht] at h; omega
      · exact ih.1 (by omega) k (by omega)
    · intro h
      rw [if_pos (h n (by omega))]
      have := ih.2 fun k hk => h k (by omega)
      omega
end Go.Proofs.YthgpjkcgccdldaaGreatDoor

namespace Go.Proofs.YthgpjkcgccdldaaGreatDoor
open Go.RowKit Go.Maps

set_option maxRecDepth 100000 in
theorem St.out_no {s : St} {j : Nat} (hj : j < s.n) : s.out j = false := by unfold St.out; simp; omega
/-- A write that is done. -/
def St.did (s : St) (j : Nat) (l : List Nat) : St := { s with k := s.k + 1, left := if s.left < 0 then s.left else s.left - 1, f := put s.f j l }
set_option maxRecDepth 100000 in
theorem St.write_did {s : St} {j : Nat} {l : List Nat} (hd : s.dead = false) (hj : j < s.n) (hl : l.length = 512) (h0 : s.left ≠ 0) : s.write j l = s.did j l ∧ s.writeErr j 512 = 0 := by
  have ho := St.out_no hj
  constructor
  · unfold St.write St.did
    simp [hd, ho, hl, h0]
  · unfold St.writeErr
    simp [hd, ho, h0]
set_option maxRecDepth 100000 in
theorem St.write_cut {s : St} {j : Nat} {l : List Nat} (hd : s.dead = false) (hj : j < s.n) (hl : l.length = 512) (h0 : s.left = 0) : s.write j l = { s with dead := true } ∧ s.writeErr j 512 = 12 := by
  have ho := St.out_no hj
  constructor
  · unfold St.write
    simp [hd, ho, hl, h0]
  · unfold St.writeErr
    simp [hd, ho, h0]
set_option maxRecDepth 100000 in
theorem St.did_f (s : St) (j i : Nat) (l : List Nat) (h : i ≠ j) : (s.did j l).f i = s.f i := by show put s.f j l i = _; unfold put; rw [if_neg h]
set_option maxRecDepth 100000 in
theorem St.did_f_same (s : St) (j : Nat) (l : List Nat) : (s.did j l).f j = l := by show put s.f j l j = _; unfold put; rw [if_pos rfl]
set_option maxRecDepth 100000 in
theorem St.Good.did {s : St} (h : s.Good) {j : Nat} {l : List Nat} (hl : l.length = 512) (hk : s.k < 1000000) : (s.did j l).Good := by
  have h1 := h.l1
  have h2 := h.l2
  refine ⟨h.n1, by show s.k + 1 ≤ _; omega, ?_, ?_, ?_⟩
  · show -1 ≤ if s.left < 0 then s.left else s.left - 1
    split <;> omega
  · show (if s.left < 0 then s.left else s.left - 1) ≤ _
    split <;> omega
  · intro i
    show (put s.f j l i).length = 512
    unfold put
    split
    · exact hl
    · exact h.len i

set_option maxRecDepth 100000 in
theorem fB_of {s t : St} {i : Nat} (h : t.f i = s.f i) : fB t i = fB s i := by funext j; unfold fB; rw [h]

set_option maxRecDepth 100000 in
theorem Laid.dead {s : St} {c : Nat} {root : List Nat} {K : Nat → Bool} (h : Laid s c root K) (x : Bool) : Laid { s with dead := x } c root K :=
  ⟨⟨h.good.n1, h.good.k1, h.good.l1, h.good.l2, h.good.len⟩, h.n64, h.n16, h.byte, h.num, h.ck, h.zero, h.some, h.map, h.kr, h.rl, h.rbytes⟩

set_option maxRecDepth 100000 in
/-- A write that touches neither the heads, nor the map that holds. -/
theorem Laid.did {s : St} {c : Nat} {root : List Nat} {K : Nat → Bool} (h : Laid s c root K) {j : Nat} (hj : 2 ≤ j) (hj2 : j < 2 + c % 2 * mbs s.n ∨ 2 + c % 2 * mbs s.n + mbs s.n ≤ j) {l : List Nat} (hl : l.length = 512) (hb : ∀ x ∈ l, x < 256) (hk : s.k < 1000000) : Laid (s.did j l) c root K := by
  have hf : ∀ i, i < 2 → fB (s.did j l) i = fB s i := fun i hi => fB_of (s.did_f j i l (by omega))
  refine ⟨h.good.did hl hk, h.n64, h.n16, ?_, ?_, by show c ≤ s.k + 1; have := h.ck; omega, ?_, ?_, ?_, h.kr, h.rl, h.rbytes⟩
  · intro i x hx
    by_cases e : i = j
    · rw [e, St.did_f_same] at hx; exact hb x hx
    · rw [St.did_f _ _ _ _ e] at hx; exact h.byte i x hx
  · intro i hi; rw [hf i hi]; exact h.num i hi
  · intro h0; rw [hf 0 (by omega), hf 1 (by omega)]; exact h.zero h0
  · intro h0; rw [hf _ (Nat.mod_lt _ (by decide)), hf _ (Nat.mod_lt _ (by decide))]; exact h.some h0
  · obtain ⟨T, h1, h2, h3⟩ := h.map
    refine ⟨T, h1, fun i hi => ?_, h3⟩
    have hi' : i < mbs s.n := hi
    show (s.did j l).f (2 + c % 2 * mbs s.n + i) = _
    rw [St.did_f _ _ _ _ (by omega)]
    exact h2 i hi

/-- Behind an Alloc. -/
def Pg.alloced (q : Pg) (n : Nat) : Pg := { q with si := setB q.si n 1, rd := true, u := q.u + 1 }
/-- The page that comes next. -/
def Pg.Next (q : Pg) (N n : Nat) : Prop := n < 16384 ∧ q.tk N n = false ∧ ∀ k, k < n → q.tk N k = true
set_option maxRecDepth 100000 in
theorem Pg.Next.range {q : Pg} {N n : Nat} (h : q.Next N n) : fp N ≤ n ∧ n < N ∧ q.K n = false ∧ q.si n ≠ 1 := by
  have := h.2.1
  unfold Pg.tk at this
  simp at this
  obtain ⟨⟨⟨h1, h2⟩, h3⟩, h4⟩ := this
  exact ⟨h1, h2, h3, h4⟩

set_option maxRecDepth 100000 in
set_option maxHeartbeats 3200000 in
theorem alloc_any (p b m sm rb : Nat) (s : St) (q : Pg) (hd : s.dead = false) (hq : q.dead = false) (hu : q.u < 1000000000) (hk : s.k < 1000000) (a : Option Addr) (cap : Nat) (l : List Nat) (n : Nat) (hn : l.length = n) (hl : n ≤ 496) (hb : ∀ x ∈ l, x < 256)
    (w : World) (hB : BytesAt w a l) (hx : ∀ x, l ≠ [] → a = some x → x.block ≠ p) (hA : PAt w p b m sm rb s q) :
    Calls Tryz.prog 135 #[.pointer (some ⟨p, 0, none⟩), .slice a n cap] w fun e w' =>
      (e = .returned (.tuple #[.int .i64 0, .int .i64 13]) ∧ (∀ k, k < 16384 → q.tk s.n k = true) ∧ PAt w' p b m sm rb s { q with rd := true } ∧ Turn [p, b, m, sm] w w') ∨
      (∃ k : Nat, e = .returned (.tuple #[.int .i64 (k : Nat), .int .i64 0]) ∧ q.Next s.n k ∧ s.left ≠ 0 ∧ PAt w' p b m sm rb (s.did k (bytesOf 512 (pageB l))) (q.alloced k) ∧ Turn [p, b, m, sm] w w') ∨
      (∃ k : Nat, e = .returned (.tuple #[.int .i64 0, .int .i64 12]) ∧ q.Next s.n k ∧ s.left = 0 ∧ DiskAt w' b m { s with dead := true } ∧ Turn [p, b, m, sm] w w') := by
  have hnot : ∀ (x : Bool) (w : World), (Op.unary .not (.bool x)).run Tryz.prog w = .ok (.bool (!x)) w := fun _ _ => rfl
  have HI := hide (isDead_no p b m sm rb s.n q.word 0 q s hq hd w hA.disk hA.pg hA.apart)
  have HA := hide hA
  have HB := hide hB
  have HX := hide hx
  have HN := hide hn
  have HBb := hide hb
  clear hA hB hx hn hb
  go_enter Tryz.func135, Tryz.ntmps135
  go_wp2_with fail
  refine HI.out.mono ?_
  rintro e w1 ⟨rfl, hP1, hD1, hT1⟩
  have HA1 : Hid (PAt w1 p b m sm rb s q) := ⟨hD1, hP1, HA.out.laid, HA.out.apart, HA.out.s1, HA.out.s2, HA.out.s3, HA.out.s0, HA.out.tab.turn hT1 (by have := HA.out.pos.1; simp; omega), HA.out.pos⟩
  clear hP1 hD1
  go_wp2_with fail
  refine (freeMap_any p b m sm rb s q hd w1 HA1.out).mono ?_
  rintro e w2 ⟨rfl, hA2, hT2⟩
  obtain ⟨T, hW, hbt⟩ := hA2.pg.wd
  have HA2 := hide hA2
  have HW := hide hW
  have HBt : Hid (∀ k, k < 16384 → bit T k = q.tk s.n k) := fun k hk => by rw [hbt k hk]; rfl
  have hT02 := hT1.trans hT2
  clear hA2 hW hbt hT1 hT2 HA1
  go_wp2_with fail
  refine (firstFree_any p 9 T w2 HW.out HA2.out.tab).mono ?_
  rintro e w3 ⟨v, ok, rfl, hF, hT3⟩
  have HA3 := hide (HA2.out.turn0 hT3)
  have hT03 : Turn [p] w w3 := hT02.then hT3 (by simp)
  clear HA2 hT02 hT3
  rcases hF with ⟨rfl, k, rfl, hk1, hk2, hk3⟩ | ⟨rfl, rfl, hall⟩
  · have hNx : q.Next s.n k := ⟨hk1, by rw [← HBt.out k hk1]; exact hk2, fun j hj => by rw [← HBt.out j (by omega)]; exact hk3 j hj⟩
    obtain ⟨hr1, hr2, hr3, hr4⟩ := hNx.range
    have HNx := hide hNx
    have HB3 := hide (HB.out.turn hT03 (fun x h1 h2 => by simp; exact HX.out x h1 h2))
    have HPg := hide (fun w' (h : BytesAt w' a l) => pageBlock_any a cap l n HN.out hl w' h)
    have hs3 := HA3.out.pg.lt
    clear hNx hk2 hk3 hr3 HB
    go_wp2_with fail
    refine (HPg.out _ HB3.out).mono ?_
    rintro e w4 ⟨rfl, hR4, hT4⟩
    have HA4 := hide (HA3.out.turn0 hT4)
    have HR4 := hide hR4
    have hT04 : Turn [p] w w4 := hT03.then hT4 (by simp)
    have HB4 := hide hR4.bytes0
    have hN16 := HA4.out.laid.n16
    clear hR4 hT4 hT03 HA3 HB3
    by_cases h0 : s.left = 0
    · have hcut := St.write_cut (l := bytesOf 512 (pageB l)) hd hr2 (bytesOf_length _ _) h0
      have HPw := hide (pwrite_any p b m sm rb s.n _ 0 _ HA4.out.apart s HA4.out.laid.good (k : Nat) w3.heap.size (bytesOf 512 (pageB l)) (bytesOf_length _ _) w4 HB4.out HA4.out.disk HA4.out.pg)
      rw [hcut.1, hcut.2] at HPw
      have H0 := hide h0
      clear hcut h0
      go_wp2_with fail
      refine HPw.out.mono ?_
      rintro e w5 ⟨rfl, _, hD5, hT5, _⟩
      have HD5 := hide hD5
      clear hD5
      go_wp2_with fail
      go_ret2
      exact .inr (.inr ⟨k, rfl, HNx.out, H0.out, HD5.out, (hT04.mono (by simp)).trans (hT5.mono (by simp))⟩)
    · have hdid := St.write_did (l := bytesOf 512 (pageB l)) hd hr2 (bytesOf_length _ _) h0
      have HPw := hide (pwrite_any p b m sm rb s.n _ 0 _ HA4.out.apart s HA4.out.laid.good (k : Nat) w3.heap.size (bytesOf 512 (pageB l)) (bytesOf_length _ _) w4 HB4.out HA4.out.disk HA4.out.pg)
      rw [hdid.1, hdid.2] at HPw
      have H0 := hide h0
      clear hdid h0
      go_wp2_with fail
      refine HPw.out.mono ?_
      rintro e w5 ⟨rfl, hP5, hD5, hT5, _⟩
      rw [if_pos trivial] at hP5
      obtain ⟨T5, hW5, hb5⟩ := hP5.wd
      have HP5 := hide hP5
      have HD5 := hide hD5
      have HW5 := hide hW5
      have HB5 := hide hb5
      have HTab5 := hide (HA4.out.tab.turn hT5 (by have := HA.out.pos; simp; omega))
      clear hP5 hD5 hW5 hb5
      go_wp2_with fail
      refine (take_any p 9 k T5 hk1 w5 HW5.out).mono ?_
      rintro e w6 ⟨rfl, hW6, hT6⟩
      have hP6 := HP5.out.setWords (q' := { q with rd := true, K := fun j => q.K j || decide (j = k) }) hT6.turn (fun o ho => hT6.out o (by omega)) hW6 (fun j hj => by
        rw [bit_takeW, HB5.out j hj]
        unfold Pg.tk
        by_cases e : j = k
        · simp [e]
        · simp [e]) rfl rfl rfl rfl rfl
      have HD6 := hide (HD5.out.turn hT6.turn (by simp; exact Ne.symm HA.out.apart.pb) (by simp; exact Ne.symm HA.out.apart.pm))
      have HTab6 := hide (HTab5.out.turn hT6.turn (by have := HA.out.pos; simp; omega))
      have hcs := hP6.cs
      obtain ⟨j, D, hj, hM, hS⟩ := hP6.since
      have hj' : j ≤ q.u := hj
      obtain ⟨w7, hrun, hM7, hgr⟩ := World.ownsMap.update (t := 111) (e := 3) hM law3 Tryz.underlying111 (by unfold maxLen; omega) (key3 (i := k) (by omega)) (plain3 1 (by omega))
      have hrun' : (Instr.mapUpdate 111 (.map (some sm)) (.int .i64 (k : Nat)) (.int .i64 1)).run Tryz.prog w6 = .ok () w7 := hrun
      have hT7 := turn_of_grown hgr
      have HP7 := hide (hP6.setSince (q' := q.alloced k) hT7 hM7 (by show j + 1 ≤ q.u + 1; omega) (hS.put hM.isMap k 1 (by omega)) HA.out.apart.sr (fun j _ => by
        unfold Pg.tk Pg.alloced setB
        by_cases e : j = k
        · simp [e]
        · simp [e]) rfl rfl rfl)
      have HD7 := hide (HD6.out.turn hT7 (by simp; exact Ne.symm HA.out.apart.sb) (by simp; exact Ne.symm HA.out.apart.smm))
      have HTab7 := hide (HTab6.out.turn hT7 (by have := HA.out.pos; simp; omega))
      clear hP6 hM hM7 hgr hS hj hj' hrun hW6
      go_wp2_with fail
      go_ret2
      refine .inr (.inl ⟨k, rfl, HNx.out, H0.out, ⟨HD7.out, HP7.out, ?_, HA.out.apart, ?_, ?_, ?_, fun h => absurd h (by simp [Pg.alloced]), HTab7.out, HA.out.pos⟩, ?_⟩)
      · exact HA.out.laid.did (by have := fp_bd HA.out.laid.n64 HA.out.laid.n16; omega) (.inr (Nat.le_trans (slot_map q.c HA.out.laid.n64 HA.out.laid.n16) hr1)) (bytesOf_length _ _) (bytesOf_lt (pageB_lt l HBb.out)) hk
      · intro j hj
        have hj : setB q.si k 1 j = 1 := hj
        unfold setB at hj
        split at hj
        · rename_i e
          rw [e]
          exact ⟨HNx.out.range.2.2.1, hr1, hr2⟩
        · exact HA.out.s1 j hj
      · intro j hj
        have hj : setB q.si k 1 j = 2 := hj
        unfold setB at hj
        split at hj
        · omega
        · exact HA.out.s2 j hj
      · intro j
        show setB q.si k 1 j ≤ 2
        unfold setB
        split
        · omega
        · exact HA.out.s3 j
      · exact (((hT04.mono (by simp)).trans (hT5.mono (by simp))).trans (hT6.turn.mono (by simp))).trans (hT7.mono (by simp))
  · have Hall : Hid (∀ k, k < 16384 → q.tk s.n k = true) := fun k hk => by rw [← HBt.out k hk]; exact hall k hk
    clear hall
    go_wp2_with fail
    go_ret2
    exact .inl ⟨rfl, Hall.out, HA3.out, hT03.mono (by simp)⟩

end Go.Proofs.YthgpjkcgccdldaaGreatDoor

namespace Go.Proofs.YthgpjkcgccdldaaGreatDoor
open Go.RowKit Go.Maps

/-- Of the bits T those are struck whose page has v in 'since', and is no more to come. -/
def Swept (T T' : Nat → Nat) (si : Nat → Nat) (v : Nat) (left : Lit → Bool) : Prop := ∀ k, k < 16384 → bit T' k = (bit T k && !(si k == v && !left (.int .i64 (k : Int))))

set_option maxRecDepth 100000 in
theorem Swept.start {D : DataW Value} {si : Nat → Nat} (h : Since D si) (T : Nat → Nat) {v : Nat} (hv : v ≠ 0) : Swept T T si v (has D) := by
  intro k _
  by_cases e : si k = v
  · have : has D (.int .i64 (k : Int)) = true := by
      cases hh : has D (.int .i64 (k : Int)) with
      | true => rfl
      | false =>
        have h1 := h.at_ k
        rw [atKey_of_not_has hh] at h1
        have := (Lit.int.inj (DataW.lit.inj h1)).2
        omega
    rw [this]
    simp
  · have : (si k == v) = false := by rw [beq_eq_false_iff_ne]; exact e
    rw [this]
    simp

set_option maxRecDepth 100000 in
theorem strike_other (left : Lit → Bool) {k n : Nat} (h : k ≠ n) : (left (.int .i64 (k : Int)) && !(Lit.int .i64 (k : Int)).sameKey (.int .i64 (n : Int))) = left (.int .i64 (k : Int)) := by
  have : (Lit.int .i64 (k : Int)).sameKey (.int .i64 (n : Int)) = false := by
    cases hh : (Lit.int .i64 (k : Int)).sameKey (.int .i64 (n : Int)) with
    | false => rfl
    | true => exact absurd (WideAt.sameKey_eq hh) (key_ne h)
  rw [this]
  simp
set_option maxRecDepth 100000 in
theorem strike_same (left : Lit → Bool) (n : Nat) : (left (.int .i64 (n : Int)) && !(Lit.int .i64 (n : Int)).sameKey (.int .i64 (n : Int))) = false := by
  rw [WideAt.sameKey_self (isKey n)]
  simp

set_option maxRecDepth 100000 in
theorem Swept.hit {T T' : Nat → Nat} {si : Nat → Nat} {v : Nat} {left : Lit → Bool} (h : Swept T T' si v left) {n : Nat} (hn : si n = v) : Swept T (freeW T' n) si v (fun z => left z && !z.sameKey (.int .i64 (n : Int))) := by
  intro k hk
  show _ = (bit T k && !(si k == v && !(left (.int .i64 (k : Int)) && !(Lit.int .i64 (k : Int)).sameKey (.int .i64 (n : Int)))))
  rw [bit_freeW, h k hk]
  by_cases e : k = n
  · subst e
    rw [strike_same]
    simp [hn]
  · rw [strike_other left e]
    simp [e]
set_option maxRecDepth 100000 in
theorem Swept.miss {T T' : Nat → Nat} {si : Nat → Nat} {v : Nat} {left : Lit → Bool} (h : Swept T T' si v left) {n : Nat} (hn : si n ≠ v) : Swept T T' si v (fun z => left z && !z.sameKey (.int .i64 (n : Int))) := by
  intro k hk
  show _ = (bit T k && !(si k == v && !(left (.int .i64 (k : Int)) && !(Lit.int .i64 (k : Int)).sameKey (.int .i64 (n : Int)))))
  rw [h k hk]
  by_cases e : k = n
  · subst e
    have : (si k == v) = false := by rw [beq_eq_false_iff_ne]; exact hn
    rw [this]
    simp
  · rw [strike_other left e]
set_option maxRecDepth 100000 in
theorem Swept.done {T T' : Nat → Nat} {si : Nat → Nat} {v : Nat} {left : Lit → Bool} (h : Swept T T' si v left) (hl : ∀ kl, left kl = false) : ∀ k, k < 16384 → bit T' k = (bit T k && !(si k == v)) := by
  intro k hk
  rw [h k hk, hl]
  simp

set_option maxRecDepth 100000 in
/-- What has come out. -/
theorem Since.entry {D : DataW Value} {si : Nat → Nat} (h : Since D si) {x c : Int} (hx : has D (.int .i64 x) = true) (hat : ∀ zd, D.atKey (.int .i64 x) zd = .lit (.int .i64 c)) : ∃ n : Nat, x = n ∧ c = si n ∧ si n ≠ 0 := by
  obtain ⟨n, e, hn⟩ := h.keys _ hx
  have hxn : x = n := (Lit.int.inj e).2
  subst hxn
  have h1 := h.at_ n
  rw [hat] at h1
  exact ⟨n, rfl, (Lit.int.inj (DataW.lit.inj h1)).2, hn⟩

set_option maxRecDepth 100000 in
theorem Wturn.grown {p off r : Nat} {u w w' : World} (h : Wturn p off u w) (hg : w.grownBy w' (some r)) (hr : u.heap.size ≤ r) (hp : p < u.heap.size) : Wturn p off u w' :=
  ⟨h.turn.then (turn_of_grown hg) (fun x hx => by rw [List.mem_singleton.1 hx]; exact .inr hr), fun o ho => ((turn_of_grown hg).cell (p := ⟨p, o, none⟩) (Nat.lt_of_lt_of_le hp h.turn.size) (by simp; omega)).trans (h.out o ho)⟩
set_option maxRecDepth 100000 in
theorem turn_of_none {w w' : World} (h : w.grownBy w' none) : Turn [] w w' := ⟨h.os, h.tape, h.output, h.size, fun k hk _ => h.block k hk (by simp)⟩
set_option maxRecDepth 100000 in
theorem grown_of_turn {p : Nat} {w w' : World} (h : Turn [p] w w') : w.grownBy w' (some p) := ⟨h.os, h.tape, h.output, h.size, fun k hk hn => h.block k hk (fun hm => hn (by rw [List.mem_singleton.1 hm]))⟩

set_option maxRecDepth 100000 in
/-- The bitmap has turned, and there is a new 'since'. -/
theorem PgAt.newSince {w w1 : World} {p b sm rb N : Nat} {d l : Int} {q : Pg} (h : PgAt w p b sm rb N d l q) (hT : Wturn p 9 w w1) {T : Nat → Nat} (hW : WordsAt w1 p 9 T) {q' : Pg} (e1 : q'.dead = q.dead) (e2 : q'.c = q.c) (e3 : q'.root = q.root) (e4 : ∀ n, q'.si n = 0) (hb : ∀ k, k < 16384 → bit T k = (q'.rd && q'.tk N k)) :
    PgAt ((w1.alloc (.map #[] 0)).setCell ⟨p, 265, none⟩ (.map (some w1.heap.size))) p b w1.heap.size rb N d l q' := by
  have hp1 := hW.blk
  have hT1 : Turn [] w1 (w1.alloc (.map #[] 0)) := (Turn.refl [] w1).alloc _
  have hT2 : Turn [p] (w1.alloc (.map #[] 0)) ((w1.alloc (.map #[] 0)).setCell ⟨p, 265, none⟩ (.map (some w1.heap.size))) := (Turn.refl [p] _).setCell (List.mem_singleton.2 rfl) _ _
  have ho : ∀ o, o < 9 → ((w1.alloc (.map #[] 0)).setCell ⟨p, 265, none⟩ (.map (some w1.heap.size))).cell? ⟨p, o, none⟩ = w.cell? ⟨p, o, none⟩ := fun o h' =>
    ((World.cell?_setCell_other _ _ _ _ (off_ne (by omega))).trans (hT1.cell (p := ⟨p, o, none⟩) hp1 (by simp))).trans (hT.out o (by omega))
  obtain ⟨x1, k1⟩ := h.c1
  obtain ⟨x2, k2⟩ := h.c2
  obtain ⟨ra, rc, k5, hB, hn, hx⟩ := h.c5
  have hr : ∀ x, q.root ≠ [] → ra = some x → x.block ∉ [p] := fun x h1 h2 hm => h.nr (by rw [← hx x h1 h2]; exact (List.mem_singleton.1 hm).symm)
  have c265 : (w1.alloc (.map #[] 0)).cell? ⟨p, 265, none⟩ = some (.map (some sm)) := ((hT1.cell (p := ⟨p, 265, none⟩) hp1 (by simp)).trans (hT.out 265 (by omega))).trans h.cs
  refine ⟨(ho 0 (by omega)).trans h.c0, ⟨x1, (ho 1 (by omega)).trans k1⟩, ⟨x2, (ho 2 (by omega)).trans k2⟩, by rw [e1]; exact (ho 3 (by omega)).trans h.c3, by rw [e2]; exact (ho 4 (by omega)).trans h.c4,
    ⟨ra, rc, by rw [e3]; exact (ho 5 (by omega)).trans k5, by rw [e3]; exact ((hB.turn hT.turn hr).turn hT1 (by simp)).turn hT2 hr, hn, by rw [e3]; exact hx⟩, (ho 6 (by omega)).trans h.c6, (ho 7 (by omega)).trans h.c7, ⟨T, ?_, hb⟩,
    World.cell?_setCell_same _ _ _ c265, ⟨0, .map [], Nat.zero_le _, (World.ownsMap_made w1 Tryz.prog 3 (plainElem Tryz.prog 3)).setCell (by simp; omega) _, ⟨fun kl hk => by simp [has] at hk, fun n => by rw [e4 n]; rfl⟩⟩, by omega, h.nr⟩
  have hWa := hW.turn hT1 (by simp)
  exact ⟨fun i hi => (World.cell?_setCell_other _ _ _ _ (off_ne (by omega))).trans (hWa.cell i hi), fun o => by rw [World.frozen?_setCell]; exact hWa.fz o, hWa.lt, by rw [World.size_setCell]; exact hWa.blk⟩

end Go.Proofs.YthgpjkcgccdldaaGreatDoor

namespace Go.Proofs.YthgpjkcgccdldaaGreatDoor
open Go.RowKit Go.Maps

/-- The disk when the first blocks of a Commit's map, when all of its map, and when its head, is written. -/
def St.maps (s : St) (c : Nat) (T : Nat → Nat) : Nat → St
  | 0 => s
  | j + 1 => (s.maps c T j).did (2 + c % 2 * mbs s.n + j) (bytesOf 512 (mapB T j))
def St.mapped (s : St) (c : Nat) (T : Nat → Nat) : St := s.maps c T (mbs s.n)
theorem St.maps_n (s : St) (c : Nat) (T : Nat → Nat) : ∀ j, (s.maps c T j).n = s.n
  | 0 => rfl
  | j + 1 => St.maps_n s c T j
theorem St.maps_k (s : St) (c : Nat) (T : Nat → Nat) : ∀ j, (s.maps c T j).k = s.k + j
  | 0 => rfl
  | j + 1 => by
    show (s.maps c T j).k + 1 = _
    rw [St.maps_k s c T j]
    rfl
theorem St.maps_dead (s : St) (c : Nat) (T : Nat → Nat) : ∀ j, (s.maps c T j).dead = s.dead
  | 0 => rfl
  | j + 1 => St.maps_dead s c T j
theorem St.maps_on (s : St) (c : Nat) (T : Nat → Nat) (h : s.left < 0) : ∀ j, (s.maps c T j).left = s.left
  | 0 => rfl
  | j + 1 => by
    show (if (s.maps c T j).left < 0 then (s.maps c T j).left else (s.maps c T j).left - 1) = _
    rw [St.maps_on s c T h j, if_pos h]
theorem St.maps_off (s : St) (c : Nat) (T : Nat → Nat) (h : 0 ≤ s.left) : ∀ j : Nat, ((j : Nat) : Int) ≤ s.left → (s.maps c T j).left = s.left - j
  | 0, _ => by show s.left = s.left - 0; omega
  | j + 1, hj => by
    show (if (s.maps c T j).left < 0 then (s.maps c T j).left else (s.maps c T j).left - 1) = _
    rw [St.maps_off s c T h j (by omega), if_neg (by omega)]
    omega
theorem St.maps_old (s : St) (c : Nat) (T : Nat → Nat) (i : Nat) : ∀ j, (∀ k, k < j → i ≠ 2 + c % 2 * mbs s.n + k) → (s.maps c T j).f i = s.f i
  | 0, _ => rfl
  | j + 1, h => (St.did_f _ _ _ _ (h j (by omega))).trans (St.maps_old s c T i j fun k hk => h k (by omega))
theorem St.maps_new (s : St) (c : Nat) (T : Nat → Nat) (i : Nat) : ∀ j, i < j → (s.maps c T j).f (2 + c % 2 * mbs s.n + i) = bytesOf 512 (mapB T i)
  | j + 1, h => by
    by_cases e : i = j
    · subst e
      exact St.did_f_same _ _ _
    · exact (St.did_f _ _ _ _ (by omega)).trans (St.maps_new s c T i j (by omega))
def St.headed (s : St) (c : Nat) (root : List Nat) (T : Nat → Nat) : St := (s.mapped c T).did (c % 2) (bytesOf 512 (headB c root))

set_option maxRecDepth 100000 in
theorem fB_did_same (s : St) (j : Nat) (B : Nat → Nat) : ∀ i, i < 512 → fB (s.did j (bytesOf 512 B)) j i = B i := by
  intro i hi
  unfold fB
  rw [St.did_f_same, bytesOf_get _ _ _ hi]

set_option maxRecDepth 100000 in
theorem hd_congr {A B : Nat → Nat} (h : ∀ i, i < 512 → A i = B i) (hb : B 12 ≤ 64) : hdNum A = hdNum B ∧ hdC A = hdC B ∧ hdR A = hdR B := by
  have h1 : hdSum A = hdSum B := by unfold hdSum; rw [bytesOf_congr fun i hi => h i (by omega)]
  have h2 : hdCrc A = hdCrc B := by
    have e : (bytesOf 508 fun i => A (4 + i)) = bytesOf 508 fun i => B (4 + i) := bytesOf_congr fun i hi => h _ (by omega)
    unfold hdCrc
    rw [e]
  have h3 : hdNum A = hdNum B := by
    have e : (bytesOf 8 fun i => A (4 + i)) = bytesOf 8 fun i => B (4 + i) := bytesOf_congr fun i hi => h _ (by omega)
    unfold hdNum
    rw [e]
  refine ⟨h3, by unfold hdC; rw [h1, h2, h3], ?_⟩
  unfold hdR
  rw [h1, h2, h 12 (by omega), bytesOf_congr fun i hi => h _ (by omega)]

set_option maxRecDepth 100000 in
theorem headB_12 (c : Nat) (root : List Nat) : headB c root 12 = root.length := by
  unfold headB putN headB0 setB
  rw [if_neg (by omega), if_neg (by omega), if_pos rfl]

set_option maxRecDepth 100000 in
theorem bytesOf_mem {n : Nat} {B : Nat → Nat} (h : ∀ i, B i < 256) : ∀ x ∈ bytesOf n B, x < 256 := bytesOf_lt h

set_option maxRecDepth 100000 in
/-- The map alone, or its first blocks, is written: what was committed holds. -/
theorem Laid.maps {s : St} {c : Nat} {root : List Nat} {K : Nat → Bool} (h : Laid s c root K) (T : Nat → Nat) : ∀ j, j ≤ mbs s.n → s.k + j < 1000000 → Laid (s.maps (c + 1) T j) c root K
  | 0, _, _ => h
  | j + 1, hj, hk => by
    have ih := Laid.maps h T j (by omega) (by omega)
    refine ih.did (by omega) ?_ (bytesOf_length _ _) (bytesOf_mem (mapB_lt T j)) (by rw [St.maps_k]; omega)
    rw [St.maps_n]
    have hc : c % 2 = 0 ∧ (c + 1) % 2 = 1 ∨ c % 2 = 1 ∧ (c + 1) % 2 = 0 := by omega
    rcases hc with ⟨h1, h2⟩ | ⟨h1, h2⟩
    · rw [h1, h2]; omega
    · rw [h1, h2]; omega
theorem Laid.mapped {s : St} {c : Nat} {root : List Nat} {K : Nat → Bool} (h : Laid s c root K) (T : Nat → Nat) (hk : s.k + mbs s.n < 1000000) : Laid (s.mapped (c + 1) T) c root K := h.maps T _ (Nat.le_refl _) hk

set_option maxRecDepth 100000 in
/-- The head is written too: the new Commit holds. -/
theorem Laid.headed {s : St} {c : Nat} {root : List Nat} {K : Nat → Bool} (h : Laid s c root K) (T : Nat → Nat) (hT : ∀ i, T i < 18446744073709551616) (root' : List Nat) (hr : root'.length ≤ 64) (hrb : ∀ x ∈ root', x < 256) (K' : Nat → Bool)
    (hK : ∀ n, fp s.n ≤ n → n < s.n → bit T n = K' n) (hKr : ∀ n, K' n = true → fp s.n ≤ n ∧ n < s.n) (hk : s.k < 999990) : Laid (s.headed (c + 1) root' T) (c + 1) root' K' := by
  obtain ⟨f4, f10, fN, m1, m4, fe, fc⟩ := fp_bd h.n64 h.n16
  have hm := h.mapped T (by omega)
  have hmn : (s.headed (c + 1) root' T).n = s.n := St.maps_n s (c + 1) T _
  have hmk : (s.mapped (c + 1) T).k = s.k + mbs s.n := St.maps_k s (c + 1) T _
  have hc : c + 1 < 9223372036854775808 := by have := h.ck; omega
  obtain ⟨hb1, hb2, hb3⟩ := head_back (c + 1) hc root' hrb hr
  have hsame : ∀ i, i < 512 → fB (s.headed (c + 1) root' T) ((c + 1) % 2) i = headB (c + 1) root' i := fB_did_same _ _ _
  obtain ⟨e1, e2, e3⟩ := hd_congr hsame (by rw [headB_12]; exact hr)
  have hoth : fB (s.headed (c + 1) root' T) ((c + 1 + 1) % 2) = fB s (c % 2) := by
    have h1 : (s.headed (c + 1) root' T).f ((c + 1 + 1) % 2) = (s.mapped (c + 1) T).f ((c + 1 + 1) % 2) := St.did_f _ _ _ _ (by omega)
    have h2 : (s.mapped (c + 1) T).f ((c + 1 + 1) % 2) = s.f ((c + 1 + 1) % 2) := St.maps_old _ _ _ _ _ fun k _ => by omega
    rw [fB_of (h1.trans h2), show (c + 1 + 1) % 2 = c % 2 by omega]
  have hcl : hdC (fB s (c % 2)) < c + 1 := by
    by_cases h0 : c = 0
    · obtain ⟨_, h1, h2⟩ := h.zero h0
      subst h0
      show hdC (fB s 0) < 1
      omega
    · have := (h.some (by omega)).1; omega
  refine ⟨hm.good.did (bytesOf_length _ _) (by rw [hmk]; omega), by rw [hmn]; exact h.n64, by rw [hmn]; exact h.n16, ?_, ?_, by show c + 1 ≤ (s.mapped (c + 1) T).k + 1; rw [hmk]; have := h.ck; omega, fun h0 => by omega, fun _ => ⟨by rw [e2, hb2], by rw [e3, hb3], by rw [hoth]; exact hcl⟩, ⟨T, hT, ?_, by rw [hmn]; exact hK⟩, by rw [hmn]; exact hKr, hr, hrb⟩
  · intro i x hx
    by_cases e : i = (c + 1) % 2
    · rw [e] at hx
      have : (s.headed (c + 1) root' T).f ((c + 1) % 2) = bytesOf 512 (headB (c + 1) root') := St.did_f_same _ _ _
      rw [this] at hx
      exact bytesOf_mem (headB_lt _ _ hrb hr) x hx
    · have : (s.headed (c + 1) root' T).f i = (s.mapped (c + 1) T).f i := St.did_f _ _ _ _ e
      rw [this] at hx
      exact hm.byte i x hx
  · intro i hi
    by_cases e : i = (c + 1) % 2
    · rw [e, e1, hb1]; exact hc
    · have : i = (c + 1 + 1) % 2 := by omega
      rw [this, hoth]
      exact h.num _ (Nat.mod_lt _ (by decide))
  · rw [hmn]
    intro j hj
    have h1 : (s.headed (c + 1) root' T).f (2 + (c + 1) % 2 * mbs s.n + j) = (s.mapped (c + 1) T).f (2 + (c + 1) % 2 * mbs s.n + j) := St.did_f _ _ _ _ (by omega)
    rw [h1]
    exact St.maps_new _ _ _ _ _ hj

set_option maxRecDepth 100000 in
theorem page_maps (s : St) (c : Nat) (T : Nat → Nat) (h1 : 64 ≤ s.n) (h2 : s.n ≤ 16384) (n : Nat) (hn : fp s.n ≤ n) (j : Nat) (hj : j ≤ mbs s.n) : (s.maps c T j).f n = s.f n := by
  have := slot_map c h1 h2
  exact St.maps_old _ _ _ _ _ fun k hk => by omega
theorem page_headed (s : St) (c : Nat) (root : List Nat) (T : Nat → Nat) (h1 : 64 ≤ s.n) (h2 : s.n ≤ 16384) (n : Nat) (hn : fp s.n ≤ n) : (s.headed c root T).f n = s.f n := by
  have := fp_bd h1 h2
  exact (St.did_f _ _ _ _ (by omega)).trans (page_maps s c T h1 h2 n hn _ (Nat.le_refl _))

set_option maxRecDepth 100000 in
set_option maxHeartbeats 3200000 in
theorem writeCommit_any (p b m sm rb nx : Nat) (s : St) (q : Pg) (hd : s.dead = false) (hk : s.k < 999990) (T : Nat → Nat) (ra : Option Addr) (rc : Nat) (root : List Nat) (n : Nat) (hn : root.length = n) (hl : n ≤ 64) (hrb : ∀ x ∈ root, x < 256)
    (w : World) (hA : PAt w p b m sm rb s q) (hW : WordsAt w nx 0 T) (hnx : nx ≠ p ∧ nx ≠ b ∧ nx ≠ m) (hB : BytesAt w ra root) (hx : ∀ x, root ≠ [] → ra = some x → x.block ≠ p ∧ x.block ≠ b ∧ x.block ≠ m) :
    Calls Tryz.prog 138 #[.pointer (some ⟨p, 0, none⟩), .agg #[.int .i64 (q.c + 1 : Nat), .slice ra n rc], .pointer (some ⟨nx, 0, none⟩)] w fun e w' =>
      (e = .returned (.int .i64 0) ∧ ¬ (0 ≤ s.left ∧ s.left ≤ mbs s.n) ∧ DiskAt w' b m (s.headed (q.c + 1) root T) ∧ PgAt w' p b sm rb s.n q.word 0 q ∧ Turn [p, b, m] w w') ∨
      (e = .returned (.int .i64 12) ∧ (0 ≤ s.left ∧ s.left ≤ mbs s.n) ∧ (∃ s', s'.dead = true ∧ s'.n = s.n ∧ Laid s' q.c q.root q.K ∧ (∀ k, fp s.n ≤ k → s'.f k = s.f k) ∧ DiskAt w' b m s') ∧ Turn [p, b, m] w w') := by
  have hck := hA.laid.ck
  have hcb : q.c + 1 < 1000000000 := by omega
  obtain ⟨c', hc'⟩ : ∃ c', c' = q.c + 1 := ⟨_, rfl⟩
  rw [← hc'] at hcb ⊢
  have HC' := hide hc'
  clear hc' hck
  have hT0 : Turn [] w (w.alloc (.cells #[.int .i64 (c' : Nat), .slice ra n rc] 118)) := (Turn.refl [] w).alloc _
  have hk0 : (w.alloc (.cells #[.int .i64 (c' : Nat), .slice ra n rc] 118)).cell? ⟨w.heap.size, 0, none⟩ = some (.int .i64 (c' : Nat)) := World.cell?_alloc_at _ _ _ _ rfl
  have hk1 : (w.alloc (.cells #[.int .i64 (c' : Nat), .slice ra n rc] 118)).cell? ⟨w.heap.size, 1, none⟩ = some (.slice ra n rc) := World.cell?_alloc_at _ _ _ _ rfl
  have hkl : w.heap.size < (w.alloc (.cells #[.int .i64 (c' : Nat), .slice ra n rc] 118)).heap.size := by simp
  have HA0 := hide (hA.turn0 hT0)
  have HW0 := hide (hW.turn hT0 (by simp))
  have HB0 := hide (hB.turn hT0 (by simp))
  have hpl := hA.pg.lt
  have hbl := hA.disk.lt
  have hml := hA.disk.ltm
  have h0 := hA.pg.c0
  have hn1 := hA.laid.n64
  have hn2 := hA.laid.n16
  have HX := hide hx
  have HN := hide hn
  have HRb := hide hrb
  have hnx1 := hnx.1
  have hnx2 := hnx.2.1
  have hnx3 := hnx.2.2
  have HS := hide (fun w' => slotOf_any c' hcb w')
  have HM := hide (fun w' => mapStart_any (c' % 2) s.n (by omega) (by omega) w')
  have HMb := hide (fun w' => mapBlocks_any s.n (by omega) w')
  obtain ⟨f4, f10, fN, m1, m4, fe, fc⟩ := fp_bd hn1 hn2
  have hsl := slot_map c' hn1 hn2
  obtain ⟨fr, hfr⟩ : ∃ fr, fr = 2 + c' % 2 * mbs s.n := ⟨_, rfl⟩
  rw [← hfr] at HM hsl
  have HFr := hide hfr
  clear hfr
  clear hA hW hB hx hn hrb hnx
  go_enter Tryz.func138, Tryz.ntmps138
  go_wp2_with fail
  generalize hw0 : w.alloc (.cells #[.int .i64 (c' : Nat), .slice ra n rc] 118) = w0 at *
  clear hw0 h0
  refine (blocks_any b m s w0 HA0.out.disk).mono ?_
  rintro e w1 ⟨rfl, rfl⟩
  go_wp2_with fail
  refine (HS.out _).mono ?_
  rintro e w2 ⟨rfl, rfl⟩
  go_wp2_with fail
  refine (HM.out _).mono ?_
  rintro e w2 ⟨rfl, rfl⟩
  go_wp2_with fail
  refine (HMb.out _).mono ?_
  rintro e w2 ⟨rfl, rfl⟩
  go_wp2_with fail
  go_loopw [25] (fun i wr => ∃ j : Nat, j ≤ mbs s.n ∧ i = .int .i64 (j : Nat) ∧ (s.left < 0 ∨ (j : Int) ≤ s.left) ∧ DiskAt wr b m (s.maps c' T j) ∧ PgAt wr p b sm rb s.n q.word 0 q ∧ Turn [p, b, m] w2 wr) (fun i _ => mbs s.n - (intOf i).toNat)
  case atStart => exact ⟨0, Nat.zero_le _, rfl, by omega, HA0.out.disk, HA0.out.pg, Turn.refl _ _⟩
  case round =>
    obtain ⟨j, hj, rfl, hlj, hD3, hP3, hT3⟩ := hrel
    have hg1 : Hid (Laid (s.maps c' T j) q.c q.root q.K) := by show Laid _ _ _ _; rw [HC'.out]; exact HA0.out.laid.maps T j hj (by omega)
    have hdj : (s.maps c' T j).dead = false := (St.maps_dead s c' T j).trans hd
    have hnj := St.maps_n s c' T j
    by_cases hlt : j < mbs s.n
    · have hslot : fr + j < (s.maps c' T j).n := by rw [hnj]; omega
      have HT3 := hide hT3
      have HWr := hide (HW0.out.turn hT3 (by simp; omega))
      have HD3 := hide hD3
      have HP3 := hide hP3
      have hplr := hP3.lt
      clear hD3 hP3
      go_wp2_with fail
      refine (block_any nx 0 j (by omega) T wr HWr.out).mono ?_
      rintro e w3 ⟨rfl, hR3, hT4⟩
      have HR3 := hide hR3.bytes0
      have HD4 := hide (HD3.out.turn hT4 (by simp) (by simp))
      have HP4 := hide (HP3.out.turn0 hT4)
      have HPw := hide (pwrite_any p b m sm rb s.n q.word 0 q HA0.out.apart (s.maps c' T j) hg1.out.good (fr + j : Nat) wr.heap.size (bytesOf 512 (mapB T j)) (bytesOf_length _ _) w3 HR3.out HD4.out HP4.out)
      rw [show ((fr + j : Nat) : Int) = (fr : Int) + (j : Int) by omega] at HPw
      clear hR3
      by_cases h0 : (s.maps c' T j).left = 0
      · have hcut := St.write_cut (l := bytesOf 512 (mapB T j)) hdj hslot (bytesOf_length _ _) h0
        rw [show ((fr + j : Nat) : Int) = (fr : Int) + (j : Int) by omega] at hcut
        rw [hcut.1, hcut.2] at HPw
        have Hor : Hid (0 ≤ s.left ∧ s.left ≤ mbs s.n) := by
          show _ ∧ _
          by_cases hs : s.left < 0
          · rw [St.maps_on s c' T hs] at h0
            omega
          · rw [St.maps_off s c' T (by omega) j (by omega)] at h0
            omega
        clear hcut h0
        go_wp2_with fail
        refine HPw.out.mono ?_
        rintro e w5 ⟨rfl, _, hD5, hT5, _⟩
        have HD5 := hide hD5
        clear hD5
        go_wp2_with fail
        go_ret
        exact .inr ⟨rfl, Hor.out, ⟨{ s.maps c' T j with dead := true }, rfl, hnj, hg1.out.dead true, fun k hk => page_maps s c' T hn1 hn2 k hk j hj, HD5.out⟩, ((hT0.mono (by simp)).trans (HT3.out.then hT4 (by simp))).trans hT5⟩
      · have hdid := St.write_did (l := bytesOf 512 (mapB T j)) hdj hslot (bytesOf_length _ _) h0
        rw [show ((fr + j : Nat) : Int) = (fr : Int) + (j : Int) by omega] at hdid
        rw [hdid.1, hdid.2] at HPw
        have hnext : (s.maps c' T j).did (fr + j) (bytesOf 512 (mapB T j)) = s.maps c' T (j + 1) := by rw [HFr.out]; rfl
        rw [hnext] at HPw
        have hlj' : s.left < 0 ∨ ((j + 1 : Nat) : Int) ≤ s.left := by
          by_cases hs : s.left < 0
          · exact .inl hs
          · rw [St.maps_off s c' T (by omega) j (by omega)] at h0
            omega
        clear hdid h0 hnext
        go_wp2_with fail
        refine HPw.out.mono ?_
        rintro e w5 ⟨rfl, hP5, hD5, hT5, _⟩
        rw [if_pos trivial] at hP5
        have HD5 := hide hD5
        have HP5 := hide hP5
        clear hD5 hP5
        go_wp2_with fail
        go_roundw
        case rel => exact ⟨j + 1, by omega, by go_num, hlj', HD5.out, HP5.out, (HT3.out.then hT4 (by simp)).trans hT5⟩
        case measure => simp [intOf]; omega
    · obtain rfl : j = mbs s.n := by omega
      have hS : w.heap.size ∉ [p, b, m] := by simp; omega
      have hk0' := (hT3.cell (p := ⟨w.heap.size, 0, none⟩) hkl hS).trans hk0
      have hk1' := (hT3.cell (p := ⟨w.heap.size, 1, none⟩) hkl hS).trans hk1
      have HD3 := hide hD3
      have HP3 := hide hP3
      have HB3 := hide (HB0.out.turn hT3 (fun x h1 h2 => by have := HX.out x h1 h2; simp; omega))
      have HH := hide (headBlock_any c' (by omega) ra rc root n HN.out hl HRb.out wr HB3.out)
      change DiskAt wr b m (s.mapped c' T) at hD3
      change Hid (Laid (s.mapped c' T) q.c q.root q.K) at hg1
      change (s.mapped c' T).dead = false at hdj
      change (s.mapped c' T).n = s.n at hnj
      have hslot : c' % 2 < (s.mapped c' T).n := by rw [hnj]; omega
      have HMl : Hid ((s.left < 0 → (s.mapped c' T).left = s.left) ∧ (0 ≤ s.left → (s.mapped c' T).left = s.left - mbs s.n)) := ⟨fun h => St.maps_on s c' T h _, fun h => St.maps_off s c' T h _ (by omega)⟩
      clear hD3 hP3 hk0 hk1
      go_wp2_with fail
      refine HH.out.mono ?_
      rintro e w4 ⟨rfl, hR4, hT4⟩
      have HR4 := hide hR4.bytes0
      have HD4 := hide (HD3.out.turn hT4 (by simp) (by simp))
      have HP4 := hide (HP3.out.turn0 hT4)
      have HPw := hide (pwrite_any p b m sm rb s.n q.word 0 q HA0.out.apart (s.mapped c' T) hg1.out.good (c' % 2 : Nat) (wr.heap.size + 1) (bytesOf 512 (headB c' root)) (bytesOf_length _ _) w4 HR4.out HD4.out HP4.out)
      have hT04 : Turn [p, b, m] w w4 := ((hT0.mono (by simp)).trans hT3).trans (hT4.mono (by simp))
      clear hR4
      by_cases h0 : (s.mapped c' T).left = 0
      · have hcut := St.write_cut (s := s.mapped c' T) (l := bytesOf 512 (headB c' root)) hdj hslot (bytesOf_length _ _) h0
        rw [hcut.1, hcut.2] at HPw
        have Hor : Hid (0 ≤ s.left ∧ s.left ≤ mbs s.n) := by
          show _ ∧ _
          by_cases hs : s.left < 0
          · have := HMl.out.1 hs
            omega
          · have := HMl.out.2 (by omega)
            omega
        clear hcut h0
        go_wp2_with fail
        refine HPw.out.mono ?_
        rintro e w5 ⟨rfl, _, hD5, hT5, _⟩
        have HD5 := hide hD5
        clear hD5
        go_wp2_with fail
        go_ret
        exact .inr ⟨rfl, Hor.out, ⟨{ s.mapped c' T with dead := true }, rfl, hnj, hg1.out.dead true, fun k hk => page_maps s c' T hn1 hn2 k hk _ (Nat.le_refl _), HD5.out⟩, hT04.trans hT5⟩
      · have hdid := St.write_did (s := s.mapped c' T) (l := bytesOf 512 (headB c' root)) hdj hslot (bytesOf_length _ _) h0
        rw [hdid.1, hdid.2] at HPw
        have H0 : Hid (¬ (0 ≤ s.left ∧ s.left ≤ mbs s.n)) := by
          intro e
          have := HMl.out.2 e.1
          omega
        clear hdid h0
        go_wp2_with fail
        refine HPw.out.mono ?_
        rintro e w5 ⟨rfl, hP5, hD5, hT5, _⟩
        rw [if_pos trivial] at hP5
        have HD5 := hide hD5
        have HP5 := hide hP5
        clear hD5 hP5
        go_wp2_with fail
        go_ret
        exact .inl ⟨rfl, H0.out, HD5.out, HP5.out, hT04.trans hT5⟩
end Go.Proofs.YthgpjkcgccdldaaGreatDoor

namespace Go.Proofs.YthgpjkcgccdldaaGreatDoor
open Go.RowKit Go.Maps

/-- A bitmap's words as cells. -/
def wlist (T : Nat → Nat) : List Value := (List.range 256).map fun i => Value.int .u64 (T i : Nat)
set_option maxRecDepth 100000 in
theorem wlist_length (T : Nat → Nat) : (wlist T).length = 256 := by simp [wlist]
set_option maxRecDepth 100000 in
theorem wlist_get (T : Nat → Nat) (j : Nat) (u : Value) (h : (wlist T)[j]? = some u) : j < 256 ∧ u = .int .u64 (T j : Nat) := by
  have hj : j < 256 := by
    rcases Nat.lt_or_ge j 256 with h' | h'
    · exact h'
    · rw [List.getElem?_eq_none (by rw [wlist_length]; exact h')] at h; cases h
  refine ⟨hj, ?_⟩
  simp [wlist, hj] at h
  exact h.symm
set_option maxRecDepth 100000 in
theorem wlist_at (T : Nat → Nat) (j : Nat) (hj : j < 256) : (wlist T)[j]? = some (.int .u64 (T j : Nat)) := by simp [wlist, hj]
set_option maxRecDepth 100000 in
theorem wlist_one (T : Nat → Nat) : ∀ v ∈ wlist T, v.oneCell' = true := by
  intro v hv
  obtain ⟨i, _, rfl⟩ := List.mem_map.1 hv
  rfl

set_option maxRecDepth 100000 in
theorem words_src {w : World} {g off : Nat} {T : Nat → Nat} (h : WordsAt w g off T) : ∀ j u, (wlist T)[j]? = some u → w.cell? ((⟨g, off, none⟩ : Addr).add j) = some u := by
  intro j u hu
  obtain ⟨hj, rfl⟩ := wlist_get T j u hu
  rw [add_spot]
  exact h.cell j hj

set_option maxRecDepth 100000 in
theorem words_load {w : World} {g off : Nat} {T : Nat → Nat} (h : WordsAt w g off T) : (loadCellsFrom ⟨g, off, none⟩ 0 256 #[]).run Tryz.prog w = .ok (wlist T).toArray w := by
  have := run_loadCells_list (P := Tryz.prog) w ⟨g, off, none⟩ (wlist T) (words_src h)
  rw [wlist_length] at this
  exact this

set_option maxRecDepth 100000 in
theorem words_new (w : World) {T : Nat → Nat} (hT : ∀ i, T i < 18446744073709551616) : WordsAt (w.alloc (.cells (wlist T).toArray 114)) w.heap.size 0 T := by
  refine ⟨fun i hi => ?_, fun o => World.frozen?_alloc_at _ _ _ _ rfl, hT, by simp⟩
  rw [Nat.zero_add, World.cell?_alloc_at _ _ _ _ rfl, List.getElem?_toArray, wlist_at T i hi]

set_option maxRecDepth 100000 in
theorem words_put {w : World} {g off : Nat} {T : Nat → Nat} (h : WordsAt w g off T) {T' : Nat → Nat} (hT : ∀ i, T' i < 18446744073709551616) : WordsAt (w.setCells g off (wlist T')) g off T' ∧ Wturn g off w (w.setCells g off (wlist T')) := by
  have hsz : ∀ (vs : List Value) (o : Nat) (w : World), (w.setCells g o vs).heap.size = w.heap.size := by
    intro vs
    induction vs with
    | nil => intro o w; rfl
    | cons v vs ih => intro o w; show ((w.setCell _ _).setCells g (o + 1) vs).heap.size = _; rw [ih, World.size_setCell]
  refine ⟨⟨fun i hi => ?_, fun o => by rw [World.frozen?_setCells]; exact h.fz o, hT, by rw [hsz]; exact h.blk⟩, ⟨setCells_turn (S := [g]) (by simp) _ _ (Turn.refl _ _), fun o ho => ?_⟩⟩
  · have := World.cell?_setCells_in g (wlist T') off w (fun j hj => by rw [h.cell j (by rw [wlist_length] at hj; exact hj)]; rfl) i (by rw [wlist_length]; exact hi)
    rw [this]
    have := wlist_at T' i hi
    rw [List.getElem?_eq_getElem (by rw [wlist_length]; exact hi)] at this
    exact this
  · exact World.cell?_setCells_out g _ off w ⟨g, o, none⟩ (fun _ _ => by rw [wlist_length]; exact ho)

def zw : Array Value := (wlist fun _ => 0).toArray
set_option maxRecDepth 100000 in
theorem zero78 (w : World) : Sem.run Tryz.prog (zeroValue 114) w = .ok (.agg zw) w := by kernel_rfl
set_option maxRecDepth 100000 in
theorem info78 : (Tryz.prog.info? 114).map (·.size) = some 256 := by kernel_rfl
set_option maxRecDepth 100000 in
theorem size78 (w : World) : Sem.run Tryz.prog (sizeOf 114) w = .ok 256 w := by kernel_rfl

/-- Behind a Commit. -/
def Pg.committed (q : Pg) (root : List Nat) : Pg := { dead := q.dead, c := q.c + 1, root := root, K := q.there, si := fun _ => 0, rd := true, u := 0 }

set_option maxRecDepth 100000 in
set_option maxHeartbeats 3200000 in
theorem commit_any (p b m sm rb : Nat) (s : St) (q : Pg) (hd : s.dead = false) (hq : q.dead = false) (hk : s.k < 999990) (a : Option Addr) (cap : Nat) (root : List Nat) (n : Nat) (hn : root.length = n) (hl : n ≤ 64) (hrb : ∀ x ∈ root, x < 256) (hnil : a = none → cap = 0)
    (w : World) (hA : PAt w p b m sm rb s q) (hB : BytesAt w a root) (hx : ∀ x, root ≠ [] → a = some x → x.block ≠ p) (_hrl : rb < w.heap.size) :
    Calls Tryz.prog 103 #[.pointer (some ⟨p, 0, none⟩), .slice a n cap] w fun e w' =>
      (e = .returned (.int .i64 0) ∧ ¬ (0 ≤ s.left ∧ s.left ≤ mbs s.n) ∧ (∃ s' sm' rb', s'.dead = false ∧ s'.n = s.n ∧ s'.k = s.k + mbs s.n + 1 ∧ (s.left < 0 → s'.left < 0) ∧ (∀ k, fp s.n ≤ k → s'.f k = s.f k) ∧ w.heap.size ≤ sm' ∧ w.heap.size ≤ rb' ∧ rb' < w'.heap.size ∧ PAt w' p b m sm' rb' s' (q.committed root)) ∧ Turn [p, b, m] w w') ∨
      (e = .returned (.int .i64 12) ∧ (0 ≤ s.left ∧ s.left ≤ mbs s.n) ∧ (∃ s', s'.dead = true ∧ s'.n = s.n ∧ Laid s' q.c q.root q.K ∧ (∀ k, fp s.n ≤ k → s'.f k = s.f k) ∧ DiskAt w' b m s') ∧ Turn [p, b, m] w w') := by
  have HI := hide (isDead_no p b m sm rb s.n q.word 0 q s hq hd w hA.disk hA.pg hA.apart)
  have HA := hide hA
  have HB := hide hB
  have HX := hide hx
  have HN := hide hn
  have HRb := hide hrb
  have hpl := hA.pg.lt
  have hbl := hA.disk.lt
  have hml := hA.disk.ltm
  have hsl := hA.pg.lts
  have hz := zero78
  clear hA hB hx hn hrb
  go_enter Tryz.func103, Tryz.ntmps103
  go_wp2_with fail
  refine HI.out.mono ?_
  rintro e w1 ⟨rfl, hP1, hD1, hT1⟩
  have HA1 : Hid (PAt w1 p b m sm rb s q) := ⟨hD1, hP1, HA.out.laid, HA.out.apart, HA.out.s1, HA.out.s2, HA.out.s3, HA.out.s0, HA.out.tab.turn hT1 (by have := HA.out.pos.1; simp; omega), HA.out.pos⟩
  clear hP1 hD1
  go_wp2_with fail
  refine (freeMap_any p b m sm rb s q hd w1 HA1.out).mono ?_
  rintro e w2 ⟨rfl, hA2, hT2⟩
  obtain ⟨T, hW, hbt⟩ := hA2.pg.wd
  obtain ⟨N, hN, hld⟩ : ∃ N : Nat, (∀ w, Sem.run Tryz.prog (sizeOf 114) w = .ok N w) ∧ (loadCellsFrom ⟨p, 9, none⟩ 0 N #[]).run Tryz.prog w2 = .ok (wlist T).toArray w2 := ⟨256, size78, words_load hW⟩
  have HA2 := hide hA2
  have HBt : Hid (∀ k, k < 16384 → bit T k = q.tk s.n k) := fun k hk => by rw [hbt k hk]; rfl
  have HTl := hide hW.lt
  have hT02 := hT1.trans hT2
  have hst := run_storeCells_new (P := Tryz.prog) w2 114 zw (wlist T).toArray (by rw [List.size_toArray, wlist_length]; exact info78) (by show (wlist fun _ => 0).toArray.size = _; rw [List.size_toArray, List.size_toArray, wlist_length, wlist_length]) (all_oneCell_toArray (wlist_one T))
  have hsz : (wlist T).toArray.size = N := by
    have e := hN w2
    rw [size78] at e
    have : 256 = N := by injection e
    rw [← this, List.size_toArray, wlist_length]
  have hcs2 := hA2.pg.cs
  have hpl2 := hA2.pg.lt
  obtain ⟨nn, D, hnn, hM, hS⟩ := hA2.pg.since
  have hM3 := hM.alloc (.cells (wlist T).toArray 114)
  have HM3 := hide hM3
  have HS := hide hS
  clear hA2 hW hbt hT1 hT2 HA1 hM hM3 hnn hS
  go_wp2_with (first
    | (at_range; refine wpList_range_own _ rfl _ 111 rfl 3 3 law3 Tryz.underlying111 _ sm nn D rfl HM3.out ?_; intro w0 hrg0 hg0 hs0)
    | go_in)
  go_frame
  have hsz3 : (w2.alloc (.cells (wlist T).toArray 114)).heap.size = w2.heap.size + 1 := by simp
  rw [hsz3] at hrg0 hs0 ⊢
  have hT0 : Turn [] w2 w0 := ((Turn.refl [] w2).alloc (.cells (wlist T).toArray 114)).then (turn_of_none hg0) (by simp)
  have HW0 := hide ((words_new w2 HTl.out).turn (turn_of_none hg0) (by simp))
  have hsm2 : sm < w2.heap.size := Nat.lt_of_lt_of_le hsl hT02.size
  clear hld hst hsz hN hz hg0 HM3 hsz3
  go_loopw [6] (fun _ wr => ∃ (left : Lit → Bool) (cnt : Nat) (T' : Nat → Nat), wr.ranges Tryz.prog 3 (plainElem Tryz.prog 3) sm (w2.heap.size + 1) nn D left cnt ∧ (∀ kl, left kl = true → has D kl = true) ∧ WordsAt wr w2.heap.size 0 T' ∧ Swept T T' q.si 2 left ∧ Turn [] w2 wr)
    (fun _ wr => wr.rangeLeft sm (w2.heap.size + 1))
  case atStart => exact ⟨_, _, T, hrg0, fun _ h => h, HW0.out, Swept.start HS.out T (by omega), hT0⟩
  case round =>
    obtain ⟨left, cnt, T', hrg, hleft, hW', hsw, hTr⟩ := hrel
    have HLeft := hide hleft
    have HW' := hide hW'
    have HSw := hide hsw
    clear hleft hW' hsw hrg0 hT0 HW0 hs0
    go_wp2_with (first
      | (at_next; refine wpList_next_ranges_ii _ rfl _ rfl 3 3 .i64 .i64 law3 Tryz.underlying3 Tryz.underlying3 sm (w2.heap.size + 1) nn _ _ _ rfl hrg ?_ ?_)
      | go_in)
    · intro _ hl0
      have HSd := hide (HSw.out.done hl0)
      have HAr := hide (HA2.out.turn0 hTr)
      have h4 : wr.cell? ⟨p, 4, none⟩ = some (.int .i64 (q.c : Nat)) := HAr.out.pg.c4
      have hck := HA.out.laid.ck
      obtain ⟨c', hc'⟩ : ∃ c', c' = q.c + 1 := ⟨_, rfl⟩
      have HC' := hide hc'
      have hcc : ((q.c : Nat) : Int) + 1 = (c' : Int) := by omega
      have hcb : q.c < 1000000 := by omega
      have hT0r : Turn [p] w wr := hT02.then hTr (by simp)
      have HBr := hide (HB.out.turn hT0r (fun x h1 h2 => by have := HX.out x h1 h2; simp; omega))
      have HCl := hide (clone_any a cap root n HN.out (by omega) hnil wr HBr.out)
      have hplr := HAr.out.pg.lt
      have hnxr := HW'.out.blk
      have hsw := hT0r.size
      have h2r := hTr.size
      have h02 := hT02.size
      clear hrg HLeft HSw hl0 hc' hck
      go_wp2_with fail
      refine (load_any p 4 _ wr h4).mono ?_
      rintro e w5 ⟨rfl, rfl⟩
      go_wp2_with fail
      refine HCl.out.mono ?_
      rintro e w6 ⟨a', cc, rfl, hB6, hn6, hx6, hT6⟩
      have HB6 := hide (hB6.turn ((Turn.refl [] w6).alloc (.cells #[.int .i64 (c' : Nat), .slice a' n cc] 118)) (by simp))
      have HX6 := hide hx6
      have HN6 := hide hn6
      have hT67 : Turn [] w5 (w6.alloc (.cells #[.int .i64 (c' : Nat), .slice a' n cc] 118)) := hT6.alloc _
      have HA7 := hide (HAr.out.turn0 hT67)
      have HW7 := hide (HW'.out.turn hT67 (by simp))
      have hk71 : (w6.alloc (.cells #[.int .i64 (c' : Nat), .slice a' n cc] 118)).cell? ⟨w6.heap.size, 1, none⟩ = some (.slice a' n cc) := World.cell?_alloc_at _ _ _ _ rfl
      have hkl7 : w6.heap.size < (w6.alloc (.cells #[.int .i64 (c' : Nat), .slice a' n cc] 118)).heap.size := by simp
      have h6s := hT6.size
      have HWc := hide (writeCommit_any p b m sm rb w2.heap.size s { q with rd := true } hd (by omega) T' a' cc root n HN.out hl HRb.out (w6.alloc (.cells #[.int .i64 (c' : Nat), .slice a' n cc] 118)) HA7.out HW7.out ⟨by omega, by omega, by omega⟩ HB6.out (fun x h1 h2 => by have := HX6.out x h2; omega))
      have hq1 : ({ q with rd := true } : Pg).c + 1 = c' := HC'.out.symm
      rw [hq1] at HWc
      clear hB6 hx6 hn6 hq1
      go_wp2_with fail
      refine HWc.out.mono ?_
      rintro e w8 hpost
      rcases hpost with ⟨rfl, hl0, hD8, hP8, hT8⟩ | ⟨rfl, hor, hs', hT8⟩
      · have hP9 := hP8.setC c'
        have h48 : w8.cell? ⟨p, 4, none⟩ = some (.int .i64 (q.c : Nat)) := hP8.c4
        have hf48 := hP8.fz 4
        obtain ⟨_, _, h58, _⟩ := hP8.c5
        have hf58 := hP8.fz 5
        have h18 : w8.cell? ⟨w6.heap.size, 1, none⟩ = some (.slice a' n cc) := (hT8.cell (p := ⟨w6.heap.size, 1, none⟩) hkl7 (by simp; omega)).trans hk71
        have hB8 : BytesAt w8 a' root := HB6.out.turn hT8 (fun x h1 h2 => by have := HX6.out x h2; simp; omega)
        have hW8 : WordsAt w8 w2.heap.size 0 T' := HW7.out.turn hT8 (by simp; omega)
        have hTc : Turn [p] w8 (w8.setCell ⟨p, 4, none⟩ (.int .i64 (c' : Nat))) := (Turn.refl [p] w8).setCell (List.mem_singleton.2 rfl) _ _
        have hTd : Turn [p] w8 ((w8.setCell ⟨p, 4, none⟩ (.int .i64 (c' : Nat))).setCell ⟨p, 5, none⟩ (.slice a' n cc)) := hTc.setCell (List.mem_singleton.2 rfl) _ _
        have h8s := hT8.size
        obtain ⟨rb', hrb1, hrb2, hrb3⟩ : ∃ rb', w5.heap.size ≤ rb' ∧ rb' < w8.heap.size ∧ ∀ x, root ≠ [] → a' = some x → x.block = rb' := by
          by_cases hr : root = []
          · exact ⟨w6.heap.size, h6s, by omega, fun x h => absurd hr h⟩
          · obtain ⟨bb, off, rfl, hcb'⟩ := hB8.at (k := 0) (List.length_pos_iff.2 hr)
            exact ⟨bb, HX6.out _ rfl, lt_of_cell hcb', fun x _ hx => by obtain rfl := Option.some.inj hx; rfl⟩
        have hB9 : BytesAt (w8.setCell ⟨p, 4, none⟩ (.int .i64 (c' : Nat))) a' root := hB8.turn hTc (fun x h1 h2 => by have := HX6.out x h2; simp; omega)
        have hP10 := hP9.setRoot a' cc rb' root hB9 HN6.out hrb3 (by omega)
        rw [HN.out] at hP10
        obtain ⟨T9, hW9, _⟩ := hP10.wd
        have hW9n : WordsAt ((w8.setCell ⟨p, 4, none⟩ (.int .i64 (c' : Nat))).setCell ⟨p, 5, none⟩ (.slice a' n cc)) w2.heap.size 0 T' := hW8.turn hTd (by simp; omega)
        obtain ⟨hWn, hTn⟩ := words_put hW9 hW8.lt
        have hst2 := run_storeCells_cells (P := Tryz.prog) p 9 (wlist T') 0 ((w8.setCell ⟨p, 4, none⟩ (.int .i64 (c' : Nat))).setCell ⟨p, 5, none⟩ (.slice a' n cc)) (fun j hj => by rw [Nat.add_zero, hW9.cell j (by rw [wlist_length] at hj; exact hj)]; rfl) (fun j _ => hW9.fz _) (wlist_one T')
        rw [Nat.add_zero] at hst2
        obtain ⟨N2, hN2, hld2, hsz2, hN0⟩ : ∃ N : Nat, (∀ w, Sem.run Tryz.prog (sizeOf 114) w = .ok N w) ∧ (loadCellsFrom ⟨w2.heap.size, 0, none⟩ 0 N #[]).run Tryz.prog ((w8.setCell ⟨p, 4, none⟩ (.int .i64 (c' : Nat))).setCell ⟨p, 5, none⟩ (.slice a' n cc)) = .ok (wlist T').toArray ((w8.setCell ⟨p, 4, none⟩ (.int .i64 (c' : Nat))).setCell ⟨p, 5, none⟩ (.slice a' n cc)) ∧ (wlist T').length = N ∧ ¬ N = 0 := ⟨256, size78, words_load hW9n, wlist_length T', by decide⟩
        have HPf := hide (hP10.newSince hTn hWn (q' := q.committed root) rfl HC'.out.symm rfl (fun _ => rfl) (fun k hk => by
          rw [HSd.out k hk, HBt.out k hk]
          show _ = (true && _)
          unfold Pg.tk Pg.committed Pg.there
          by_cases h4 : k < fp s.n
          · by_cases e : q.si k = 2
            · have := HA.out.laid.kr k (HA.out.s2 k e); omega
            · have e' : (q.si k == 2) = false := by rw [beq_eq_false_iff_ne]; exact e
              simp [h4, e']
          · by_cases h5 : s.n ≤ k
            · by_cases e : q.si k = 2
              · have := HA.out.laid.kr k (HA.out.s2 k e); omega
              · have e' : (q.si k == 2) = false := by rw [beq_eq_false_iff_ne]; exact e
                simp [h5, e']
            · simp [h4, h5]))
        have hcsn : (((w8.setCell ⟨p, 4, none⟩ (.int .i64 (c' : Nat))).setCell ⟨p, 5, none⟩ (.slice a' n cc)).setCells p 9 (wlist T')).cell? ⟨p, 265, none⟩ = some (.map (some sm)) := (hTn.out 265 (by omega)).trans hP10.cs
        have hfn := hWn.fz 265
        have hpn := hWn.blk
        have hTn0 : Turn [p] w8 (((w8.setCell ⟨p, 4, none⟩ (.int .i64 (c' : Nat))).setCell ⟨p, 5, none⟩ (.slice a' n cc)).setCells p 9 (wlist T')) := hTd.trans hTn.turn
        have hmm := @run_makeMap Tryz.prog
        have HD8 := hide hD8
        have HTl' := hide HW'.out.lt
        have Hl0 := hide hl0
        have HAdd := hide (add_any p 4 q.c (by omega) w8 h48 hf48)
        rw [← HC'.out] at HAdd
        generalize hw10 : ((w8.setCell ⟨p, 4, none⟩ (.int .i64 (c' : Nat))).setCell ⟨p, 5, none⟩ (.slice a' n cc)).setCells p 9 (wlist T') = w10 at *
        clear hD8 hP8 hP9 hB8 hB9 hW8 hW9 hW9n hP10 hWn hTn hw10 HWc HW7 HA7 HB6 HCl
        go_wp2_with fail
        refine HAdd.out.mono ?_
        rintro e w9 ⟨rfl, rfl⟩
        go_wp2_with fail
        go_ret
        rw [← World.setCell_alloc_past _ _ _ _ hpn]
        have hTa : Turn [p] w8 ((w10.alloc (.map #[] 0)).setCell ⟨p, 265, none⟩ (.map (some w10.heap.size))) := (hTn0.alloc _).setCell (List.mem_singleton.2 rfl) _ _
        have hTz : Turn [p, b, m] w ((w10.alloc (.map #[] 0)).setCell ⟨p, 265, none⟩ (.map (some w10.heap.size))) := (((hT0r.mono (by simp)).trans (hT67.mono (by simp))).trans hT8).trans (hTa.mono (by simp))
        have h10s := hTn0.size
        have hzs := hTa.size
        refine .inl ⟨rfl, Hl0.out, ⟨s.headed c' root T', w10.heap.size, rb', (St.maps_dead s c' T' _).trans hd, St.maps_n s c' T' _, by show (s.maps c' T' _).k + 1 = _; rw [St.maps_k], ?_, fun k hk => page_headed s c' root T' HA.out.laid.n64 HA.out.laid.n16 k hk, by omega, by omega, by omega, ?_⟩, hTz⟩
        · intro h
          have e1 : (s.mapped c' T').left = s.left := St.maps_on s c' T' h _
          show (if (s.mapped c' T').left < 0 then (s.mapped c' T').left else (s.mapped c' T').left - 1) < 0
          rw [e1, if_pos h]
          exact h
        · refine ⟨HD8.out.turn hTa (by simp; exact Ne.symm HA.out.apart.pb) (by simp; exact Ne.symm HA.out.apart.pm), by rw [show (s.headed c' root T').n = s.n from St.maps_n s c' T' _]; exact HPf.out, ?_, ⟨HA.out.apart.pb, HA.out.apart.pm, by omega, by omega, by omega, by omega, by omega⟩, fun n h => by simp [Pg.committed] at h, fun n h => by simp [Pg.committed] at h, fun n => by simp [Pg.committed], fun h => by simp [Pg.committed] at h, ?_, ⟨HA.out.pos.1, HA.out.pos.2.1, HA.out.pos.2.2.1, by omega⟩⟩
          · have hh := HA.out.laid.headed T' HTl'.out root (by rw [HN.out]; exact hl) HRb.out q.there (fun k h4 h5 => by
              rw [HSd.out k (by have := HA.out.laid.n16; omega), HBt.out k (by have := HA.out.laid.n16; omega)]
              unfold Pg.tk Pg.there
              have h4' : ¬ k < fp s.n := by omega
              have h5' : ¬ s.n ≤ k := by omega
              simp [h4', h5']) (fun k hk => by
              unfold Pg.there at hk
              simp at hk
              rcases hk.1 with h | h
              · exact HA.out.laid.kr k h
              · exact (HA.out.s1 k h).2) (by omega)
            rw [← HC'.out] at hh
            show Laid _ (q.c + 1) root q.there
            rw [← HC'.out]
            exact hh
          · exact HA.out.tab.turn hTz (by have := HA.out.pos; simp; omega)
      · have HS' := hide hs'
        have Hor := hide hor
        clear hs' hor
        go_wp2_with fail
        go_ret
        exact .inr ⟨rfl, Hor.out, HS'.out, ((hT0r.mono (by simp)).trans (hT67.mono (by simp))).trans hT8⟩
    · intro x c w3 cnt1 hwx hwc hlx hat hrg1 hlt hg1 hs1 hen
      obtain ⟨k, rfl, rfl, hk0⟩ := HS.out.entry (HLeft.out _ hlx) hat
      have hk0' : q.si k ≠ 0 := hk0
      have hk3 := HA.out.s3 k
      have hk16 : k < 16384 := by
        have hN := HA.out.laid.n16
        by_cases e : q.si k = 1
        · have := HA.out.s1 k e; omega
        · have e2 : q.si k = 2 := by omega
          have := HA.out.laid.kr k (HA.out.s2 k e2); omega
      have HT1 := hide (hTr.then (turn_of_grown hg1) (by simp))
      have HW1 := hide (HW'.out.turn (turn_of_grown hg1) (by simp))
      have HL1 : Hid (∀ kl, (left kl && !kl.sameKey (.int .i64 (k : Int))) = true → has D kl = true) := fun kl h => HLeft.out kl (by simp at h; exact h.1)
      have Hrg1 := hide hrg1
      have hmeas : w3.rangeLeft sm (w2.heap.size + 1) < wr.rangeLeft sm (w2.heap.size + 1) := by rw [hrg1.left_eq, hrg.left_eq]; exact hlt
      have HM := hide hmeas
      clear hrg hrg1 hat hlx hmeas hg1 hwx hwc hk0
      have hl1 : ({ q with rd := true } : Pg).si k = q.si k := rfl
      rw [hl1] at hen ⊢
      by_cases e : q.si k = 2
      · have HSh := hide (HSw.out.hit e)
        have t1 : ((q.si k : Int) == 2) = true := by rw [e]; rfl
        clear e
        go_wp2_with fail
        refine (free_any w2.heap.size 0 k T' hk16 w3 HW1.out).mono ?_
        rintro e w4 ⟨rfl, hW2, hT2⟩
        have hrg2 := Hrg1.out.kept (grown_of_turn hT2.turn) (by intro e; simp at e; omega) (by intro e; simp at e)
        go_wp2_with fail
        go_roundw
        case rel => exact ⟨_, cnt1, _, hrg2, HL1.out, hW2, HSh.out, HT1.out.then hT2.turn (by simp)⟩
        case measure =>
          rw [hrg2.left_eq, ← Hrg1.out.left_eq]
          exact HM.out
      · have HSm := hide (HSw.out.miss e)
        have t1 : ((q.si k : Int) == 2) = false := by rw [beq_eq_false_iff_ne]; omega
        go_wp2_with fail
        go_roundw
        case rel => exact ⟨_, cnt1, _, Hrg1.out, HL1.out, HW1.out, HSm.out, HT1.out⟩
        case measure => exact HM.out
end Go.Proofs.YthgpjkcgccdldaaGreatDoor

namespace Go.Proofs.YthgpjkcgccdldaaGreatDoor
open Go.RowKit Go.Maps

/-- A new pager's cells. -/
def pcells (b sm : Nat) : Array Value := (Value.pointer (some ⟨b, 0, none⟩) :: Value.int .i64 0 :: Value.int .i64 0 :: Value.bool false :: Value.int .i64 0 :: Value.slice none 0 0 :: Value.int .u32 0 :: Value.int .i32 0 :: Value.int .u32 0 :: (wlist (fun _ => 0) ++ [Value.map (some sm)])).toArray
def pzero : Array Value := (Value.pointer none :: Value.int .i64 0 :: Value.int .i64 0 :: Value.bool false :: Value.int .i64 0 :: Value.slice none 0 0 :: Value.int .u32 0 :: Value.int .i32 0 :: Value.int .u32 0 :: (wlist (fun _ => 0) ++ [Value.map none])).toArray
set_option maxRecDepth 100000 in
theorem zero80 (w : World) : Sem.run Tryz.prog (zeroValue 116) w = .ok (.agg pzero) w := by kernel_rfl

set_option maxRecDepth 100000 in
theorem pcells_eq (b sm : Nat) : (pzero.setIfInBounds 0 (Value.pointer (some ⟨b, 0, none⟩))).setIfInBounds 265 (Value.map (some sm)) = pcells b sm := by
  apply Array.toList_inj.1
  unfold pzero pcells
  rw [Array.toList_setIfInBounds, Array.toList_setIfInBounds, List.toList_toArray, List.toList_toArray]
  simp only [List.set_cons_zero, List.set_cons_succ]
  rw [List.set_append_right _ _ (by rw [wlist_length]; decide), wlist_length]
  rfl

set_option maxRecDepth 100000 in
theorem pcells_at (b sm i : Nat) (h : i < 256) : (pcells b sm)[9 + i]? = some (.int .u64 0) := by
  unfold pcells
  rw [List.getElem?_toArray, show 9 + i = i + 9 from Nat.add_comm _ _]
  simp only [List.getElem?_cons_succ]
  rw [List.getElem?_append_left (by rw [wlist_length]; exact h), wlist_at _ _ h]
  rfl
set_option maxRecDepth 100000 in
theorem pcells_last (b sm : Nat) : (pcells b sm)[265]? = some (.map (some sm)) := by
  unfold pcells
  rw [List.getElem?_toArray, show 265 = 256 + 9 from rfl]
  simp only [List.getElem?_cons_succ]
  rw [List.getElem?_append_right (by rw [wlist_length]; decide), wlist_length]
  rfl

set_option maxRecDepth 100000 in
/-- A new pager, in memory. -/
theorem pager_new (w : World) (b N rb : Nat) (hrb : w.heap.size + 1 ≠ rb) (K : Nat → Bool) : PgAt ((w.alloc (.map #[] 0)).alloc (.cells (pcells b w.heap.size) 116)) (w.heap.size + 1) b w.heap.size rb N 0 0 ⟨false, 0, [], K, fun _ => 0, false, 0⟩ := by
  have e : w.heap.size + 1 = (w.alloc (.map #[] 0)).heap.size := by simp
  have hc : ∀ i, ((w.alloc (.map #[] 0)).alloc (.cells (pcells b w.heap.size) 116)).cell? ⟨w.heap.size + 1, i, none⟩ = (pcells b w.heap.size)[i]? := fun i => by
    rw [e]; exact World.cell?_alloc_at _ _ _ _ rfl
  have hf : ∀ i, ((w.alloc (.map #[] 0)).alloc (.cells (pcells b w.heap.size) 116)).frozen? ⟨w.heap.size + 1, i, none⟩ = false := fun i => by
    rw [e]; exact World.frozen?_alloc_at _ _ _ _ rfl
  refine ⟨(hc 0).trans rfl, ⟨0, (hc 1).trans rfl⟩, ⟨0, (hc 2).trans rfl⟩, (hc 3).trans rfl, (hc 4).trans rfl, ⟨none, 0, (hc 5).trans rfl, .inl rfl, fun _ => rfl, fun x h => absurd rfl h⟩, (hc 6).trans rfl, (hc 7).trans rfl,
    ⟨fun _ => 0, ⟨fun i hi => (hc _).trans (pcells_at b _ i hi), hf, fun _ => by show (0 : Nat) < 18446744073709551616; decide, by simp⟩, fun n _ => by unfold bit; simp⟩, (hc 265).trans (pcells_last b _),
    ⟨0, .map [], Nat.le_refl _, (World.ownsMap_made w Tryz.prog 3 (plainElem Tryz.prog 3)).alloc _, ⟨fun kl hk => by simp [has] at hk, fun n => rfl⟩⟩, by omega, hrb⟩

/-- The head that the first i slots tell. -/
def Best (s : St) (c : Nat) (root : List Nat) (i lc : Nat) (lr : List Nat) : Prop :=
  (i = 0 ∧ lc = 0 ∧ lr = []) ∨ (i = 1 ∧ lc = hdC (fB s 0) ∧ (lc = 0 → lr = []) ∧ (0 < lc → lr = hdR (fB s 0))) ∨ (i = 2 ∧ lc = c ∧ lr = root)

set_option maxRecDepth 100000 in
theorem Best.more {s : St} {c : Nat} {root : List Nat} {K : Nat → Bool} (L : Laid s c root K) {i lc : Nat} {lr : List Nat} (h : Best s c root i lc lr) (hi : i < 2) (hg : lc < hdC (fB s i)) : Best s c root (i + 1) (hdC (fB s i)) (hdR (fB s i)) := by
  rcases h with ⟨rfl, rfl, rfl⟩ | ⟨rfl, h1, h2, h3⟩ | ⟨rfl, _⟩
  · exact .inr (.inl ⟨rfl, rfl, fun h => by omega, fun _ => rfl⟩)
  · refine .inr (.inr ⟨rfl, ?_⟩)
    by_cases h0 : c = 0
    · have := L.zero h0; omega
    · obtain ⟨e1, e2, e3⟩ := L.some (by omega)
      by_cases hp : c % 2 = 0
      · rw [hp] at e1 e2
        rw [show (c + 1) % 2 = 1 by omega] at e3
        omega
      · rw [show c % 2 = 1 by omega] at e1 e2
        exact ⟨e1, e2⟩
  · omega
set_option maxRecDepth 100000 in
theorem Best.less {s : St} {c : Nat} {root : List Nat} {K : Nat → Bool} (L : Laid s c root K) {i lc : Nat} {lr : List Nat} (h : Best s c root i lc lr) (hi : i < 2) (hg : ¬ lc < hdC (fB s i)) : Best s c root (i + 1) lc lr := by
  rcases h with ⟨rfl, rfl, rfl⟩ | ⟨rfl, h1, h2, h3⟩ | ⟨rfl, _⟩
  · exact .inr (.inl ⟨rfl, by omega, fun _ => rfl, fun h => by omega⟩)
  · refine .inr (.inr ⟨rfl, ?_⟩)
    by_cases h0 : c = 0
    · have h' := L.zero h0
      have : lc = 0 := by omega
      exact ⟨by omega, by rw [h2 this, h'.1]⟩
    · obtain ⟨e1, e2, e3⟩ := L.some (by omega)
      by_cases hp : c % 2 = 0
      · rw [hp] at e1 e2
        exact ⟨by omega, by rw [h3 (by omega), e2]⟩
      · rw [show c % 2 = 1 by omega] at e1
        rw [show (c + 1) % 2 = 0 by omega] at e3
        omega
  · omega

set_option maxRecDepth 100000 in
set_option maxHeartbeats 3200000 in
theorem open_any (b m : Nat) (s : St) (c : Nat) (root : List Nat) (K : Nat → Bool) (L : Laid s c root K) (hd : s.dead = false) (w : World) (hD : DiskAt w b m s) (hTab : Tab w) (hb0 : 1 < b ∧ 1 < m) :
    Calls Tryz.prog 34 #[.pointer (some ⟨b, 0, none⟩)] w fun e w' => ∃ p sm rb, w.heap.size ≤ p ∧ w.heap.size ≤ sm ∧ w.heap.size ≤ rb ∧ rb < w'.heap.size ∧ e = .returned (.tuple #[.pointer (some ⟨p, 0, none⟩), .int .i64 0]) ∧ PAt w' p b m sm rb s ⟨false, c, root, K, fun _ => 0, false, 0⟩ ∧ Turn [] w w' := by
  have hn1 := L.n64
  have hck := L.ck
  have hk1 := L.good.k1
  have HL := hide L
  have HD := hide hD
  have HTab := hide hTab
  have hbl := hD.lt
  have hml := hD.ltm
  have hz := zero80
  have hmm := @run_makeMap Tryz.prog
  have hpe := pcells_eq
  have hps : pzero.size = 266 := by unfold pzero; simp [wlist_length]
  have hpz : ¬ pzero = #[] := fun e => by rw [e] at hps; simp at hps
  have hp2 : ¬ pzero.size < 266 := by omega
  clear hD hTab L hps
  go_enter Tryz.func34, Tryz.ntmps34
  go_wp2_with fail
  refine (blocks_any b m s w HD.out).mono ?_
  rintro e w1 ⟨rfl, rfl⟩
  go_wp2_with fail
  have hTt : Turn [] w1 (((w1.alloc (.map #[] 0)).alloc (.cells (pcells b w1.heap.size) 116)).alloc (.cells #[.int .i64 0, .slice none 0 0] 118)) := (((Turn.refl [] w1).alloc _).alloc _).alloc _
  have HP0 := hide ((pager_new w1 b s.n (w1.heap.size + 3) (by omega) K).turn0 ((Turn.refl [] _).alloc (.cells #[.int .i64 0, .slice none 0 0] 118)))
  have HD0 := hide (HD.out.turn hTt (by simp) (by simp))
  have es : ((w1.alloc (.map #[] 0)).alloc (.cells (pcells b w1.heap.size) 116)).heap.size = w1.heap.size + 1 + 1 := by simp
  have hl0 : (((w1.alloc (.map #[] 0)).alloc (.cells (pcells b w1.heap.size) 116)).alloc (.cells #[.int .i64 0, .slice none 0 0] 118)).cell? ⟨w1.heap.size + 1 + 1, 0, none⟩ = some (.int .i64 0) := World.cell?_alloc_at _ _ _ _ es.symm
  have hl1 : (((w1.alloc (.map #[] 0)).alloc (.cells (pcells b w1.heap.size) 116)).alloc (.cells #[.int .i64 0, .slice none 0 0] 118)).cell? ⟨w1.heap.size + 1 + 1, 1, none⟩ = some (.slice none 0 0) := World.cell?_alloc_at _ _ _ _ es.symm
  have hlf : ∀ o, (((w1.alloc (.map #[] 0)).alloc (.cells (pcells b w1.heap.size) 116)).alloc (.cells #[.int .i64 0, .slice none 0 0] 118)).frozen? ⟨w1.heap.size + 1 + 1, o, none⟩ = false := fun o => World.frozen?_alloc_at _ _ _ _ es.symm
  generalize hw3 : ((w1.alloc (.map #[] 0)).alloc (.cells (pcells b w1.heap.size) 116)).alloc (.cells #[.int .i64 0, .slice none 0 0] 118) = w3 at *
  clear hw3 es hz hmm hpe hpz hp2
  have HA : Hid (Apart (w1.heap.size + 1) b m w1.heap.size (w1.heap.size + 3)) := ⟨by omega, by omega, by omega, by omega, by omega, by omega, by omega⟩
  generalize hrb0 : w1.heap.size + 3 = rb0 at *
  generalize hlb : w1.heap.size + 1 + 1 = lb at *
  generalize hpp : w1.heap.size + 1 = p at *
  have hp1 : w1.heap.size < p := by omega
  have hp2 : p < lb := by omega
  have hrb : lb < rb0 := by omega
  clear hrb0 hlb hpp
  go_loopw [17] (fun v wr => ∃ (i lc : Nat) (lr : List Nat) (ra : Option Addr) (rc : Nat), i ≤ 2 ∧ v = .int .i64 i ∧ Best s c root i lc lr ∧ wr.cell? ⟨lb, 0, none⟩ = some (.int .i64 (lc : Nat)) ∧ wr.cell? ⟨lb, 1, none⟩ = some (.slice ra lr.length rc) ∧ (∀ o, wr.frozen? ⟨lb, o, none⟩ = false) ∧ BytesAt wr ra lr ∧ (ra = none → rc = 0) ∧ (∀ x, ra = some x → lb < x.block) ∧ PgAt wr p b w1.heap.size rb0 s.n 0 0 ⟨false, 0, [], K, fun _ => 0, false, 0⟩ ∧ DiskAt wr b m s ∧ Turn [] w1 wr ∧ lb < wr.heap.size) (fun v _ => 2 - (intOf v).toNat)
  case atStart => exact ⟨0, 0, [], none, 0, by omega, rfl, .inl ⟨rfl, rfl, rfl⟩, hl0, hl1, hlf, .inl rfl, fun _ => rfl, by simp, HP0.out, HD0.out, hTt, lt_of_cell hl0⟩
  case round =>
    obtain ⟨i, lc, lr, ra, rc, hi, rfl, hBest, hc0, hc1, hcf, hB, hn, hx, hP, hDr, hTr, hsr⟩ := hrel
    have HBest := hide hBest
    have HB := hide hB
    have HN := hide hn
    have HX := hide hx
    have HP := hide hP
    have HDr := hide hDr
    have Hcf := hide hcf
    have hS0 : lb ∉ [p] := by simp; omega
    clear hBest hB hn hx hP hDr hcf HP0 HD0 hl0 hl1 hlf hTt
    by_cases hi2 : i < 2
    · have hnum := HL.out.num i hi2
      have hcl : hdC (fB s i) < 9223372036854775808 := by
        unfold hdC
        split
        · exact hnum
        · decide
      have HNum := hide hnum
      clear hnum
      go_wp2_with fail
      refine (pread_ok p b m w1.heap.size rb0 s.n 0 0 _ HA.out s HL.out.good hd i (by omega) wr HDr.out HP.out).mono ?_
      rintro e w5 ⟨rfl, hR5, hP5, hD5, hT5, _⟩
      have HR5 := hide hR5
      have HP5 := hide hP5
      have HD5 := hide hD5
      have h50 := (hT5.turn.cell (p := ⟨lb, 0, none⟩) hsr hS0).trans hc0
      have h51 := (hT5.turn.cell (p := ⟨lb, 1, none⟩) hsr hS0).trans hc1
      have Hf5 : Hid (∀ o, w5.frozen? ⟨lb, o, none⟩ = false) := fun o => (World.frozen?_of_block (a := ⟨lb, o, none⟩) (hT5.turn.block _ hsr hS0)).trans (Hcf.out o)
      have HB5 := hide (HB.out.turn hT5.turn (fun x _ h2 => by have := HX.out x h2; simp; omega))
      have hT05 : Turn [] w1 w5 := hTr.then hT5.turn (by simp; omega)
      have h5s := hT5.turn.size
      have h5l : lb < w5.heap.size := by omega
      clear hR5 hP5 hD5 hc0 hc1
      go_wp2_with fail
      refine (headOf_any wr.heap.size (fB s i) (fB_lt HL.out.byte i) HNum.out w5 HR5.out).mono ?_
      rintro e w6 ⟨ra', rc', rfl, hx6, hn6, hB6, hT6⟩
      have h60 := (hT6.cell (p := ⟨lb, 0, none⟩) h5l (by simp)).trans h50
      have h61 := (hT6.cell (p := ⟨lb, 1, none⟩) h5l (by simp)).trans h51
      have Hf6 : Hid (∀ o, w6.frozen? ⟨lb, o, none⟩ = false) := fun o => (World.frozen?_of_block (a := ⟨lb, o, none⟩) (hT6.block lb h5l (by simp))).trans (Hf5.out o)
      have hf60 := Hf6.out 0
      have hf61 := Hf6.out 1
      have HB6 := hide hB6
      have HBo6 := hide (HB5.out.turn hT6 (by simp))
      have HP6 := hide (HP5.out.turn0 hT6)
      have HD6 := hide (HD5.out.turn hT6 (by simp) (by simp))
      have hT06 : Turn [] w1 w6 := hT05.then hT6 (by simp)
      have h6s := hT6.size
      have h6l : lb < w6.heap.size := by omega
      have HX6 := hide hx6
      have HN6 := hide hn6
      have Hmore := hide (fun hg => HBest.out.more HL.out hi2 hg)
      have Hless := hide (fun hg => HBest.out.less HL.out hi2 hg)
      clear hB6 h50 h51 hx6 hn6
      generalize hdR (fB s i) = hr at *
      generalize hdC (fB s i) = hcm at *
      by_cases hg : lc < hcm
      · have Hm := hide (Hmore.out hg)
        go_wp2_with fail
        go_roundw
        case rel =>
          have hT7 : Turn [lb] w6 (((w6.setCell ⟨lb, 0, none⟩ (.int .i64 (hcm : Nat))).setCell ⟨lb, 1, none⟩ (.slice ra' hr.length rc')).alloc (.cells #[.int .i64 (hcm : Nat), .slice ra' hr.length rc'] 118)) := (((Turn.refl [lb] w6).setCell (List.mem_singleton.2 rfl) _ _).setCell (List.mem_singleton.2 rfl) _ _).alloc _
          have hl2 : lb < ((w6.setCell ⟨lb, 0, none⟩ (.int .i64 (hcm : Nat))).setCell ⟨lb, 1, none⟩ (.slice ra' hr.length rc')).heap.size := by rw [World.size_setCell, World.size_setCell]; exact h6l
          refine ⟨i + 1, hcm, hr, ra', rc', by omega, by go_num, Hm.out, ?_, ?_, ?_, ?_, HN6.out, ?_, ?_, ?_, ?_, ?_⟩
          · rw [World.cell?_alloc_past _ _ _ hl2, World.cell?_setCell_other _ _ _ _ (off_ne (by omega))]
            exact World.cell?_setCell_same _ _ _ h60
          · rw [World.cell?_alloc_past _ _ _ hl2]
            exact World.cell?_setCell_same _ _ _ ((World.cell?_setCell_other _ _ _ _ (off_ne (by omega))).trans h61)
          · intro o
            rw [World.frozen?_alloc_past _ _ _ hl2, World.frozen?_setCell, World.frozen?_setCell]
            exact Hf6.out o
          · exact HB6.out.turn hT7 (fun x _ h2 => by rw [HX6.out x h2]; simp; omega)
          · intro x h2; rw [HX6.out x h2]; exact hsr
          · exact HP6.out.turn hT7 (by simp; omega) (by simp; omega) (by simp; omega)
          · exact HD6.out.turn hT7 (by simp; omega) (by simp; omega)
          · exact hT06.then hT7 (by simp; omega)
          · have := hT7.size; omega
        case measure => simp [intOf]; omega
      · have Hm := hide (Hless.out hg)
        go_wp2_with fail
        go_roundw
        case rel =>
          have hT7 : Turn [] w6 (w6.alloc (.cells #[.int .i64 (hcm : Nat), .slice ra' hr.length rc'] 118)) := (Turn.refl [] w6).alloc _
          refine ⟨i + 1, lc, lr, ra, rc, by omega, by go_num, Hm.out, (hT7.cell (p := ⟨lb, 0, none⟩) h6l (by simp)).trans h60, (hT7.cell (p := ⟨lb, 1, none⟩) h6l (by simp)).trans h61, fun o => (World.frozen?_of_block (a := ⟨lb, o, none⟩) (hT7.block lb h6l (by simp))).trans (Hf6.out o), HBo6.out.turn hT7 (by simp), HN.out, HX.out, HP6.out.turn0 hT7, HD6.out.turn hT7 (by simp) (by simp), hT06.then hT7 (by simp), ?_⟩
          have := hT7.size; omega
        case measure => simp [intOf]; omega
    · obtain rfl : i = 2 := by omega
      obtain ⟨e1, e2⟩ : lc = c ∧ lr = root := by
        rcases HBest.out with h | h | h
        · omega
        · omega
        · exact h.2
      subst e1 e2
      have h4 : wr.cell? ⟨p, 4, none⟩ = some (.int .i64 0) := HP.out.c4
      have hf4 := HP.out.fz 4
      have hpl := HP.out.lt
      obtain ⟨rb', hrb1, hrb2, hrb3⟩ : ∃ rb', lb ≤ rb' ∧ rb' < wr.heap.size ∧ ∀ x, lr ≠ [] → ra = some x → x.block = rb' := by
        by_cases hr : lr = []
        · exact ⟨lb, Nat.le_refl _, hsr, fun x h => absurd hr h⟩
        · obtain ⟨bb, off, rfl, hcb'⟩ := HB.out.at (k := 0) (List.length_pos_iff.2 hr)
          exact ⟨bb, Nat.le_of_lt (HX.out _ rfl), lt_of_cell hcb', fun x _ hx => by obtain rfl := Option.some.inj hx; rfl⟩
      have hP4 := (HP.out.setC lc).drew
      have HB4 := hide (HB.out.turn (((Turn.refl [p] wr).setCell (List.mem_singleton.2 rfl) 4 (.int .i64 (lc : Nat))).drew) (fun x _ h2 => by have := HX.out x h2; simp; omega))
      have hP5 := hP4.setRoot ra rc rb' lr HB4.out HN.out hrb3 (by omega)
      obtain ⟨_, _, h5c, _⟩ := hP4.c5
      have hf5 := hP4.fz 5
      have h5l : ((wr.setCell ⟨p, 4, none⟩ (.int .i64 (lc : Nat))).drew).cell? ⟨lb, 1, none⟩ = some (.slice ra lr.length rc) := (World.cell?_setCell_other wr _ _ _ (fun e => by have := congrArg Addr.block e; simp at this; omega)).trans hc1
      have HP5 := hide hP5
      have HSt := hide (store_any p 4 0 (lc : Nat) wr.drew h4 hf4)
      clear hP4 hP5 HBest
      go_wp2_with fail
      go_region_with (first | (go_at_call 36; refine HSt.out.mono ?_; rintro e w8 ⟨rfl, rfl⟩))
      all_goals
        go_wp2_with fail
        go_ret2
        have hTf : Turn [p] wr (((wr.setCell ⟨p, 4, none⟩ (.int .i64 (lc : Nat))).setCell ⟨p, 5, none⟩ (.slice ra lr.length rc)).drew) := (((Turn.refl [p] wr).setCell (List.mem_singleton.2 rfl) _ _).setCell (List.mem_singleton.2 rfl) _ _).drew
        have hTz : Turn [] w1 (((wr.setCell ⟨p, 4, none⟩ (.int .i64 (lc : Nat))).setCell ⟨p, 5, none⟩ (.slice ra lr.length rc)).drew) := hTr.then hTf (by simp; omega)
        have hzs := hTf.size
        refine ⟨p, w1.heap.size, rb', by omega, Nat.le_refl _, by omega, by omega, rfl, ⟨HDr.out.turn hTf (by simp; omega) (by simp; omega), HP5.out, HL.out, ⟨HA.out.pb, HA.out.pm, HA.out.sb, HA.out.smm, by omega, by omega, by omega⟩, fun n h => by simp at h, fun n h => by simp at h, fun n => by simp, fun _ _ => rfl, HTab.out.turn hTz (by simp), ⟨by omega, hb0.1, hb0.2, by omega⟩⟩, hTz⟩
end Go.Proofs.YthgpjkcgccdldaaGreatDoor
