/-
  Abort, Len; Open of a tree without keys.
  What the laws call: within.
  A pager without pages, and how many it has left.
  A tree of nothing or of one small leaf, and all that it stands on, told by its keys alone ('TreeOk'): Get, Put, Del, Scan, Commit.
  'TreeOk': a tree of nothing or of one small leaf with all that it stands on, told by its keys, and what its calls make of it.
  What Put and Del make of a tree of nothing or of one small leaf.
-/
import Derived.Test.YthgpjkcgccdldaaGreatDoorTCommit
import Derived.Test.YthgpjkcgccdldaaGreatDoorPopen
import Derived.Test.YthgpjkcgccdldaaGreatDoorTPut2
import Derived.Test.YthgpjkcgccdldaaGreatDoorTPut3
import Derived.Test.YthgpjkcgccdldaaGreatDoorTScan
import Derived.Test.YthgpjkcgccdldaaGreatDoorTCommit2
namespace Go.Proofs.YthgpjkcgccdldaaGreatDoor
open Go.RowKit Go.Maps

set_option maxRecDepth 100000 in
set_option maxHeartbeats 1600000 in
theorem abort_some (t p a keys : Nat) (S : Stt) (w : World) (hT : TreeAt w t p ⟨some a, keys, false, 0, .slice none 0 0⟩ S) : Calls Tryz.prog 48 #[.pointer (some ⟨t, 0, none⟩)] w fun e w' => e = .returned (.tuple #[]) ∧ TreeAt w' t p ⟨some a, keys, false, 0, .slice none 0 0⟩ ⟨some a, keys, false, 0, .slice none 0 0⟩ ∧ Turn [t] w w' := by
  have hd1 : w.cell? ⟨t, 1, none⟩ = some (.pointer (some ⟨a, 0, none⟩)) := hT.done.c0
  have hd2 : w.cell? ⟨t, 2, none⟩ = some (.int .i64 (keys : Nat)) := hT.done.c1
  have hd3 : w.cell? ⟨t, 3, none⟩ = some (.bool false) := hT.done.c2
  have hd4 : w.cell? ⟨t, 4, none⟩ = some (.int .i64 0) := hT.done.c3
  have hd5 : w.cell? ⟨t, 5, none⟩ = some (.slice none 0 0) := hT.done.c4
  have hd6 : w.cell? ⟨t, 6, none⟩ = some (rootV S.root) := hT.now.c0
  have hd7 : w.cell? ⟨t, 7, none⟩ = some (.int .i64 (S.keys : Nat)) := hT.now.c1
  have hd8 : w.cell? ⟨t, 8, none⟩ = some (.bool S.changed) := hT.now.c2
  have hd9 : w.cell? ⟨t, 9, none⟩ = some (.int .i64 (S.fresh : Nat)) := hT.now.c3
  have hd10 : w.cell? ⟨t, 10, none⟩ = some S.dropped := hT.now.c4
  have hf6 := hT.fz 6
  have hf7 := hT.fz 7
  have hf8 := hT.fz 8
  have hf9 := hT.fz 9
  have hf10 := hT.fz 10
  have HT := hide hT
  clear hT
  go_enter Tryz.func48, Tryz.ntmps48
  go_wp2_with fail
  go_end0
  have ht : t ∈ [t] := List.mem_singleton.2 rfl
  exact ⟨rfl, ((((HT.out.setRoot (some a)).setKeys keys).setChanged false).setFresh 0).setDropped (.slice none 0 0), (((((Turn.refl [t] w).setCell ht _ _).setCell ht _ _).setCell ht _ _).setCell ht _ _).setCell ht _ _⟩


theorem zero70 (w : World) : Sem.run Tryz.prog (zeroValue 126) w = .ok (.agg #[.pointer none, .pointer none, .int .i64 0, .bool false, .int .i64 0, .slice none 0 0, .pointer none, .int .i64 0, .bool false, .int .i64 0, .slice none 0 0]) w := by kernel_rfl

theorem agg67 (w : World) : Sem.run Tryz.prog (isAgg 124) w = .ok true w := by kernel_rfl
theorem size67 (w : World) : Sem.run Tryz.prog (sizeOf 124) w = .ok 5 w := by kernel_rfl

set_option maxRecDepth 100000 in
set_option maxHeartbeats 1600000 in
theorem stateOf_none (a : Option Addr) (n cap : Nat) (hn : n < 9) (w : World) : Calls Tryz.prog 61 #[.slice a n cap] w fun e w' => e = .returned (.agg #[.pointer none, .int .i64 0, .bool false, .int .i64 0, .slice none 0 0]) ∧ Turn [] w w' := by
  have hz := zero67
  have hnn : ((n : Int) == 9) = false := by rw [beq_eq_false_iff_ne]; omega
  have hn9 : ¬ n = 9 := by omega
  go_enter Tryz.func61, Tryz.ntmps61
  go_wp2_with fail
  refine bodyPost_ret (v := .agg #[.pointer none, .int .i64 0, .bool false, .int .i64 0, .slice none 0 0]) (by simp [results, Tryz.results61, go_sem]) rfl ⟨rfl, (Turn.refl [] w).alloc _⟩

set_option maxRecDepth 100000 in
set_option maxHeartbeats 3200000 in
theorem topen_new (p b m sm rb : Nat) (s : St) (q : Pg) (hd : s.dead = false) (hq : q.dead = false) (hroot : q.root.length < 9) (w : World) (hrb : rb < w.heap.size) (hA : PAt w p b m sm rb s q) :
    Calls Tryz.prog 35 #[.pointer (some ⟨p, 0, none⟩)] w fun e w' => ∃ t r, e = .returned (.tuple #[.pointer (some ⟨t, 0, none⟩), .int .i64 0]) ∧ w.heap.size ≤ t ∧ TreeAt w' t p ⟨none, 0, false, 0, .slice none 0 0⟩ ⟨none, 0, false, 0, .slice none 0 0⟩ ∧ PAt w' p b m sm rb s { q with rd := r } ∧ Turn [p] w w' := by
  have hz := zero70
  have hpl := hA.pg.lt
  have HP0 : Hid (w.heap.size ≠ 1 ∧ w.heap.size ≠ p ∧ w.heap.size ≠ b ∧ w.heap.size ≠ m ∧ w.heap.size ≠ sm ∧ w.heap.size ≠ rb) := by
    have h1 := hA.disk.lt
    have h2 := hA.disk.ltm
    have h3 := hA.pg.lts
    have h4 := hA.pos
    exact ⟨by omega, by omega, by omega, by omega, by omega, by omega⟩
  have hT0 : Turn [] w (w.alloc (.cells #[.pointer (some ⟨p, 0, none⟩), .pointer none, .int .i64 0, .bool false, .int .i64 0, .slice none 0 0, .pointer none, .int .i64 0, .bool false, .int .i64 0, .slice none 0 0] 126)) := (Turn.refl [] w).alloc _
  have hTr0 : TreeAt (w.alloc (.cells #[.pointer (some ⟨p, 0, none⟩), .pointer none, .int .i64 0, .bool false, .int .i64 0, .slice none 0 0, .pointer none, .int .i64 0, .bool false, .int .i64 0, .slice none 0 0] 126)) w.heap.size p ⟨none, 0, false, 0, .slice none 0 0⟩ ⟨none, 0, false, 0, .slice none 0 0⟩ :=
    ⟨World.cell?_alloc_at _ _ _ _ rfl, ⟨World.cell?_alloc_at _ _ _ _ rfl, World.cell?_alloc_at _ _ _ _ rfl, World.cell?_alloc_at _ _ _ _ rfl, World.cell?_alloc_at _ _ _ _ rfl, World.cell?_alloc_at _ _ _ _ rfl⟩, ⟨World.cell?_alloc_at _ _ _ _ rfl, World.cell?_alloc_at _ _ _ _ rfl, World.cell?_alloc_at _ _ _ _ rfl, World.cell?_alloc_at _ _ _ _ rfl, World.cell?_alloc_at _ _ _ _ rfl⟩, fun o => World.frozen?_alloc_at _ _ _ _ rfl⟩
  have HC := hide (tdead_any w.heap.size p b m sm rb s q _ _ hd hq _ (hA.turn0 hT0) hTr0)
  have HT0 := hide hT0
  have HTr0 := hide hTr0
  clear hT0 hTr0 hA
  go_enter Tryz.func35, Tryz.ntmps35
  go_wp2_with fail
  refine HC.out.mono ?_
  rintro e w1 ⟨rfl, ⟨r, hA1⟩, hT1⟩
  have HTr1 := hide (HTr0.out.turn hT1 (by simp; omega))
  have HA1 := hide hA1
  have HT1 := hide ((show Turn [p] w _ from ⟨HT0.out.os, HT0.out.tape, HT0.out.output, HT0.out.size, fun i hi _ => HT0.out.block i hi (by simp)⟩).trans hT1)
  clear hA1 hT1
  go_wp2_with fail
  refine (root_any p b sm rb s.n _ 0 { q with rd := r } (by show q.root.length ≤ 64; omega) w1 HA1.out.pg).mono ?_
  rintro e w2 ⟨a2, c2, rfl, _, _, hT2⟩
  have HTr2 := hide (HTr1.out.turn hT2 (by simp))
  have HA2 := hide (HA1.out.turn0 hT2)
  have HT2 := hide (HT1.out.then hT2 (by simp))
  clear hT2
  go_wp2_with fail
  refine (stateOf_none a2 q.root.length c2 hroot w2).mono ?_
  rintro e w3 ⟨rfl, hT3⟩
  have hTr3 := HTr2.out.turn hT3 (by simp)
  have HA3 := hide (HA2.out.turn0 hT3)
  have HT3 := hide (HT2.out.then hT3 (by simp))
  have hs3 := HT3.out.size
  have hd1 := hTr3.done.c0
  have hd2 := hTr3.done.c1
  have hd3 := hTr3.done.c2
  have hd4 := hTr3.done.c3
  have hd5 := hTr3.done.c4
  have hd6 := hTr3.now.c0
  have hd7 := hTr3.now.c1
  have hd8 := hTr3.now.c2
  have hd9 := hTr3.now.c3
  have hd10 := hTr3.now.c4
  have hf1 := hTr3.fz 1
  have hf2 := hTr3.fz 2
  have hf3 := hTr3.fz 3
  have hf4 := hTr3.fz 4
  have hf5 := hTr3.fz 5
  have hf6 := hTr3.fz 6
  have hf7 := hTr3.fz 7
  have hf8 := hTr3.fz 8
  have hf9 := hTr3.fz 9
  have hf10 := hTr3.fz 10
  have HTr3 := hide hTr3
  have htl := hTr3.lt
  have hap := HA3.out.apart
  have hbl := HA3.out.disk.lt
  clear hT3 hTr3 HA1 HA2
  generalize hte : w.heap.size = t at *
  go_wp2_with fail
  have ht : t ∈ [t] := List.mem_singleton.2 rfl
  have hTs := ((((((((((Turn.refl [t] w3).setCell ht 1 (.pointer none)).setCell ht 2 (.int .i64 0)).setCell ht 3 (.bool false)).setCell ht 4 (.int .i64 0)).setCell ht 5 (.slice none 0 0)).setCell ht 6 (.pointer none)).setCell ht 7 (.int .i64 0)).setCell ht 8 (.bool false)).setCell ht 9 (.int .i64 0)).setCell ht 10 (.slice none 0 0)
  have hTr := (((((((((HTr3.out.setDRoot none).setDKeys 0).setDChanged false).setDFresh 0).setDDropped (.slice none 0 0)).setRoot none).setKeys 0).setChanged false).setFresh 0).setDropped (.slice none 0 0)
  refine bodyPost_ret (v := .tuple #[.pointer (some ⟨t, 0, none⟩), .int .i64 0]) (by simp [results, Tryz.results35, go_sem]) rfl ⟨t, r, rfl, by omega, hTr, ?_, ?_⟩
  · exact HA3.out.turnX hTs (by
      intro x hx
      obtain rfl := List.mem_singleton.1 hx
      have h1 := HA3.out.pos
      have h2 := HP0.out
      exact ⟨h2.1, h2.2.1, h2.2.2.1, h2.2.2.2.1, h2.2.2.2.2.1, h2.2.2.2.2.2⟩)
  · exact HT3.out.then hTs (by simp; omega)
end Go.Proofs.YthgpjkcgccdldaaGreatDoor

namespace Go.Proofs.YthgpjkcgccdldaaGreatDoor
open Go.RowKit Go.Maps

set_option maxRecDepth 100000 in
set_option maxHeartbeats 1600000 in
theorem within_any (a : Int) (n : Nat) (hn : 0 < n) (hn2 : n ≤ 1000000) (w : World) : Calls Tryz.prog 11 #[.int .i64 a, .int .i64 (n : Nat)] w fun e w' => (∃ k : Nat, k < n ∧ e = .returned (.int .i64 (k : Nat))) ∧ w' = w := by
  have h1 := Int.tmod_lt_of_pos a (show (0 : Int) < n by omega)
  have h2 := Int.lt_tmod_of_pos a (show (0 : Int) < n by omega)
  generalize hy : a.tmod n = y at *
  by_cases h : y < 0
  · have t1 : decide (y < 0) = true := by simpa using h
    obtain ⟨k, hk⟩ := Int.eq_ofNat_of_zero_le (show 0 ≤ y + n by omega)
    go_enter Tryz.func11, Tryz.ntmps11
    go_wp2
    go_ret
    exact ⟨⟨k, by omega, rfl⟩, rfl⟩
  · have t1 : decide (y < 0) = false := by simp; omega
    obtain ⟨k, hk⟩ := Int.eq_ofNat_of_zero_le (show 0 ≤ y by omega)
    go_enter Tryz.func11, Tryz.ntmps11
    go_wp2
    go_ret
    exact ⟨⟨k, by omega, rfl⟩, rfl⟩

end Go.Proofs.YthgpjkcgccdldaaGreatDoor

namespace Go.Proofs.YthgpjkcgccdldaaGreatDoor
open Go.RowKit Go.Maps

/-- A pager without pages. -/
def noPages (r : Bool) : Pg := ⟨false, 0, [], fun _ => false, fun _ => 0, r, 0⟩


theorem Pg.left_new (N : Nat) (hN : N ≤ 16384) (c : Nat) (root : List Nat) (d r : Bool) (u : Nat) : (Pg.mk d c root (fun _ => false) (fun _ => 0) r u).left N = N - 4 := by
  have h := fc_base N 16384
  rw [Nat.min_eq_right hN] at h
  have e : freeCount ((Pg.mk d c root (fun _ => false) (fun _ => 0) r u).tk N) 16384 = freeCount (fun k => decide (k < 4) || decide (N ≤ k)) 16384 := freeCount_congr fun j _ => by
    unfold Pg.tk
    simp
  unfold Pg.left
  rw [e]
  exact h


theorem noPages_left (r : Bool) (N : Nat) (hN : N ≤ 4096) : (noPages r).left N = N - 4 := Pg.left_new N (by omega) 0 [] false r 0


end Go.Proofs.YthgpjkcgccdldaaGreatDoor

namespace Go.Proofs.YthgpjkcgccdldaaGreatDoor
open Go.RowKit Go.Maps

abbrev KVs := List (ByteArray × ByteArray)

/-- Few keys, each of one byte, with short values, rising. -/
structure Tiny (l : KVs) : Prop where
  len : l.length ≤ 20
  kv : ∀ x ∈ l, x.1.size = 1 ∧ x.2.size ≤ 2
  rises : Rises (keysOf l)

theorem sum_le_of (l : List Nat) (c : Nat) (h : ∀ x ∈ l, x ≤ c) : ∀ a, l.foldl (· + ·) a ≤ a + c * l.length := by
  induction l with
  | nil => intro a; simp
  | cons x xs ih =>
    intro a
    rw [List.foldl_cons]
    have h1 := ih (fun y hy => h y (List.mem_cons_of_mem _ hy)) (a + x)
    have h2 := h x (List.mem_cons_self ..)
    rw [List.length_cons, Nat.mul_succ]
    omega

theorem small_fits {l : KVs} (hl : l.length ≤ 40) (h : ∀ x ∈ l, x.1.size = 1 ∧ x.2.size ≤ 2) : Short l ∧ lsize l ≤ 495 := by
  refine ⟨fun x hx => by have := h x hx; omega, ?_⟩
  have := sum_le_of (lsizes l) 5 (fun y hy => by
    unfold lsizes at hy
    obtain ⟨x, hx, rfl⟩ := List.mem_map.1 hy
    have := h x hx
    unfold kvSize
    omega) 0
  have hlen : (lsizes l).length = l.length := by simp [lsizes]
  unfold lsize sumN
  rw [hlen] at this
  omega
theorem Tiny.fits {l : KVs} (h : Tiny l) : Short l ∧ lsize l ≤ 495 := small_fits (by have := h.len; omega) h.kv

/-- What a Put makes of a row. -/
def IsPut (l : KVs) (k v : ByteArray) (l' : KVs) : Prop := ∃ i f, IsPos (keysOf l) k i ∧ (f = true ↔ Stands l k i) ∧ l' = putL l i f (k, v)

theorem putL_mem {l : KVs} {i : Nat} {f : Bool} {kv x : ByteArray × ByteArray} (h : x ∈ putL l i f kv) : x ∈ l ∨ x = kv := by
  unfold putL at h
  rcases List.mem_append.1 h with h | h
  · rcases List.mem_append.1 h with h | h
    · exact .inl (List.mem_of_mem_take h)
    · exact .inr (by simpa using h)
  · exact .inl (List.mem_of_mem_drop h)

theorem putL_len (l : KVs) (i : Nat) (f : Bool) (kv : ByteArray × ByteArray) (hi : i ≤ l.length) : (putL l i f kv).length = if f = true ∧ i < l.length then l.length else l.length + 1 := by
  unfold putL
  rw [List.length_append, List.length_append, List.length_take, List.length_drop]
  cases f <;> simp
  · omega
  · split <;> omega

theorem putL_fits {l : KVs} {k v : ByteArray} (h : Tiny l) (hk : k.size = 1) (hv : v.size ≤ 2) (i : Nat) (f : Bool) (hp : IsPos (keysOf l) k i) : Short (putL l i f (k, v)) ∧ lsize (putL l i f (k, v)) ≤ 495 := by
  refine small_fits ?_ fun x hx => ?_
  · have h1 := h.len
    have h2 := hp.1
    rw [keysOf_length] at h2
    rw [putL_len l i f (k, v) h2]
    split <;> omega
  · rcases putL_mem hx with h' | rfl
    · exact h.kv x h'
    · exact ⟨hk, hv⟩

theorem putL_rises {l : KVs} {k v : ByteArray} {i : Nat} {f : Bool} (hs : Rises (keysOf l)) (hp : IsPos (keysOf l) k i) (hf : f = true ↔ Stands l k i) : Rises (keysOf (putL l i f (k, v))) := by
  have hi := hp.1
  rw [keysOf_length] at hi
  unfold Rises keysOf putL at *
  rw [List.map_append, List.map_append, List.map_take, List.map_drop]
  rw [List.pairwise_append, List.pairwise_append]
  refine ⟨⟨hs.sublist (List.take_sublist _ _), by simp, fun x hx y hy => ?_⟩, hs.sublist (List.drop_sublist _ _), fun x hx y hy => ?_⟩
  · simp at hy
    subst hy
    obtain ⟨m, hm, rfl⟩ := List.mem_iff_getElem.1 hx
    rw [List.length_take] at hm
    rw [List.getElem_take]
    exact hp.2.1 m (by omega) (by omega)
  · obtain ⟨m, hm, rfl⟩ := List.mem_iff_getElem.1 hy
    rw [List.length_drop] at hm
    rw [List.getElem_drop]
    have hlm : (List.map Prod.fst l).length = l.length := by simp
    have hge' : ∀ j' (hj' : j' < (List.map Prod.fst l).length), (if f = true then i + 1 else i) ≤ j' → klt k (List.map Prod.fst l)[j'] := fun j' hj' hle => by
      cases hff : f with
      | true =>
        rw [hff] at hle
        simp at hle
        obtain ⟨hil, hik⟩ := hf.1 hff
        have := List.pairwise_iff_getElem.1 hs i j' (by omega) hj' (by omega)
        rwa [List.getElem_map, hik] at this
      | false =>
        rw [hff] at hle
        simp at hle
        have h3 := hp.2.2 j' hj' hle
        rcases klt_tri k (List.map Prod.fst l)[j'] with h | h | h
        · exact h
        · exfalso
          by_cases h0 : i = j'
          · subst h0
            have : f = true := hf.2 ⟨by omega, by rw [h]; simp⟩
            rw [hff] at this
            cases this
          · have := List.pairwise_iff_getElem.1 hs i j' (by omega) hj' (by omega)
            rw [← h] at this
            exact hp.2.2 i (by omega) (Nat.le_refl _) this
        · exact absurd h h3
    have hge : klt k (List.map Prod.fst l)[(if f = true then i + 1 else i) + m] := hge' _ _ (by omega)
    rcases List.mem_append.1 hx with h | h
    · obtain ⟨m', hm', rfl⟩ := List.mem_iff_getElem.1 h
      rw [List.length_take] at hm'
      rw [List.getElem_take]
      exact klt_trans (hp.2.1 m' (by omega) (by omega)) hge
    · simp at h
      subst h
      exact hge

theorem putL_same {l : KVs} {i : Nat} {k v : ByteArray} (hi : i < l.length) (h : l[i] = (k, v)) : putL l i true (k, v) = l := by
  unfold putL
  rw [if_pos rfl, ← h]
  rw [List.append_assoc, List.singleton_append, ← List.drop_eq_getElem_cons hi, List.take_append_drop]

theorem Tiny.put {l l' : KVs} {k v : ByteArray} (h : Tiny l) (hk : k.size = 1) (hv : v.size ≤ 2) (hp : IsPut l k v l') (hl : l'.length ≤ 20) : Tiny l' := by
  obtain ⟨i, f, h1, h2, rfl⟩ := hp
  refine ⟨hl, fun x hx => ?_, putL_rises h.rises h1 h2⟩
  rcases putL_mem hx with h' | rfl
  · exact h.kv x h'
  · exact ⟨hk, hv⟩

theorem Tiny.erase {l : KVs} (h : Tiny l) (i : Nat) : Tiny (l.eraseIdx i) :=
  ⟨Nat.le_trans (List.length_eraseIdx_le l i) h.len, fun x hx => h.kv x (List.mem_of_mem_eraseIdx hx), by
    have := h.rises
    unfold Rises keysOf at *
    exact this.sublist ((List.eraseIdx_sublist l i).map _)⟩

end Go.Proofs.YthgpjkcgccdldaaGreatDoor

namespace Go.Proofs.YthgpjkcgccdldaaGreatDoor
open Go.RowKit Go.Maps

/-- Nothing of O has turned, nor the table. -/
def Keep (O : Nat → Prop) (w w' : World) : Prop := ∃ X, Turn X w w' ∧ ∀ x ∈ X, ¬ O x ∧ x ≠ 1

theorem Keep.of {O : Nat → Prop} {X : List Nat} {w w' : World} (h : Turn X w w') (hX : ∀ x ∈ X, ¬ O x ∧ x ≠ 1) : Keep O w w' := ⟨X, h, hX⟩
theorem Keep.refl (O : Nat → Prop) (w : World) : Keep O w w := ⟨[], Turn.refl _ _, by simp⟩
theorem Keep.trans {O : Nat → Prop} {u v w : World} (h : Keep O u v) (k : Keep O v w) : Keep O u w := by
  obtain ⟨X, h1, h2⟩ := h
  obtain ⟨Y, k1, k2⟩ := k
  refine ⟨X ++ Y, (h1.mono (by intro x hx; simp [hx])).trans (k1.mono (by intro x hx; simp [hx])), fun x hx => ?_⟩
  rcases List.mem_append.1 hx with h | h
  · exact h2 x h
  · exact k2 x h
theorem Keep.size {O : Nat → Prop} {w w' : World} (h : Keep O w w') : w.heap.size ≤ w'.heap.size := by obtain ⟨_, h, _⟩ := h; exact h.size
theorem Keep.less {O O' : Nat → Prop} {w w' : World} (h : Keep O w w') (hO : ∀ x, O' x → O x) : Keep O' w w' := by
  obtain ⟨X, h1, h2⟩ := h
  exact ⟨X, h1, fun x hx => ⟨fun ho => (h2 x hx).1 (hO x ho), (h2 x hx).2⟩⟩
theorem Keep.then0 {O : Nat → Prop} {u v w : World} (h : Keep O u v) (k : Turn [] v w) : Keep O u w := h.trans ⟨[], k, by simp⟩

/-- The pages that are to be freed. -/
def Drop (w : World) (O : Nat → Prop) (B : List Nat) (v : Value) : Option Nat → Prop
  | none => v = .slice none 0 0
  | some pg => ∃ g cap, v = .slice (some ⟨g, 0, none⟩) 1 cap ∧ w.cell? ⟨g, 0, none⟩ = some (.int .i64 (pg : Nat)) ∧ ¬ O g ∧ g ∉ B

theorem Drop.turn {X : List Nat} {w w' : World} {O O' : Nat → Prop} {B B' : List Nat} {v : Value} {kp : Option Nat} (h : Drop w O B v kp) (hT : Turn X w w') (hX : ∀ g, g < w.heap.size → ¬ O g → g ∉ B → g ∉ X ∧ ¬ O' g ∧ g ∉ B') : Drop w' O' B' v kp := by
  cases kp with
  | none => exact h
  | some pg =>
    obtain ⟨g, cap, h1, h2, h3, h4⟩ := h
    obtain ⟨k1, k2, k3⟩ := hX g (lt_of_cell h2) h3 h4
    exact ⟨g, cap, h1, (hT.cell (p := ⟨g, 0, none⟩) (lt_of_cell h2) k1).trans h2, k2, k3⟩

/-- What the root is: a leaf with a page, a fresh leaf, or nothing. -/
inductive Shape (w : World) (O : Nat → Prop) (B : List Nat) (S : Stt) (kp : Option Nat) (l : KVs) : Prop
  | old (a pg : Nat) (d : Int) (bb off cap : Nat) (hr : S.root = some a) (hf : S.fresh = 0) (hd : S.dropped = .slice none 0 0) (hp : 0 < pg) (hk : kp = some pg) (hl : l ≠ []) (hL : LeafAt w a pg d bb off cap l) (ho : ¬ O a ∧ ¬ O bb) (hB : a ∉ B ∧ bb ∉ B ∧ bb ≠ a)
  | new (a : Nat) (d : Int) (bb off cap : Nat) (hr : S.root = some a) (hf : S.fresh = 1) (hd : Drop w O (a :: B) S.dropped kp) (hl : l ≠ []) (hL : LeafAt w a 0 d bb off cap l) (ho : ¬ O a ∧ ¬ O bb) (hB : a ∉ B ∧ bb ∉ B ∧ bb ≠ a)
  | gone (hr : S.root = none) (hf : S.fresh = 0) (hd : Drop w O B S.dropped kp) (hl : l = [])

/-- A tree, and all that it stands on. -/
structure Core (w : World) (O : Nat → Prop) (t p b m sm rb : Nat) (s : St) (q : Pg) (D S : Stt) (N c : Nat) (kp : Option Nat) (l : KVs) : Prop where
  pa : PAt w p b m sm rb s q
  tr : TreeAt w t p D S
  off : Off t p b m sm rb
  rbl : rb < w.heap.size
  sd : s.dead = false
  sl : s.left < 0
  sn : s.n = N
  sk : s.k ≤ 3 * c
  cl : c ≤ 100
  qd : q.dead = false
  qu : q.u = 0
  qc : q.c = c
  qs : ∀ k, q.si k = 0
  qK : ∀ k, q.K k = true ↔ kp = some k
  no : ∀ x ∈ [1, t, p, b, m, sm, rb], ¬ O x
  ob : ∀ x, O x → x < w.heap.size
  keys : S.keys = l.length
  tiny : Tiny l
  shape : Shape w O [1, t, p, b, m, sm, rb] S kp l

def TreeOk (w : World) (O : Nat → Prop) (t p N c : Nat) (ch : Bool) (l : KVs) : Prop :=
  ∃ b m sm rb s q D S kp, Core w O t p b m sm rb s q D S N c kp l ∧ S.changed = ch

theorem Core.lts {w : World} {O : Nat → Prop} {t p b m sm rb : Nat} {s : St} {q : Pg} {D S : Stt} {N c : Nat} {kp : Option Nat} {l : KVs} (h : Core w O t p b m sm rb s q D S N c kp l) : ∀ x ∈ [1, t, p, b, m, sm, rb], x < w.heap.size := by
  have h1 : (1 : Nat) < w.heap.size := by have := h.pa.tab 0 (by omega); exact lt_of_cell this
  have h2 := h.tr.lt
  have h3 := h.pa.pg.lt
  have h4 := h.pa.disk.lt
  have h5 := h.pa.disk.ltm
  have h6 := h.pa.pg.lts
  have h7 := h.rbl
  intro x hx
  simp at hx
  rcases hx with rfl | rfl | rfl | rfl | rfl | rfl | rfl <;> assumption

theorem Core.ne1 {w : World} {O : Nat → Prop} {t p b m sm rb : Nat} {s : St} {q : Pg} {D S : Stt} {N c : Nat} {kp : Option Nat} {l : KVs} (h : Core w O t p b m sm rb s q D S N c kp l) : ∀ x ∈ [t, p, b, m, sm], x ≠ 1 := by
  have h1 := h.off.one
  have h2 := h.pa.pos
  intro x hx
  simp at hx
  rcases hx with rfl | rfl | rfl | rfl | rfl <;> omega

theorem Shape.lt {w : World} {O : Nat → Prop} {B : List Nat} {S : Stt} {kp : Option Nat} {l : KVs} (h : Shape w O B S kp l) : ∀ a, S.root = some a → a < w.heap.size := by
  intro a ha
  cases h with
  | old a' pg d bb off cap hr hf hd hp hk hl hL ho hB => rw [hr] at ha; cases ha; exact hL.place.lt
  | new a' d bb off cap hr hf hd hl hL ho hB => rw [hr] at ha; cases ha; exact hL.place.lt
  | gone hr hf hd hl => rw [hr] at ha; cases ha

/-- A tree stays as it is where other blocks turn. -/
theorem Shape.turn {X : List Nat} {w w' : World} {O O' : Nat → Prop} {B : List Nat} {S S' : Stt} {kp : Option Nat} {l : KVs} (h : Shape w O B S kp l) (hT : Turn X w w') (hX : ∀ x ∈ X, O x ∨ x ∈ B) (hO : ∀ x, x < w.heap.size → O' x → O x) (e1 : S'.root = S.root) (e2 : S'.fresh = S.fresh) (e3 : S'.dropped = S.dropped) : Shape w' O' B S' kp l := by
  have hno : ∀ x, ¬ O x → x ∉ B → x ∉ X := fun x h1 h2 hm => by rcases hX x hm with h | h <;> contradiction
  cases h with
  | old a pg d bb off cap hr hf hd hp hk hl hL ho hB =>
    have hal := hL.place.lt
    have hbl := hL.kv.lt ⟨bb, off, none⟩ hl rfl
    exact .old a pg d bb off cap (e1.trans hr) (e2.trans hf) (e3.trans hd) hp hk hl ⟨hL.place.turn hT (hno a ho.1 hB.1), hL.d01, hL.kv.turn hT (fun x _ hx => by obtain rfl := Option.some.inj hx; exact hno bb ho.2 hB.2.1), hL.cap⟩ ⟨fun h => ho.1 (hO a hal h), fun h => ho.2 (hO bb hbl h)⟩ hB
  | new a d bb off cap hr hf hd hl hL ho hB =>
    have hal := hL.place.lt
    have hbl := hL.kv.lt ⟨bb, off, none⟩ hl rfl
    exact .new a d bb off cap (e1.trans hr) (e2.trans hf) (by rw [e3]; exact hd.turn hT (fun g hg h1 h2 => ⟨hno g h1 (fun h => h2 (List.mem_cons_of_mem _ h)), fun h => h1 (hO g hg h), h2⟩)) hl ⟨hL.place.turn hT (hno a ho.1 hB.1), hL.d01, hL.kv.turn hT (fun x _ hx => by obtain rfl := Option.some.inj hx; exact hno bb ho.2 hB.2.1), hL.cap⟩ ⟨fun h => ho.1 (hO a hal h), fun h => ho.2 (hO bb hbl h)⟩ hB
  | gone hr hf hd hl => exact .gone (e1.trans hr) (e2.trans hf) (by rw [e3]; exact hd.turn hT (fun g hg h1 h2 => ⟨hno g h1 h2, fun h => h1 (hO g hg h), h2⟩)) hl

/-- Other blocks turn, or become other people's. -/
theorem TreeOk.turn {X : List Nat} {w w' : World} {O O' : Nat → Prop} {t p N c : Nat} {ch : Bool} {l : KVs} (h : TreeOk w O t p N c ch l) (hT : Turn X w w') (hX : ∀ x ∈ X, O x) (hO : ∀ x, O' x → O x ∨ w.heap.size ≤ x) (hb : ∀ x, O' x → x < w'.heap.size) : TreeOk w' O' t p N c ch l := by
  obtain ⟨b, m, sm, rb, s, q, D, S, kp, h, hch⟩ := h
  have hl := h.lts
  have hno : ∀ x ∈ [1, t, p, b, m, sm, rb], x ∉ X := fun x hx hm => h.no x hx (hX x hm)
  have hO' : ∀ x, x < w.heap.size → O' x → O x := fun x hx h => by
    rcases hO x h with h | h
    · exact h
    · omega
  exact ⟨b, m, sm, rb, s, q, D, S, kp, ⟨h.pa.turn hT (hno 1 (by simp)) (hno p (by simp)) (hno b (by simp)) (hno m (by simp)) (hno sm (by simp)) (hno rb (by simp)), h.tr.turn hT (hno t (by simp)), h.off, Nat.lt_of_lt_of_le h.rbl hT.size, h.sd, h.sl, h.sn, h.sk, h.cl, h.qd, h.qu, h.qc, h.qs, h.qK, fun x hx ho => h.no x hx (hO' x (hl x hx) ho), hb, h.keys, h.tiny, h.shape.turn hT (fun x hx => .inl (hX x hx)) hO' rfl rfl rfl⟩, hch⟩

theorem TreeOk.not1 {w : World} {O : Nat → Prop} {t p N c : Nat} {ch : Bool} {l : KVs} (h : TreeOk w O t p N c ch l) {x : Nat} (hx : O x) : x ≠ 1 := by
  obtain ⟨b, m, sm, rb, s, q, D, S, kp, h, _⟩ := h
  rintro rfl
  exact h.no 1 (by simp) hx

/-- How much room there is. -/
theorem Core.left {w : World} {O : Nat → Prop} {t p b m sm rb : Nat} {s : St} {q : Pg} {D S : Stt} {N c : Nat} {kp : Option Nat} {l : KVs} (h : Core w O t p b m sm rb s q D S N c kp l) : 50 ≤ q.left s.n := by
  have h1 := left_ge q s.n (by have := h.pa.laid.n4096; omega) kp.toList (fun k _ _ hk => by
    rw [h.qs k] at hk
    simp at hk
    rw [(h.qK k).1 hk]
    simp)
  have h2 := h.pa.laid.n64
  have h3 : kp.toList.length ≤ 1 := by cases kp <;> simp
  omega

theorem fresh_le {w : World} {O : Nat → Prop} {B : List Nat} {S : Stt} {kp : Option Nat} {l : KVs} (h : Shape w O B S kp l) : S.fresh ≤ 1 := by
  cases h with
  | old a' pg d bb off cap hr hf hd hp hk hl hL ho hB => omega
  | new a' d bb off cap hr hf hd hl hL ho hB => omega
  | gone hr hf hd hl => omega

/-- The world behind a call that only asked the pager. -/
theorem Core.rd {w w' : World} {O : Nat → Prop} {t p b m sm rb : Nat} {s : St} {q : Pg} {D S : Stt} {N c : Nat} {kp : Option Nat} {l : KVs} (h : Core w O t p b m sm rb s q D S N c kp l) (r : Bool) (hA : PAt w' p b m sm rb s { q with rd := r }) (hT : Turn [p] w w') : Core w' O t p b m sm rb s { q with rd := r } D S N c kp l :=
  ⟨hA, h.tr.turn hT (by simp; exact h.off.p), h.off, Nat.lt_of_lt_of_le h.rbl hT.size, h.sd, h.sl, h.sn, h.sk, h.cl, h.qd, h.qu, h.qc, h.qs, h.qK, h.no, fun x hx => Nat.lt_of_lt_of_le (h.ob x hx) hT.size, h.keys, h.tiny, h.shape.turn hT (fun x hx => .inr (by simp at hx; subst hx; simp)) (fun _ _ h => h) rfl rfl rfl⟩

/-- A leaf that was looked at. -/
theorem Core.seen {w w' : World} {O : Nat → Prop} {t p b m sm rb : Nat} {s : St} {q : Pg} {D S : Stt} {N c : Nat} {kp : Option Nat} {l : KVs} (h : Core w O t p b m sm rb s q D S N c kp l) {a pg : Nat} {d : Int} {bb off cap : Nat} (hr : S.root = some a) (hT : Turn [a] w w') (hL : LeafAt w' a pg d bb off cap l) (ha : a ∉ [1, t, p, b, m, sm, rb]) (hs : Shape w' O [1, t, p, b, m, sm, rb] S kp l) : Core w' O t p b m sm rb s q D S N c kp l := by
  have hne : ∀ x ∈ [1, t, p, b, m, sm, rb], x ∉ [a] := fun x hx hm => by simp at hm; subst hm; exact ha hx
  exact ⟨h.pa.turn hT (hne 1 (by simp)) (hne p (by simp)) (hne b (by simp)) (hne m (by simp)) (hne sm (by simp)) (hne rb (by simp)), h.tr.turn hT (hne t (by simp)), h.off, Nat.lt_of_lt_of_le h.rbl hT.size, h.sd, h.sl, h.sn, h.sk, h.cl, h.qd, h.qu, h.qc, h.qs, h.qK, h.no, fun x hx => Nat.lt_of_lt_of_le (h.ob x hx) hT.size, h.keys, h.tiny, hs⟩

/-- Get. -/
theorem ok_get {w : World} {O : Nat → Prop} {t p N c : Nat} {ch : Bool} {l : KVs} (h : TreeOk w O t p N c ch l) (key : ByteArray) :
    Calls Tryz.prog 54 #[.pointer (some ⟨t, 0, none⟩), .string key] w fun e w' => ∃ val f, e = .returned (.tuple #[.string val, .bool f]) ∧ Got l key val f ∧ TreeOk w' O t p N c ch l ∧ Keep O w w' := by
  obtain ⟨b, m, sm, rb, s, q, D, S, kp, h, hch⟩ := h
  have hlen := h.tiny.len
  have hgen : ∀ (a pg : Nat) (d : Int) (bb off cap : Nat), S.root = some a → LeafAt w a pg d bb off cap l → ¬ O a → a ∉ [1, t, p, b, m, sm, rb] → bb ≠ a → (∀ w', Turn [a] w w' → LeafAt w' a pg 1 bb off cap l → Shape w' O [1, t, p, b, m, sm, rb] S kp l) → Calls Tryz.prog 54 #[.pointer (some ⟨t, 0, none⟩), .string key] w fun e w' => ∃ val f, e = .returned (.tuple #[.string val, .bool f]) ∧ Got l key val f ∧ TreeOk w' O t p N c ch l ∧ Keep O w w' := fun a pg d bb off cap hr hL ho haB hba hsh => by
    refine (get_leaf t p a pg d bb off cap l D S hr (fun _ => hba) h.tiny.rises (by omega) key w h.tr hL).mono ?_
    rintro e w' ⟨val, f, rfl, hG, hL', hT'⟩
    exact ⟨val, f, rfl, hG, ⟨b, m, sm, rb, s, q, D, S, kp, h.seen hr hT' hL' haB (hsh w' hT' hL'), hch⟩, Keep.of hT' (by simp; exact ⟨ho, fun e => haB (by simp [e])⟩)⟩
  cases h.shape with
  | old a pg d bb off cap hr hf hd hp hk hl hL ho hB =>
    exact hgen a pg d bb off cap hr hL ho.1 hB.1 hB.2.2 fun w' hT' hL' => .old a pg 1 bb off cap hr hf hd hp hk hl hL' ho hB
  | new a d bb off cap hr hf hd hl hL ho hB =>
    exact hgen a 0 d bb off cap hr hL ho.1 hB.1 hB.2.2 fun w' hT' hL' => .new a 1 bb off cap hr hf (hd.turn hT' (fun g _ h1 h2 => ⟨by simp; intro e; exact h2 (by simp [e]), h1, h2⟩)) hl hL' ho hB
  | gone hr hf hd hl =>
    subst hl
    refine (get_nil t p D S hr key w h.tr).mono ?_
    rintro e w' ⟨rfl, hT'⟩
    refine ⟨⟨#[]⟩, false, rfl, .inr ⟨rfl, rfl, by simp⟩, TreeOk.turn ⟨b, m, sm, rb, s, q, D, S, kp, h, hch⟩ hT' (by simp) (fun x hx => .inl hx) (fun x hx => Nat.lt_of_lt_of_le (h.ob x hx) hT'.size), Keep.of hT' (by simp)⟩

/-- Whether the power is gone, as the store asks. -/
theorem ok_read {w : World} {O : Nat → Prop} {t p N c : Nat} {ch : Bool} {l : KVs} (h : TreeOk w O t p N c ch l) :
    Calls Tryz.prog 64 #[.pointer (some ⟨p, 0, none⟩), .int .i64 0] w fun e w' => e = .returned (.tuple #[.slice none 0 0, .int .i64 2]) ∧ TreeOk w' O t p N c ch l ∧ Keep O w w' := by
  obtain ⟨b, m, sm, rb, s, q, D, S, kp, h, hch⟩ := h
  refine (read_no p b m sm rb s q h.sd h.qd 0 (there0 q s.n) w h.pa).mono ?_
  rintro e w' ⟨rfl, ⟨r, hA⟩, hT⟩
  exact ⟨rfl, ⟨b, m, sm, rb, s, _, D, S, kp, h.rd r hA hT, hch⟩, Keep.of hT (by simp; exact ⟨h.no p (by simp), by have := h.pa.pos; omega⟩)⟩

/-- Scan of all. -/
theorem ok_scan {w : World} {O : Nat → Prop} {t p N c : Nat} {ch : Bool} {l : KVs} (h : TreeOk w O t p N c ch l) :
    Calls Tryz.prog 49 #[.pointer (some ⟨t, 0, none⟩), .string ⟨#[]⟩, .string ⟨#[]⟩, .int .i64 0] w fun e w' => ∃ r, e = .returned r ∧ w'.ownsRow w.heap.size 55 2 r l.length (flat (kvCells l)) ∧ TreeOk w' O t p N c ch l ∧ Keep O w w' := by
  obtain ⟨b, m, sm, rb, s, q, D, S, kp, h, hch⟩ := h
  have hlen := h.tiny.len
  have hgen : ∀ (a pg : Nat) (d : Int) (bb off cap : Nat), S.root = some a → l ≠ [] → LeafAt w a pg d bb off cap l → ¬ O a → a ∉ [1, t, p, b, m, sm, rb] → bb ≠ a → (∀ w', Turn [a] w w' → LeafAt w' a pg 1 bb off cap l → Shape w' O [1, t, p, b, m, sm, rb] S kp l) → Calls Tryz.prog 49 #[.pointer (some ⟨t, 0, none⟩), .string ⟨#[]⟩, .string ⟨#[]⟩, .int .i64 0] w fun e w' => ∃ r, e = .returned r ∧ w'.ownsRow w.heap.size 55 2 r l.length (flat (kvCells l)) ∧ TreeOk w' O t p N c ch l ∧ Keep O w w' := fun a pg d bb off cap hr hl hL ho haB hba hsh => by
    refine (scan_gen t p D S [a] l (fun w' => LeafAt w' a pg 1 bb off cap l) (by simp; intro e; exact haB (by simp [e])) w h.tr ?_).mono ?_
    · intro W fb hb lb r hTW hF hh hl'
      rw [show rootV S.root = .pointer (some ⟨a, 0, none⟩) from by rw [hr]; rfl]
      exact walk_leaf w t a pg d bb off cap l h.tiny.rises (by omega) (List.length_pos_iff.2 hl) ⟨hba, hL.kv.lt ⟨bb, off, none⟩ hl rfl, hL.place.lt⟩ fb hb lb hh hl' r W ⟨hL.place.turn hTW (by simp), hL.d01, hL.kv.turn0 hTW, hL.cap⟩ hF
    · rintro e w' ⟨r, rfl, hO, hL', hT'⟩
      exact ⟨r, rfl, hO, ⟨b, m, sm, rb, s, q, D, S, kp, h.seen hr hT' hL' haB (hsh w' hT' hL'), hch⟩, Keep.of hT' (by simp; exact ⟨ho, fun e => haB (by simp [e])⟩)⟩
  cases h.shape with
  | old a pg d bb off cap hr hf hd hp hk hl hL ho hB =>
    exact hgen a pg d bb off cap hr hl hL ho.1 hB.1 hB.2.2 fun w' hT' hL' => .old a pg 1 bb off cap hr hf hd hp hk hl hL' ho hB
  | new a d bb off cap hr hf hd hl hL ho hB =>
    exact hgen a 0 d bb off cap hr hl hL ho.1 hB.1 hB.2.2 fun w' hT' hL' => .new a 1 bb off cap hr hf (hd.turn hT' (fun g _ h1 h2 => ⟨by simp; intro e; exact h2 (by simp [e]), h1, h2⟩)) hl hL' ho hB
  | gone hr hf hd hl =>
    subst hl
    refine (scan_gen t p D S [] [] (fun _ => True) (by simp) w h.tr ?_).mono ?_
    · intro W fb hb lb r hTW hF hh hl'
      rw [show rootV S.root = .pointer none from by rw [hr]; rfl]
      refine (walk_nil w [] t fb hb lb r W hF).mono ?_
      rintro e w' ⟨rfl, hF'⟩
      exact ⟨rfl, trivial, r, hF'⟩
    · rintro e w' ⟨r, rfl, hO, _, hT'⟩
      exact ⟨r, rfl, hO, TreeOk.turn ⟨b, m, sm, rb, s, q, D, S, kp, h, hch⟩ hT' (by simp) (fun x hx => .inl hx) (fun x hx => Nat.lt_of_lt_of_le (h.ob x hx) hT'.size), Keep.of hT' (by simp)⟩

end Go.Proofs.YthgpjkcgccdldaaGreatDoor

namespace Go.Proofs.YthgpjkcgccdldaaGreatDoor
open Go.RowKit Go.Maps

theorem own_one {w : World} {base pg : Nat} {v : Value} (h : w.ownsRow base 3 1 v 1 [.int .i64 (pg : Nat)]) : ∃ g cap, v = .slice (some ⟨g, 0, none⟩) 1 cap ∧ w.cell? ⟨g, 0, none⟩ = some (.int .i64 (pg : Nat)) ∧ base ≤ g := by
  obtain ⟨_, ⟨_, h0⟩ | ⟨g, cap, cur, rfl, hb, hg, hnc, hm, hsz, htk⟩⟩ := h
  · cases h0
  · refine ⟨g, cap, rfl, ?_, hb⟩
    have h1 : cur.toList[0]? = some (.int .i64 (pg : Nat)) := by
      have := congrArg (fun l : List Value => l[0]?) htk
      simpa [List.getElem?_take] using this
    unfold World.cell?
    simp only [hg]
    simpa using h1

theorem spent_drop {w w' : World} {O : Nat → Prop} {B X : List Nat} {S1 S' : Stt} {pg more top : Nat} {kp : Option Nat} (a : Nat) (h : Spent w w' pg S1 S' more top) (hob : ∀ x, O x → x < w.heap.size) (hB : ∀ x ∈ B, x < w.heap.size) (hT : Turn X w w') (hX : ∀ x ∈ X, x ∈ a :: B) (hcase : (pg = 0 ∧ S1.fresh = 1 ∧ Drop w O (a :: B) S1.dropped kp) ∨ (0 < pg ∧ S1.fresh = 0 ∧ kp = some pg)) :
    S'.fresh = more ∧ (∀ a', w.heap.size ≤ a' → top ≤ a' → Drop w' O (a' :: B) S'.dropped kp) ∧ Drop w' O B S'.dropped kp := by
  obtain ⟨_, _, h3⟩ := h
  rcases hcase with ⟨h0, h1, hd⟩ | ⟨h0, h1, rfl⟩
  · rcases h3 with ⟨_, h4, h5⟩ | ⟨h4, _⟩
    · refine ⟨by omega, fun a' ha' _ => ?_, ?_⟩
      · rw [h5]
        refine hd.turn hT fun g hg h1 h2 => ⟨fun hm => h2 (hX g hm), h1, fun hm => ?_⟩
        rcases List.mem_cons.1 hm with e | e
        · omega
        · exact h2 (List.mem_cons_of_mem _ e)
      · rw [h5]
        exact hd.turn hT fun g hg h1 h2 => ⟨fun hm => h2 (hX g hm), h1, fun hm => h2 (List.mem_cons_of_mem _ hm)⟩
    · omega
  · rcases h3 with ⟨h4, _⟩ | ⟨_, h4, h5, h6⟩
    · omega
    · obtain ⟨g, cap, e, hc, hb⟩ := own_one h5
      have hgO : ¬ O g := fun ho => by have := hob g ho; omega
      have hgB : g ∉ B := fun hm => by have := hB g hm; omega
      have hgt := h6 g (by rw [e]; rfl)
      refine ⟨by omega, fun a' ha' ht => ⟨g, cap, e, hc, hgO, fun hm => ?_⟩, ⟨g, cap, e, hc, hgO, hgB⟩⟩
      rcases List.mem_cons.1 hm with e | e
      · omega
      · exact hgB e

/-- The world behind a Put or a Del: all but the tree's own state. -/
theorem Core.after {w w' : World} {O : Nat → Prop} {t p b m sm rb : Nat} {s : St} {q : Pg} {D S S' : Stt} {N c : Nat} {kp : Option Nat} {l l' : KVs} (h : Core w O t p b m sm rb s q D S N c kp l) (r : Bool) (hA : PAt w' p b m sm rb s { q with rd := r }) (hTr : TreeAt w' t p D S') (hs : w.heap.size ≤ w'.heap.size) (hk : S'.keys = l'.length) (ht : Tiny l') (hsh : Shape w' O [1, t, p, b, m, sm, rb] S' kp l') : Core w' O t p b m sm rb s { q with rd := r } D S' N c kp l' :=
  ⟨hA, hTr, h.off, Nat.lt_of_lt_of_le h.rbl hs, h.sd, h.sl, h.sn, h.sk, h.cl, h.qd, h.qu, h.qc, h.qs, h.qK, h.no, fun x hx => Nat.lt_of_lt_of_le (h.ob x hx) hs, hk, ht, hsh⟩

theorem off_ne7 {x t p b m sm rb : Nat} (h : x ∉ [1, t, p, b, m, sm, rb]) : x ≠ 1 ∧ x ≠ p ∧ x ≠ b ∧ x ≠ m ∧ x ≠ sm ∧ x ≠ rb ∧ x ≠ t := by
  simp at h
  omega

/-- Put of a key of one byte. -/
theorem ok_put {w : World} {O : Nat → Prop} {t p N c : Nat} {ch : Bool} {l : KVs} (h : TreeOk w O t p N c ch l) (k v : ByteArray) (hk : k.size = 1) (hv : v.size ≤ 2) (hroom : ∀ l', IsPut l k v l' → l'.length ≤ 20) :
    Calls Tryz.prog 42 #[.pointer (some ⟨t, 0, none⟩), .string k, .string v] w fun e w' => e = .returned (.int .i64 0) ∧ ∃ l', IsPut l k v l' ∧ TreeOk w' O t p N c true l' ∧ Keep O w w' := by
  obtain ⟨b, m, sm, rb, s, q, D, S, kp, h, hch⟩ := h
  have hlen := h.tiny.len
  have hleft := h.left
  have hkeys := h.keys
  have hB := h.lts
  have hnoO := h.no
  have hgen : ∀ (a pg : Nat) (d : Int) (bb off cap : Nat), S.root = some a → l ≠ [] → LeafAt w a pg d bb off cap l → ¬ O a → a ∉ [1, t, p, b, m, sm, rb] → bb ∉ [1, t, p, b, m, sm, rb] → bb ≠ a → ((pg = 0 ∧ S.fresh = 1 ∧ Drop w O (a :: [1, t, p, b, m, sm, rb]) S.dropped kp) ∨ (0 < pg ∧ S.fresh = 0 ∧ S.dropped = .slice none 0 0 ∧ kp = some pg)) → (∀ w', Turn [t, a, p] w w' → LeafAt w' a pg 1 bb off cap l → Shape w' O [1, t, p, b, m, sm, rb] { S with changed := true } kp l) → Calls Tryz.prog 42 #[.pointer (some ⟨t, 0, none⟩), .string k, .string v] w fun e w' => e = .returned (.int .i64 0) ∧ ∃ l', IsPut l k v l' ∧ TreeOk w' O t p N c true l' ∧ Keep O w w' := fun a pg d bb off cap hr hl hL ho haB hbB hba hcase hsh => by
    have hbn := off_ne7 hbB
    refine (put_leaf t p b m sm rb s q D S h.sd h.qd h.off a pg d bb off cap l k v hr (off_ne7 haB) ⟨hba, hbn.2.1, hbn.2.2.2.2.2.2⟩ (by rcases hcase with h | h <;> omega) (by omega) (by rcases hcase with h | h <;> omega) (by rcases hcase with h | h <;> (intro hpg; first | omega | exact h.2.2.1)) (by rcases hcase with h | h <;> omega) (by omega) (by omega) (by omega) h.tiny.rises (by omega) (fun i f h1 _ => putL_fits h.tiny hk hv i f h1) w h.pa h.tr hL).mono ?_
    rintro e w' ⟨rfl, hA, hT, hpost⟩
    have hKeep : Keep O w w' := Keep.of hT (fun x hx => by
      simp at hx
      rcases hx with rfl | rfl | rfl
      · exact ⟨hnoO _ (by simp), h.ne1 _ (by simp)⟩
      · exact ⟨ho, (off_ne7 haB).1⟩
      · exact ⟨hnoO _ (by simp), h.ne1 _ (by simp)⟩)
    have hfr : ∀ n, ((n = 0 ∧ ∃ i, Stands l k i) ∨ (n = 1 ∧ ∀ x ∈ l, x.1 ≠ k)) → Fresh w w' t p pg D S l k v n → ∃ l', IsPut l k v l' ∧ TreeOk w' O t p N c true l' ∧ Keep O w w' := fun n hn hF => by
      obtain ⟨i, f, a', g, cap', S', h1, h2, h3, h4, h5, h6, h7, h8, h9⟩ := hF
      have hput : IsPut l k v (putL l i f (k, v)) := ⟨i, f, h1, h2, rfl⟩
      have hi := h1.1
      rw [keysOf_length] at hi
      have hlp := putL_len l i f (k, v) hi
      have hkl : l.length + n = (putL l i f (k, v)).length := by
        rw [hlp]
        rcases hn with ⟨rfl, j, hj⟩ | ⟨rfl, hno⟩
        · have : i = j := h1.unique (pos_of_stands h.tiny.rises hj)
          subst this
          rw [if_pos ⟨h2.2 hj, hj.1⟩]
          rfl
        · rw [if_neg]
          rintro ⟨hf, _⟩
          obtain ⟨hil, e⟩ := h2.1 hf
          exact hno _ (List.getElem_mem hil) e
      have hne : putL l i f (k, v) ≠ [] := by
        intro e
        rw [e] at hkl
        have := List.length_pos_iff.2 hl
        rw [List.length_nil] at hkl
        omega
      obtain ⟨d1, d2, _⟩ := spent_drop (O := O) (B := [1, t, p, b, m, sm, rb]) (kp := kp) a h9 h.ob hB hT (by intro x hx; simp at hx ⊢; omega) (by
        rcases hcase with ⟨c1, c2, c3⟩ | ⟨c1, c2, _, c3⟩
        · exact .inl ⟨c1, c2, c3⟩
        · exact .inr ⟨c1, c2, c3⟩)
      have hob' : ∀ x, w.heap.size ≤ x → ¬ O x := fun x hx ho => by have := h.ob x ho; omega
      have hB' : ∀ x, w.heap.size ≤ x → x ∉ [1, t, p, b, m, sm, rb] := fun x hx hm => by have := hB x hm; omega
      refine ⟨_, hput, ⟨b, m, sm, rb, s, _, D, S', kp, h.after true hA h7 hT.size ?_ (h.tiny.put hk hv hput (hroom _ hput)) (.new a' 0 g 0 cap' h8 d1 (d2 a' h3 (Nat.le_refl _)) hne h6 ⟨hob' a' h3, hob' g h4⟩ ⟨hB' a' h3, hB' g h4, by omega⟩), h9.2.1⟩, hKeep⟩
      rw [h9.1, ← hkl]
      show S.keys + n = _
      omega
    rcases hpost with ⟨⟨i, hi, he⟩, hL', hTr'⟩ | ⟨hst, hF⟩ | ⟨hno, hF⟩
    · have hst : Stands l k i := ⟨hi, by rw [he]⟩
      refine ⟨rfl, l, ⟨i, true, pos_of_stands h.tiny.rises hst, ⟨fun _ => hst, fun _ => rfl⟩, (putL_same hi he).symm⟩, ⟨b, m, sm, rb, s, _, D, _, kp, h.after true hA hTr' hT.size hkeys h.tiny (hsh w' hT hL'), rfl⟩, hKeep⟩
    · exact ⟨rfl, hfr 0 (.inl ⟨rfl, hst⟩) hF⟩
    · exact ⟨rfl, hfr 1 (.inr ⟨rfl, hno⟩) hF⟩
  cases h.shape with
  | old a pg d bb off cap hr hf hd hp hkp hl hL ho hB' =>
    exact hgen a pg d bb off cap hr hl hL ho.1 hB'.1 hB'.2.1 hB'.2.2 (.inr ⟨hp, hf, hd, hkp⟩) fun w' hT' hL' => .old a pg 1 bb off cap hr hf hd hp hkp hl hL' ho hB'
  | new a d bb off cap hr hf hd hl hL ho hB' =>
    exact hgen a 0 d bb off cap hr hl hL ho.1 hB'.1 hB'.2.1 hB'.2.2 (.inl ⟨rfl, hf, hd⟩) fun w' hT' hL' => .new a 1 bb off cap hr hf (hd.turn hT' (fun g _ h1 h2 => ⟨fun hm => h2 (by simp at hm ⊢; omega), h1, h2⟩)) hl hL' ho hB'
  | gone hr hf hd hl =>
    subst hl
    refine (put_nil t p b m sm rb s q D S h.sd h.qd h.off hr (by omega) (by omega) (by omega) k v (by omega) (by omega) (by omega) w h.pa h.tr).mono ?_
    rintro e w' ⟨rfl, a, g, cap, h1, h2, h3, h4, h5, h6, hT⟩
    have hput : IsPut [] k v [(k, v)] := ⟨0, false, ⟨by simp, by simp [keysOf], by simp [keysOf]⟩, ⟨by simp, fun ⟨h, _⟩ => by simp at h⟩, rfl⟩
    have hob' : ∀ x, w.heap.size ≤ x → ¬ O x := fun x hx ho => by have := h.ob x ho; omega
    have hBn : ∀ x, w.heap.size ≤ x → x ∉ [1, t, p, b, m, sm, rb] := fun x hx hm => by have := hB x hm; omega
    refine ⟨rfl, _, hput, ⟨b, m, sm, rb, s, _, D, _, kp, h.after true h6 h5 hT.size (by show S.keys + 1 = _; simp at hkeys ⊢; omega) (h.tiny.put hk hv hput (by simp)) (.new a 0 g 0 cap rfl (by show S.fresh + 1 = 1; omega) (hd.turn hT (fun x hx h1 h2 => ⟨fun hm => h2 (by simp at hm ⊢; omega), h1, fun hm => ?_⟩)) (by simp) h4 ⟨hob' a h1, hob' g h2⟩ ⟨hBn a h1, hBn g h2, by omega⟩), rfl⟩, Keep.of hT (fun x hx => by
      simp at hx
      rcases hx with rfl | rfl
      · exact ⟨hnoO _ (by simp), h.ne1 _ (by simp)⟩
      · exact ⟨hnoO _ (by simp), h.ne1 _ (by simp)⟩)⟩
    rcases List.mem_cons.1 hm with e | e
    · omega
    · exact h2 e

/-- Del of a key that is there. -/
theorem ok_del {w : World} {O : Nat → Prop} {t p N c : Nat} {ch : Bool} {l : KVs} (h : TreeOk w O t p N c ch l) (k : ByteArray) (i : Nat) (hi : i < l.length) (hik : l[i].1 = k) :
    Calls Tryz.prog 44 #[.pointer (some ⟨t, 0, none⟩), .string k] w fun e w' => e = .returned (.int .i64 0) ∧ TreeOk w' O t p N c true (l.eraseIdx i) ∧ Keep O w w' := by
  obtain ⟨b, m, sm, rb, s, q, D, S, kp, h, hch⟩ := h
  have hlen := h.tiny.len
  have hkeys := h.keys
  have hB := h.lts
  have hnoO := h.no
  have ht' := h.tiny.erase i
  have hfit := ht'.fits
  have hel : (l.eraseIdx i).length = l.length - 1 := List.length_eraseIdx_of_lt hi
  have hgen : ∀ (a pg : Nat) (d : Int) (bb off cap : Nat), S.root = some a → LeafAt w a pg d bb off cap l → ¬ O a → a ∉ [1, t, p, b, m, sm, rb] → bb ∉ [1, t, p, b, m, sm, rb] → bb ≠ a → ((pg = 0 ∧ S.fresh = 1 ∧ Drop w O (a :: [1, t, p, b, m, sm, rb]) S.dropped kp) ∨ (0 < pg ∧ S.fresh = 0 ∧ S.dropped = .slice none 0 0 ∧ kp = some pg)) → Calls Tryz.prog 44 #[.pointer (some ⟨t, 0, none⟩), .string k] w fun e w' => e = .returned (.int .i64 0) ∧ TreeOk w' O t p N c true (l.eraseIdx i) ∧ Keep O w w' := fun a pg d bb off cap hr hL ho haB hbB hba hcase => by
    have hbn := off_ne7 hbB
    refine (del_leaf t p b m sm rb s q D S h.sd h.qd h.off a pg d bb off cap l k hr (off_ne7 haB) ⟨hba, hbn.2.1, hbn.2.2.2.2.2.2⟩ (by rcases hcase with h | h <;> omega) (by omega) (by rcases hcase with h | h <;> omega) (by rcases hcase with h | h <;> (intro hpg; first | omega | exact h.2.2.1)) h.tiny.rises (by omega) i hi hik hfit.1 hfit.2 w h.pa h.tr hL).mono ?_
    rintro e w' ⟨rfl, ⟨r, hA⟩, hT, S', hTr', hpost⟩
    have hKeep : Keep O w w' := Keep.of hT (fun x hx => by
      simp at hx
      rcases hx with rfl | rfl | rfl
      · exact ⟨hnoO _ (by simp), h.ne1 _ (by simp)⟩
      · exact ⟨ho, (off_ne7 haB).1⟩
      · exact ⟨hnoO _ (by simp), h.ne1 _ (by simp)⟩)
    have hsp : ∀ more top, Spent w w' pg { S with changed := true, keys := S.keys - 1 } S' more top → S'.fresh = more ∧ (∀ a', w.heap.size ≤ a' → top ≤ a' → Drop w' O (a' :: [1, t, p, b, m, sm, rb]) S'.dropped kp) ∧ Drop w' O [1, t, p, b, m, sm, rb] S'.dropped kp := fun more top h9 => spent_drop (O := O) (B := [1, t, p, b, m, sm, rb]) (kp := kp) a h9 h.ob hB hT (by intro x hx; simp at hx ⊢; omega) (by
        rcases hcase with ⟨c1, c2, c3⟩ | ⟨c1, c2, _, c3⟩
        · exact .inl ⟨c1, c2, c3⟩
        · exact .inr ⟨c1, c2, c3⟩)
    have hob' : ∀ x, w.heap.size ≤ x → ¬ O x := fun x hx ho => by have := h.ob x ho; omega
    have hB' : ∀ x, w.heap.size ≤ x → x ∉ [1, t, p, b, m, sm, rb] := fun x hx hm => by have := hB x hm; omega
    rcases hpost with ⟨h1, h2, h9⟩ | ⟨a', g, cap', h1, h3, h4, h5, h6, h8, h9⟩
    · obtain ⟨d1, _, d3⟩ := hsp _ _ h9
      refine ⟨rfl, ⟨b, m, sm, rb, s, _, D, S', kp, h.after r hA hTr' hT.size ?_ ht' (.gone h2 d1 d3 h1), h9.2.1⟩, hKeep⟩
      rw [h9.1, hel]
      show S.keys - 1 = _
      omega
    · obtain ⟨d1, d2, _⟩ := hsp _ _ h9
      refine ⟨rfl, ⟨b, m, sm, rb, s, _, D, S', kp, h.after r hA hTr' hT.size ?_ ht' (.new a' 0 g 0 cap' h8 d1 (d2 a' h3 (Nat.le_refl _)) h1 h6 ⟨hob' a' h3, hob' g h4⟩ ⟨hB' a' h3, hB' g h4, by omega⟩), h9.2.1⟩, hKeep⟩
      rw [h9.1, hel]
      show S.keys - 1 = _
      omega
  cases h.shape with
  | old a pg d bb off cap hr hf hd hp hkp hl hL ho hB' => exact hgen a pg d bb off cap hr hL ho.1 hB'.1 hB'.2.1 hB'.2.2 (.inr ⟨hp, hf, hd, hkp⟩)
  | new a d bb off cap hr hf hd hl hL ho hB' => exact hgen a 0 d bb off cap hr hL ho.1 hB'.1 hB'.2.1 hB'.2.2 (.inl ⟨rfl, hf, hd⟩)
  | gone hr hf hd hl => rw [hl] at hi; cases hi

end Go.Proofs.YthgpjkcgccdldaaGreatDoor
