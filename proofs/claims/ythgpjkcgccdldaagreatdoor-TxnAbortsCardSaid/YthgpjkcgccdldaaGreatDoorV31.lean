/-
  An edit of a tree that is one leaf, or none: take, place, placed, rootOf, edited, edit.
  Put's edit of a tree that is one leaf, or none; leafOf, Get.
  Put on a tree without keys.
  The size of a node; two nodes put together.
  placed: a node gets its place, or both halves of it do.
  placed: a branch gets its place, or both halves of it do.
-/
import Derived.Test.YthgpjkcgccdldaaGreatDoorV30
import Derived.Test.YthgpjkcgccdldaaGreatDoorV25
import Derived.Deep.RegionLaw
import Derived.Deep.RegionHeld3
import Derived.Deep.RegionLawGrows
import Derived.Test.YthgpjkcgccdldaaGreatDoorV13

namespace Go.Proofs.YthgpjkcgccdldaaGreatDoor
open Go.RowKit Go.Maps

theorem ta_ll (v : Value) (w : World) : (Instr.typeAssert (.iface 137 v) 156 137 true).run Tryz.prog w = .ok (.tuple #[v, .bool true]) w := by kernel_rfl
theorem ta_lb (v : Value) (w : World) : (Instr.typeAssert (.iface 137 v) 156 170 true).run Tryz.prog w = .ok (.tuple #[.slice none 0 0, .bool false]) w := by kernel_rfl
theorem ta_bb (v : Value) (w : World) : (Instr.typeAssert (.iface 170 v) 156 170 true).run Tryz.prog w = .ok (.tuple #[v, .bool true]) w := by kernel_rfl
theorem ta_bl (v : Value) (w : World) : (Instr.typeAssert (.iface 170 v) 156 137 true).run Tryz.prog w = .ok (.tuple #[.slice none 0 0, .bool false]) w := by kernel_rfl

theorem zero104 (w : World) : Sem.run Tryz.prog (zeroValue 158) w = .ok (.agg #[.int .i64 0, .int .i64 0, .int .u32 0, .int .i32 0, .int .u32 0, .nilIface]) w := by kernel_rfl

set_option maxRecDepth 100000 in
set_option maxHeartbeats 1600000 in
theorem place_any (t p : Nat) (D S : Stt) (T : TypeId) (v : Value) (lvl : Nat) (hfr : S.fresh ≤ 1000000) (w : World) (hT : TreeAt w t p D S) :
    Calls Tryz.prog 130 #[.pointer (some ⟨t, 0, none⟩), .iface T v, .int .i64 (lvl : Nat)] w fun e w' => ∃ a, e = .returned (.pointer (some ⟨a, 0, none⟩)) ∧ w.heap.size ≤ a ∧ PlaceAt w' a 0 lvl 0 (.iface T v) ∧ TreeAt w' t p D { S with fresh := S.fresh + 1 } ∧ Turn [t] w w' := by
  have h9 := hT.now.c3
  have f9 := hT.fz 9
  have HT := hide hT
  have hz := zero104
  have htl := hT.lt
  clear hT
  go_enter Tryz.func130, Tryz.ntmps130
  go_wp2_with fail
  go_ret
  have hT1 := HT.out.setFresh (S.fresh + 1)
  rw [show ((S.fresh + 1 : Nat) : Int) = (S.fresh : Int) + 1 by omega] at hT1
  have hs : (w.setCell ⟨t, 9, none⟩ (.int .i64 ((S.fresh : Int) + 1))).heap.size = w.heap.size := by simp
  refine ⟨w.heap.size, rfl, Nat.le_refl _, ?_, hT1.turn ((Turn.refl [] _).alloc _) (by simp), ((Turn.refl [t] w).setCell (List.mem_singleton.2 rfl) 9 _).alloc _⟩
  rw [← hs]
  exact ⟨World.cell?_alloc_at _ _ _ _ rfl, World.cell?_alloc_at _ _ _ _ rfl, World.cell?_alloc_at _ _ _ _ rfl, World.cell?_alloc_at _ _ _ _ rfl, World.cell?_alloc_at _ _ _ _ rfl, fun o => World.frozen?_alloc_at _ _ _ _ rfl⟩

/-- A leaf's bytes in a page. -/
def lsize (l : List (ByteArray × ByteArray)) : Nat := sumN (lsizes l)

set_option maxRecDepth 100000 in
set_option maxHeartbeats 1600000 in
theorem take_nil (t : Nat) (w : World) :
    Calls Tryz.prog 131 #[.pointer (some ⟨t, 0, none⟩), .pointer none] w fun e w' => ∃ b, e = .returned (.iface 137 (.slice (some ⟨b, 0, none⟩) 0 0)) ∧ Turn [] w w' := by
  go_enter Tryz.func131, Tryz.ntmps131
  go_wp2_with fail
  refine (nodeAt_nil t w).mono ?_
  rintro e w1 ⟨b, rfl, hT⟩
  go_wp2_with fail
  go_ret
  exact ⟨b, rfl, hT⟩

end Go.Proofs.YthgpjkcgccdldaaGreatDoor

/-
  An edit of a tree that is one leaf, or none: a leaf on a page is taken; the closure of Put; edited, edit.
-/
namespace Go.Proofs.YthgpjkcgccdldaaGreatDoor
open Go.RowKit Go.Maps

theorem one_src (W : World) (x : Value) (t : TypeId) : ∀ j u, [x][j]? = some u → (W.alloc (.cells #[x] t)).cell? ((⟨W.heap.size, 0, none⟩ : Addr).add j) = some u := by
  intro j u hj
  match j, hj with
  | 0, hj => exact (World.cell?_alloc_at #[x] t _ 0 rfl).trans hj

theorem own_form {w : World} {base e size n : Nat} {v : Value} {xs : List Value} (h : w.ownsRow base e size v n xs) : ∃ a c, v = .slice a n c := by
  obtain ⟨_, ⟨rfl, rfl⟩ | ⟨g, cap, cur, rfl, _⟩⟩ := h
  · exact ⟨none, 0, rfl⟩
  · exact ⟨_, cap, rfl⟩

/-- Keys of a leaf, and values, are not too long. -/
def Short (l : List (ByteArray × ByteArray)) : Prop := ∀ x ∈ l, x.1.size ≤ 48 ∧ x.2.size ≤ 120

set_option maxRecDepth 100000 in
set_option maxHeartbeats 1600000 in
theorem put1_any (b off cap kb : Nat) (l : List (ByteArray × ByteArray)) (k v : ByteArray) (hs : Rises (keysOf l)) (hlen : l.length ≤ 1000) (hcap : l.length ≤ cap ∧ cap ≤ 9223372036854775807) (w : World) (hK : KVsAt w (some ⟨b, off, none⟩) l) (h0 : w.cell? ⟨kb, 0, none⟩ = some (.string k)) (h1 : w.cell? ⟨kb, 1, none⟩ = some (.string v)) :
    Calls Tryz.prog 68 #[.slice (some ⟨b, off, none⟩) l.length cap, .pointer (some ⟨kb, 0, none⟩)] w fun e w' => ∃ i f r, e = .returned r ∧ IsPos (keysOf l) k i ∧ (f = true ↔ Stands l k i) ∧ w'.ownsRow w.heap.size 55 2 r (putL l i f (k, v)).length (flat (kvCells (putL l i f (k, v)))) ∧ Turn [] w w' := by
  have HC := hide (lput_any b off cap l k v hs hlen hcap w hK)
  clear hK hs
  go_enter Tryz.func68, Tryz.ntmps68
  go_wp2_with fail
  refine HC.out.mono ?_
  rintro e w1 ⟨i, f, r, rfl, g1, g2, g3, g4⟩
  have G1 := hide g1
  have G2 := hide g2
  have G3 := hide g3
  have G4 := hide g4
  clear g1 g2 g3 g4
  go_wp2_with fail
  go_ret
  exact ⟨i, f, r, rfl, G1.out, G2.out, G3.out, G4.out⟩

/-- A leaf in its place: in block a, its row in block bb. -/
structure LeafAt (w : World) (a pg : Nat) (d : Int) (bb off cap : Nat) (l : List (ByteArray × ByteArray)) : Prop where
  place : PlaceAt w a pg 1 d (.iface 137 (.slice (some ⟨bb, off, none⟩) l.length cap))
  d01 : d = 0 ∨ d = 1
  kv : KVsAt w (some ⟨bb, off, none⟩) l
  cap : l.length ≤ cap ∧ cap ≤ 9223372036854775807

/-- What a taken leaf leaves of the state. -/
def Taken (w w' : World) (t p pg : Nat) (D S : Stt) (S' : Stt) : Prop :=
  S'.root = S.root ∧ S'.keys = S.keys ∧ S'.changed = S.changed ∧ TreeAt w' t p D S' ∧
    ((pg = 0 ∧ S'.fresh + 1 = S.fresh ∧ S'.dropped = S.dropped) ∨ (0 < pg ∧ S'.fresh = S.fresh ∧ w'.ownsRow w.heap.size 3 1 S'.dropped 1 [.int .i64 (pg : Nat)]))

end Go.Proofs.YthgpjkcgccdldaaGreatDoor

namespace Go.Proofs.YthgpjkcgccdldaaGreatDoor
open Go.RowKit Go.Maps

/-- A new leaf's content: l with k put, in block g. -/
structure NewRow (w w' : World) (l : List (ByteArray × ByteArray)) (k v : ByteArray) (i : Nat) (f : Bool) (g cap : Nat) : Prop where
  pos : IsPos (keysOf l) k i
  is : f = true ↔ Stands l k i
  kv : KVsAt w' (some ⟨g, 0, none⟩) (putL l i f (k, v))
  cap : (putL l i f (k, v)).length ≤ cap ∧ cap ≤ 9223372036854775807
  new : w.heap.size ≤ g
  lt : g < w'.heap.size

theorem NewRow.of {w0 w w' : World} {l : List (ByteArray × ByteArray)} {k v : ByteArray} {i : Nat} {f : Bool} {r : Value} (h1 : IsPos (keysOf l) k i) (h2 : f = true ↔ Stands l k i) (h3 : w'.ownsRow w.heap.size 55 2 r (putL l i f (k, v)).length (flat (kvCells (putL l i f (k, v))))) (h4 : w0.heap.size ≤ w.heap.size) : ∃ g cap, r = .slice (some ⟨g, 0, none⟩) (putL l i f (k, v)).length cap ∧ NewRow w0 w' l k v i f g cap := by
  have hlen : 0 < (putL l i f (k, v)).length := by unfold putL; simp; omega
  have hlt := h3.lt
  obtain ⟨a, cap, e, _, _, hp, _⟩ := own_pairs h3
  obtain ⟨_, ⟨rfl, h0⟩ | ⟨g, cap', cur, rfl, hb, hg, hnc, hm, _⟩⟩ := h3
  · omega
  · rw [kvCells_length] at e
    injection e with e1 e2 e3
    subst e1 e3
    obtain ⟨hl1, hl2⟩ := hlt g rfl
    unfold maxLen at hm
    exact ⟨g, cap', rfl, h1, h2, hp.kvs, ⟨hnc, by omega⟩, by omega, hl2⟩

set_option maxRecDepth 100000 in
set_option maxHeartbeats 3200000 in
theorem edited_nil (t kb : Nat) (k v : ByteArray) (w : World) (h0 : w.cell? ⟨kb, 0, none⟩ = some (.string k)) (h1 : w.cell? ⟨kb, 1, none⟩ = some (.string v)) :
    Calls Tryz.prog 96 #[.pointer (some ⟨t, 0, none⟩), .pointer none, .string k, .func (.func 68) #[] #[.pointer (some ⟨kb, 0, none⟩)]] w fun e w' => ∃ i f g cap, e = .returned (.iface 137 (.slice (some ⟨g, 0, none⟩) (putL [] i f (k, v)).length cap)) ∧ NewRow w w' [] k v i f g cap ∧ Turn [] w w' := by
  have hta := ta_ll
  have htb := ta_lb
  have H0 := hide h0
  have H1 := hide h1
  clear h0 h1
  go_enter Tryz.func96, Tryz.ntmps96
  go_wp2_with fail
  refine (take_nil t w).mono ?_
  rintro e w1 ⟨b, rfl, hT1⟩
  have h01 := (hT1.cell (p := ⟨kb, 0, none⟩) (lt_of_cell H0.out) (by simp)).trans H0.out
  have h11 := (hT1.cell (p := ⟨kb, 1, none⟩) (lt_of_cell H1.out) (by simp)).trans H1.out
  have HC := hide (put1_any b 0 0 kb [] k v (by simp [Rises, keysOf]) (by simp) (by simp) w1 (.inl rfl) h01 h11)
  have HT1 := hide hT1
  clear h01 h11 hT1
  go_wp2_with fail
  refine HC.out.mono ?_
  rintro e w2 ⟨i, f, r, rfl, g1, g2, g3, g4⟩
  obtain ⟨g, cap, rfl, hN⟩ := NewRow.of (w0 := w) g1 g2 g3 HT1.out.size
  have HN := hide hN
  have HT2 := hide g4
  clear g1 g2 g3 g4 hN
  go_wp2_with fail
  go_ret
  exact ⟨i, f, g, cap, rfl, HN.out, HT1.out.then HT2.out (by simp)⟩

set_option maxRecDepth 100000 in
set_option maxHeartbeats 1600000 in
theorem height_nil (t p : Nat) (D S : Stt) (hr : S.root = none) (w : World) (hT : TreeAt w t p D S) : Calls Tryz.prog 94 #[.pointer (some ⟨t, 0, none⟩)] w fun e w' => e = .returned (.int .i64 0) ∧ w' = w := by
  have h6 := hT.now.c0
  rw [hr] at h6
  have h6' : w.cell? ⟨t, 6, none⟩ = some (.pointer none) := h6
  clear h6 hT
  go_enter Tryz.func94, Tryz.ntmps94
  go_wp2_with fail
  go_ret
  exact ⟨rfl, rfl⟩

set_option maxRecDepth 100000 in
set_option maxHeartbeats 1600000 in
theorem height_some (t p a lvl : Nat) (D S : Stt) (hr : S.root = some a) (w : World) (hT : TreeAt w t p D S) (h1 : w.cell? ⟨a, 1, none⟩ = some (.int .i64 (lvl : Nat))) : Calls Tryz.prog 94 #[.pointer (some ⟨t, 0, none⟩)] w fun e w' => e = .returned (.int .i64 (lvl : Nat)) ∧ w' = w := by
  have h6 := hT.now.c0
  rw [hr] at h6
  have h6' : w.cell? ⟨t, 6, none⟩ = some (.pointer (some ⟨a, 0, none⟩)) := h6
  clear h6 hT
  go_enter Tryz.func94, Tryz.ntmps94
  go_wp2_with fail
  go_ret
  exact ⟨rfl, rfl⟩
end Go.Proofs.YthgpjkcgccdldaaGreatDoor

/-
  edit, leafOf, Get on a tree that is one leaf, or none.
-/
namespace Go.Proofs.YthgpjkcgccdldaaGreatDoor
open Go.RowKit Go.Maps

theorem single (k v : ByteArray) (i : Nat) (f : Bool) (_h : f = true ↔ Stands [] k i) : putL [] i f (k, v) = [(k, v)] := by
  unfold putL
  simp

set_option maxRecDepth 100000 in
set_option maxHeartbeats 3200000 in
theorem leafOf_nil (t p : Nat) (D S : Stt) (hr : S.root = none) (key : ByteArray) (w : World) (hT : TreeAt w t p D S) :
    Calls Tryz.prog 81 #[.pointer (some ⟨t, 0, none⟩), .string key] w fun e w' => ∃ b, e = .returned (.slice (some ⟨b, 0, none⟩) 0 0) ∧ Turn [] w w' := by
  have h6 : w.cell? ⟨t, 6, none⟩ = some (.pointer none) := by have := hT.now.c0; rw [hr] at this; exact this
  have hta := ta_ll
  have htb := ta_lb
  clear hT
  go_enter Tryz.func81, Tryz.ntmps81
  go_wp2_with fail
  go_loopw [5] (fun x wr => x = .pointer none ∧ wr = w) (fun _ _ => 0)
  case atStart => exact ⟨rfl, rfl⟩
  case round =>
    obtain ⟨rfl, rfl⟩ := hrel
    go_wp2_with fail
    refine (nodeAt_nil t wr).mono ?_
    rintro e w1 ⟨b, rfl, hT1⟩
    go_wp2_with fail
    go_ret
    exact ⟨b, rfl, hT1⟩

/-- What Get answers. -/
def Got (l : List (ByteArray × ByteArray)) (key val : ByteArray) (f : Bool) : Prop :=
  (f = true ∧ ∃ i, ∃ h : i < l.length, l[i].1 = key ∧ l[i].2 = val) ∨ (f = false ∧ val = ⟨#[]⟩ ∧ ∀ x ∈ l, x.1 ≠ key)

theorem not_there {l : List (ByteArray × ByteArray)} {key : ByteArray} {i : Nat} (hs : Rises (keysOf l)) (hp : IsPos (keysOf l) key i) (hn : ¬ Stands l key i) : ∀ x ∈ l, x.1 ≠ key := by
  intro x hx e
  obtain ⟨m, hm, rfl⟩ := List.getElem_of_mem hx
  have hmk : m < (keysOf l).length := by rw [keysOf_length]; exact hm
  have him : i ≤ m := by
    rcases Nat.lt_or_ge m i with h | h
    · have := hp.2.1 m hmk h
      rw [keysOf_get hm, e] at this
      exact absurd this (klt_irrefl _)
    · exact h
  by_cases e2 : i = m
  · subst e2
    exact hn ⟨hm, e⟩
  · have h1 := hs.get (i := i) (j := m) (by omega) hmk
    have h2 := hp.2.2 i (by omega) (Nat.le_refl _)
    rw [keysOf_get hm, e] at h1
    exact h2 h1

set_option maxRecDepth 100000 in
set_option maxHeartbeats 3200000 in
theorem get_row (R : World → Prop) (l : List (ByteArray × ByteArray)) (hs : Rises (keysOf l)) (hlen : l.length ≤ 1000) (t : Nat) (key : ByteArray) (w : World) (hC : Calls Tryz.prog 81 #[.pointer (some ⟨t, 0, none⟩), .string key] w fun e w' => ∃ bb off cap, e = .returned (.slice (some ⟨bb, off, none⟩) l.length cap) ∧ KVsAt w' (some ⟨bb, off, none⟩) l ∧ R w') :
    Calls Tryz.prog 54 #[.pointer (some ⟨t, 0, none⟩), .string key] w fun e w' => ∃ val f w1, e = .returned (.tuple #[.string val, .bool f]) ∧ Got l key val f ∧ R w1 ∧ Turn [] w1 w' := by
  have HC := hide hC
  have HS := hide hs
  clear hC hs
  go_enter Tryz.func54, Tryz.ntmps54
  go_wp2_with fail
  refine HC.out.mono ?_
  rintro e w2 ⟨bb, off, cap, rfl, hK, hR⟩
  have HK := hide hK
  have HRw := hide hR
  clear hK hR
  go_wp2_with fail
  refine (lfind_any (some ⟨bb, off, none⟩) cap l key HS.out (by omega) w2 HK.out).mono ?_
  rintro e w3 ⟨i, f, rfl, h1, h2, hT3⟩
  have H1 := hide h1
  have H2 := hide h2
  have HT3 := hide hT3
  have HK3 := hide (HK.out.turn0 hT3)
  clear h1 h2 hT3
  cases f with
  | false =>
    go_wp2_with fail
    refine bodyPost_ret (v := .tuple #[.string ⟨#[]⟩, .bool false]) (by simp [results, Tryz.results54, go_sem]) rfl ⟨_, false, w2, rfl, .inr ⟨rfl, rfl, not_there HS.out H1.out (fun e => by have := H2.out.2 e; cases this)⟩, HRw.out, HT3.out⟩
  | true =>
    obtain ⟨hil, hik⟩ := H2.out.1 rfl
    have HIk := hide hik
    obtain ⟨b', off', e', hc, hd⟩ := HK3.out.at hil
    obtain ⟨rfl, rfl⟩ : bb = b' ∧ off = off' := by
      have := Option.some.inj e'
      exact ⟨congrArg Addr.block this, congrArg Addr.off this⟩
    clear hik e'
    go_wp2_with fail
    refine bodyPost_ret (v := .tuple #[.string l[i].2, .bool true]) (by simp [results, Tryz.results54, go_sem]) rfl ⟨_, true, w2, rfl, .inl ⟨rfl, i, hil, HIk.out, rfl⟩, HRw.out, HT3.out⟩

theorem get_nil (t p : Nat) (D S : Stt) (hr : S.root = none) (key : ByteArray) (w : World) (hT : TreeAt w t p D S) :
    Calls Tryz.prog 54 #[.pointer (some ⟨t, 0, none⟩), .string key] w fun e w' => e = .returned (.tuple #[.string ⟨#[]⟩, .bool false]) ∧ Turn [] w w' := by
  refine (get_row (fun w' => Turn [] w w') [] (by simp [Rises, keysOf]) (by simp) t key w ((leafOf_nil t p D S hr key w hT).mono ?_)).mono ?_
  · rintro e w' ⟨b, rfl, hT'⟩
    exact ⟨b, 0, 0, rfl, .inl rfl, hT'⟩
  · rintro e w' ⟨val, f, w1, rfl, hG, hR, hT'⟩
    rcases hG with ⟨_, i, hi, _⟩ | ⟨rfl, rfl, _⟩
    · simp at hi
    · exact ⟨rfl, hR.then hT' (by simp)⟩

end Go.Proofs.YthgpjkcgccdldaaGreatDoor

namespace Go.Proofs.YthgpjkcgccdldaaGreatDoor
open Go.RowKit Go.Maps

theorem PAt.turnX {X : List Nat} {w w' : World} {p b m sm rb : Nat} {s : St} {q : Pg} (h : PAt w p b m sm rb s q) (hT : Turn X w w') (hX : ∀ x ∈ X, x ≠ 1 ∧ x ≠ p ∧ x ≠ b ∧ x ≠ m ∧ x ≠ sm ∧ x ≠ rb) : PAt w' p b m sm rb s q :=
  h.turn hT (fun hm => (hX 1 hm).1 rfl) (fun hm => (hX p hm).2.1 rfl) (fun hm => (hX b hm).2.2.1 rfl) (fun hm => (hX m hm).2.2.2.1 rfl) (fun hm => (hX sm hm).2.2.2.2.1 rfl) (fun hm => (hX rb hm).2.2.2.2.2 rfl)

theorem toList_empty (k : ByteArray) : k.toList.isEmpty = decide (k.size = 0) := by
  rw [Go.ByteArray.toList_eq]
  have hs : k.size = k.data.toList.length := by rw [Array.length_toList]; rfl
  rw [hs]
  cases k.data.toList <;> simp

/-- The tree's block is none of the pager's. -/
structure Off (t p b m sm rb : Nat) : Prop where
  one : t ≠ 1
  p : t ≠ p
  b : t ≠ b
  m : t ≠ m
  sm : t ≠ sm
  rb : t ≠ rb

end Go.Proofs.YthgpjkcgccdldaaGreatDoor

/-
  Put over the key of a tree that is one leaf; Abort, Len.
-/
namespace Go.Proofs.YthgpjkcgccdldaaGreatDoor
open Go.RowKit Go.Maps

end Go.Proofs.YthgpjkcgccdldaaGreatDoor

namespace Go.Proofs.YthgpjkcgccdldaaGreatDoor
open Go.RowKit Go.Maps

def kidCells (l : List (ByteArray × Nat)) : List (Value × Value) := l.map fun x => (.string x.1, .pointer (some ⟨x.2, 0, none⟩))
theorem kidCells_length (l : List (ByteArray × Nat)) : (kidCells l).length = l.length := by simp [kidCells]
theorem kid_one (l : List (ByteArray × Nat)) : OneCell (kidCells l) := by
  intro x hx
  obtain ⟨y, _, rfl⟩ := List.mem_map.1 hx
  exact ⟨rfl, rfl⟩
theorem KidsAt.pairs {w : World} {a : Option Addr} {l : List (ByteArray × Nat)} (h : KidsAt w a l) : PairsAt w a (kidCells l) := by
  rcases h with rfl | ⟨b, off, e, hc⟩
  · exact .inl rfl
  · exact .inr ⟨b, off, e, fun i hi => by
      rw [kidCells_length] at hi
      simp only [kidCells, List.getElem_map]
      exact hc i hi⟩
theorem PairsAt.kids {w : World} {a : Option Addr} {l : List (ByteArray × Nat)} (h : PairsAt w a (kidCells l)) : KidsAt w a l := by
  rcases h with h | ⟨b, off, e, hc⟩
  · exact .inl (by simpa [kidCells] using h)
  · exact .inr ⟨b, off, e, fun i hi => by
      have := hc i (by rw [kidCells_length]; exact hi)
      simp only [kidCells, List.getElem_map] at this
      exact this⟩

set_option maxRecDepth 100000 in
set_option maxHeartbeats 1600000 in
/-- size of leaves. -/
theorem lsize_any (a : Option Addr) (cap : Nat) (l : List (ByteArray × ByteArray)) (hlen : l.length ≤ 1000) (hb : ∀ x ∈ l, x.1.size ≤ 1000 ∧ x.2.size ≤ 1000) (hsz : sumN (lsizes l) ≤ 1000000) (w : World) (hK : KVsAt w a l) :
    Calls Tryz.prog 192 #[.iface 137 (.slice a l.length cap)] w fun e w' => e = .returned (.int .i64 (sumN (lsizes l) : Nat)) ∧ Turn [] w w' := by
  have HC := hide (lsizes_any a cap l hlen hb w hK)
  have HLs := hide (lsizes_length l)
  clear hK hb
  go_enter Tryz.func192, Tryz.ntmps192
  go_wp2_with fail
  refine HC.out.mono ?_
  rintro e w1 ⟨rfl, hR1, hT1⟩
  have HT1 := hide hT1
  have HTot := hide (total_any w.heap.size l.length (lsizes l) (by rw [HLs.out]; exact hlen) hsz w1 hR1)
  rw [HLs.out] at HTot
  clear hR1 hT1
  obtain ⟨z, hz⟩ : ∃ z, z = sumN (lsizes l) := ⟨_, rfl⟩
  have Hz := hide hz
  rw [← hz] at HTot hsz
  clear hz
  go_wp2_with fail
  refine HTot.out.mono ?_
  rintro e w2 ⟨rfl, rfl⟩
  go_wp2_with fail
  go_ret
  exact ⟨by rw [← Hz.out]; rfl, HT1.out⟩

theorem lparts2 (w : World) (a a' : Option Addr) (c c' : Nat) (l l' : List (ByteArray × ByteArray)) (ha : a = none → c = 0) (ha' : a' = none → c' = 0) (hK : KVsAt w a l) (hK' : KVsAt w a' l') :
    PartsAt (w.alloc (.cells #[.slice a l.length c, .slice a' l'.length c'] 137)) w.heap.size 0 [kvCells l, kvCells l'] := by
  have hT : Turn [] w (w.alloc (.cells #[.slice a l.length c, .slice a' l'.length c'] 137)) := (Turn.refl [] w).alloc _
  intro n hn
  match n, hn with
  | 0, _ => exact ⟨a, c, by rw [show ([kvCells l, kvCells l'][0]).length = l.length by simp [kvCells]]; exact World.cell?_alloc_at _ _ _ _ rfl, ha, (hK.turn0 hT).pairs⟩
  | 1, _ => exact ⟨a', c', by rw [show ([kvCells l, kvCells l'][1]).length = l'.length by simp [kvCells]]; exact World.cell?_alloc_at _ _ _ _ rfl, ha', (hK'.turn0 hT).pairs⟩

theorem lconcat2 (w : World) (a a' : Option Addr) (c c' : Nat) (l l' : List (ByteArray × ByteArray)) (hlen : l.length ≤ 1000 ∧ l'.length ≤ 1000) (ha : a = none → c = 0) (ha' : a' = none → c' = 0) (hK : KVsAt w a l) (hK' : KVsAt w a' l') :
    Calls Tryz.prog 97 #[.slice (some ⟨w.heap.size, 0, none⟩) 2 2] (w.alloc (.cells #[.slice a l.length c, .slice a' l'.length c'] 137))
      fun e w' => ∃ r, e = .returned r ∧ w'.ownsRow w.heap.size 55 2 r (l ++ l').length (flat (kvCells (l ++ l'))) ∧ Turn [] w w' := by
  have hf : [kvCells l, kvCells l'].flatten = kvCells (l ++ l') := by simp [kvCells]
  have hL : tlen [kvCells l, kvCells l'] = (l ++ l').length := by
    unfold tlen
    rw [hf]
    simp [kvCells]
  have hb : (l ++ l').length ≤ 1000000 := by simp; omega
  refine (concat_any w.heap.size 0 2 [kvCells l, kvCells l'] (by simp) (by rw [hL]; exact hb) (by simp [kv_one]) _ (lparts2 w a a' c c' l l' ha ha' hK hK')).mono ?_
  rintro e w' ⟨r, rfl, hO, hT⟩
  rw [hL, hf] at hO
  refine ⟨r, rfl, ?_, ((Turn.refl [] w).alloc _).then hT (by simp)⟩
  obtain ⟨h1, h2 | ⟨g, cap', cur, e, hb', rest⟩⟩ := hO
  · exact ⟨h1, .inl h2⟩
  · exact ⟨h1, .inr ⟨g, cap', cur, e, by simp at hb'; omega, rest⟩⟩

set_option maxRecDepth 100000 in
set_option maxHeartbeats 1600000 in
/-- join of leaves. -/
theorem ljoin_any (w : World) (a a' : Option Addr) (c c' : Nat) (l l' : List (ByteArray × ByteArray)) (hlen : l.length ≤ 1000 ∧ l'.length ≤ 1000) (ha : a = none → c = 0) (ha' : a' = none → c' = 0) (hK : KVsAt w a l) (hK' : KVsAt w a' l') :
    Calls Tryz.prog 159 #[.iface 137 (.slice a l.length c), .iface 137 (.slice a' l'.length c')] w
      fun e w' => ∃ r, e = .returned (.iface 137 r) ∧ w'.ownsRow w.heap.size 55 2 r (l ++ l').length (flat (kvCells (l ++ l'))) ∧ Turn [] w w' := by
  have HC := hide (lconcat2 w a a' c c' l l' hlen ha ha' hK hK')
  have h1 := ta_ll
  have h2 := ta_bl
  have h3 := ta_bb
  clear hK hK' ha ha'
  go_enter Tryz.func159, Tryz.ntmps159
  go_wp2_with fail
  refine HC.out.mono ?_
  rintro e w1 ⟨r, rfl, hO, hT⟩
  have HO := hide hO
  have HT := hide hT
  clear hO hT
  go_wp2_with fail
  go_ret
  exact ⟨r, rfl, HO.out, HT.out⟩

set_option maxRecDepth 100000 in
set_option maxHeartbeats 1600000 in
/-- size of branches. -/
theorem bsize_any (a : Option Addr) (cap : Nat) (l : List (ByteArray × Nat)) (hlen : l.length ≤ 1000) (hb : ∀ x ∈ l, x.1.size ≤ 1000) (hsz : sumN (bsizes l) ≤ 1000000) (w : World) (hK : KidsAt w a l) :
    Calls Tryz.prog 192 #[.iface 170 (.slice a l.length cap)] w fun e w' => e = .returned (.int .i64 (sumN (bsizes l) : Nat)) ∧ Turn [] w w' := by
  have HC := hide (bsizes_any a cap l hlen hb w hK)
  have HLs := hide (bsizes_length l)
  clear hK hb
  go_enter Tryz.func192, Tryz.ntmps192
  go_wp2_with fail
  refine HC.out.mono ?_
  rintro e w1 ⟨rfl, hR1, hT1⟩
  have HT1 := hide hT1
  have HTot := hide (total_any w.heap.size l.length (bsizes l) (by rw [HLs.out]; exact hlen) hsz w1 hR1)
  rw [HLs.out] at HTot
  clear hR1 hT1
  obtain ⟨z, hz⟩ : ∃ z, z = sumN (bsizes l) := ⟨_, rfl⟩
  have Hz := hide hz
  rw [← hz] at HTot hsz
  clear hz
  go_wp2_with fail
  refine HTot.out.mono ?_
  rintro e w2 ⟨rfl, rfl⟩
  go_wp2_with fail
  go_ret
  exact ⟨by rw [← Hz.out]; rfl, HT1.out⟩

theorem bparts2 (w : World) (a a' : Option Addr) (c c' : Nat) (l l' : List (ByteArray × Nat)) (ha : a = none → c = 0) (ha' : a' = none → c' = 0) (hK : KidsAt w a l) (hK' : KidsAt w a' l') :
    PartsAt (w.alloc (.cells #[.slice a l.length c, .slice a' l'.length c'] 170)) w.heap.size 0 [kidCells l, kidCells l'] := by
  have hT : Turn [] w (w.alloc (.cells #[.slice a l.length c, .slice a' l'.length c'] 170)) := (Turn.refl [] w).alloc _
  intro n hn
  match n, hn with
  | 0, _ => exact ⟨a, c, by rw [show ([kidCells l, kidCells l'][0]).length = l.length by simp [kidCells]]; exact World.cell?_alloc_at _ _ _ _ rfl, ha, (hK.turn0 hT).pairs⟩
  | 1, _ => exact ⟨a', c', by rw [show ([kidCells l, kidCells l'][1]).length = l'.length by simp [kidCells]]; exact World.cell?_alloc_at _ _ _ _ rfl, ha', (hK'.turn0 hT).pairs⟩

theorem bconcat2 (w : World) (a a' : Option Addr) (c c' : Nat) (l l' : List (ByteArray × Nat)) (hlen : l.length ≤ 1000 ∧ l'.length ≤ 1000) (ha : a = none → c = 0) (ha' : a' = none → c' = 0) (hK : KidsAt w a l) (hK' : KidsAt w a' l') :
    Calls Tryz.prog 160 #[.slice (some ⟨w.heap.size, 0, none⟩) 2 2] (w.alloc (.cells #[.slice a l.length c, .slice a' l'.length c'] 170))
      fun e w' => ∃ r, e = .returned r ∧ w'.ownsRow w.heap.size 173 2 r (l ++ l').length (flat (kidCells (l ++ l'))) ∧ Turn [] w w' := by
  have hf : [kidCells l, kidCells l'].flatten = kidCells (l ++ l') := by simp [kidCells]
  have hL : tlen [kidCells l, kidCells l'] = (l ++ l').length := by
    unfold tlen
    rw [hf]
    simp [kidCells]
  have hb : (l ++ l').length ≤ 1000000 := by simp; omega
  refine (kconcat_any w.heap.size 0 2 [kidCells l, kidCells l'] (by simp) (by rw [hL]; exact hb) (by simp [kid_one]) _ (bparts2 w a a' c c' l l' ha ha' hK hK')).mono ?_
  rintro e w' ⟨r, rfl, hO, hT⟩
  rw [hL, hf] at hO
  refine ⟨r, rfl, ?_, ((Turn.refl [] w).alloc _).then hT (by simp)⟩
  obtain ⟨h1, h2 | ⟨g, cap', cur, e, hb', rest⟩⟩ := hO
  · exact ⟨h1, .inl h2⟩
  · exact ⟨h1, .inr ⟨g, cap', cur, e, by simp at hb'; omega, rest⟩⟩

set_option maxRecDepth 100000 in
set_option maxHeartbeats 1600000 in
/-- join of branches. -/
theorem bjoin_any (w : World) (a a' : Option Addr) (c c' : Nat) (l l' : List (ByteArray × Nat)) (hlen : l.length ≤ 1000 ∧ l'.length ≤ 1000) (ha : a = none → c = 0) (ha' : a' = none → c' = 0) (hK : KidsAt w a l) (hK' : KidsAt w a' l') :
    Calls Tryz.prog 159 #[.iface 170 (.slice a l.length c), .iface 170 (.slice a' l'.length c')] w
      fun e w' => ∃ r, e = .returned (.iface 170 r) ∧ w'.ownsRow w.heap.size 173 2 r (l ++ l').length (flat (kidCells (l ++ l'))) ∧ Turn [] w w' := by
  have HC := hide (bconcat2 w a a' c c' l l' hlen ha ha' hK hK')
  have h1 := ta_ll
  have h2 := ta_bl
  have h3 := ta_bb
  clear hK hK' ha ha'
  go_enter Tryz.func159, Tryz.ntmps159
  go_wp2_with fail
  refine HC.out.mono ?_
  rintro e w1 ⟨r, rfl, hO, hT⟩
  have HO := hide hO
  have HT := hide hT
  clear hO hT
  go_wp2_with fail
  go_ret
  exact ⟨r, rfl, HO.out, HT.out⟩
end Go.Proofs.YthgpjkcgccdldaaGreatDoor

namespace Go.Proofs.YthgpjkcgccdldaaGreatDoor
open Go.RowKit Go.Maps

theorem nil_l (a : Option Addr) (n c : Nat) (w : World) : Sem.run Tryz.prog (nilAhead 381 137 (.slice a n c) "toll/tree.cut") w = .ok (some false) w := by kernel_rfl
theorem meth_l (a : Option Addr) (n c : Nat) (w : World) : Sem.run Tryz.prog (method 381 137 (.slice a n c) "toll/tree.cut") w = .ok (231, .slice a n c) w := by kernel_rfl
theorem meth_b (a : Option Addr) (n c : Nat) (w : World) : Sem.run Tryz.prog (method 381 170 (.slice a n c) "toll/tree.cut") w = .ok (236, .slice a n c) w := by kernel_rfl
theorem nil_b (a : Option Addr) (n c : Nat) (w : World) : Sem.run Tryz.prog (nilAhead 381 170 (.slice a n c) "toll/tree.cut") w = .ok (some false) w := by kernel_rfl

theorem KVsAt.part {w : World} {b off : Nat} {l : List (ByteArray × ByteArray)} (h : KVsAt w (some ⟨b, off, none⟩) l) (m : Nat) : KVsAt w (some ⟨b, off, none⟩) (l.take m) ∧ KVsAt w (some ⟨b, off + m * 2, none⟩) (l.drop m) := by
  have e1 : kvCells (l.take m) = (kvCells l).take m := List.map_take
  have e2 : kvCells (l.drop m) = (kvCells l).drop m := List.map_drop
  exact ⟨PairsAt.kvs (by rw [e1]; exact h.pairs.take m), PairsAt.kvs (by rw [e2]; exact h.pairs.drop m)⟩

set_option maxRecDepth 100000 in
set_option maxHeartbeats 3200000 in
/-- placed: of leaves that fit. -/
theorem lplaced_one (t p : Nat) (D S : Stt) (bb off cap : Nat) (l : List (ByteArray × ByteArray)) (lvl : Nat) (low : ByteArray) (hfr : S.fresh ≤ 100000) (hlen : l.length ≤ 1000) (hb : ∀ x ∈ l, x.1.size ≤ 1000 ∧ x.2.size ≤ 1000) (hsz : sumN (lsizes l) ≤ 495) (w : World) (hT : TreeAt w t p D S) (hK : KVsAt w (some ⟨bb, off, none⟩) l) :
    Calls Tryz.prog 129 #[.pointer (some ⟨t, 0, none⟩), .iface 137 (.slice (some ⟨bb, off, none⟩) l.length cap), .int .i64 (lvl : Nat), .string low] w fun e w' => ∃ a g, e = .returned (.slice (some ⟨g, 0, none⟩) 1 1) ∧ w.heap.size ≤ a ∧ w.heap.size ≤ g ∧ KidsAt w' (some ⟨g, 0, none⟩) [(low, a)] ∧ PlaceAt w' a 0 lvl 0 (.iface 137 (.slice (some ⟨bb, off, none⟩) l.length cap)) ∧ TreeAt w' t p D { S with fresh := S.fresh + 1 } ∧ Turn [t] w w' := by
  have HT := hide hT
  have HC := hide (lsizes_any (some ⟨bb, off, none⟩) cap l hlen hb w hK)
  have HLs := hide (lsizes_length l)
  clear hT hK hb
  go_enter Tryz.func129, Tryz.ntmps129
  go_wp2_with fail
  refine HC.out.mono ?_
  rintro e w1 ⟨rfl, hR1, hT1⟩
  have HT1 := hide hT1
  have HTr1 := hide (HT.out.turn hT1 (by simp))
  have h1s := hT1.size
  have HTot := hide (total_any w.heap.size l.length (lsizes l) (by rw [HLs.out]; exact hlen) (by omega) w1 hR1)
  rw [HLs.out] at HTot
  clear hR1 hT1
  generalize sumN (lsizes l) = z at *
  go_wp2_with fail
  refine HTot.out.mono ?_
  rintro e w2 ⟨rfl, rfl⟩
  go_wp2_with fail
  refine (place_any t p D S 137 _ lvl (by omega) w2 HTr1.out).mono ?_
  rintro e w3 ⟨a, rfl, ha, hP3, hTr3, hT3⟩
  have HP3 := hide hP3
  have HTr3 := hide hTr3
  have HT3 := hide hT3
  have h3s := hT3.size
  clear hP3 hTr3 hT3
  go_wp2_with fail
  go_ret
  have hTa : Turn [] w3 (w3.alloc (.cells #[.string low, .pointer (some ⟨a, 0, none⟩)] 173)) := (Turn.refl [] w3).alloc _
  refine ⟨a, w3.heap.size, rfl, by omega, by omega, .inr ⟨_, 0, rfl, fun i hi => ?_⟩, HP3.out.turn hTa (by simp), HTr3.out.turn hTa (by simp), ((HT1.out.mono (by simp)).then HT3.out (by simp)).alloc _⟩
  obtain rfl : i = 0 := by simpa using hi
  exact ⟨World.cell?_alloc_at _ _ _ _ rfl, World.cell?_alloc_at _ _ _ _ rfl⟩

set_option maxRecDepth 100000 in
set_option maxHeartbeats 3200000 in
/-- placed: of leaves that are too long. -/
theorem lplaced_two (t p : Nat) (D S : Stt) (bb off cap m : Nat) (l : List (ByteArray × ByteArray)) (lvl : Nat) (low : ByteArray) (hfr : S.fresh ≤ 100000) (hlen : l.length ≤ 1000) (hcap : l.length ≤ cap ∧ cap ≤ 9223372036854775807) (hb : ∀ x ∈ l, x.1.size ≤ 1000 ∧ x.2.size ≤ 1000) (hsz : 495 < sumN (lsizes l) ∧ sumN (lsizes l) ≤ 1000000) (hm : m = middleN (lsizes l)) (hml : m < l.length) (hbt : bb ≠ t) (w : World) (hT : TreeAt w t p D S) (hK : KVsAt w (some ⟨bb, off, none⟩) l) :
    Calls Tryz.prog 129 #[.pointer (some ⟨t, 0, none⟩), .iface 137 (.slice (some ⟨bb, off, none⟩) l.length cap), .int .i64 (lvl : Nat), .string low] w fun e w' => ∃ a a' g, e = .returned (.slice (some ⟨g, 0, none⟩) 2 2) ∧ w.heap.size ≤ a ∧ w.heap.size ≤ a' ∧ a ≠ a' ∧ w.heap.size ≤ g ∧ KidsAt w' (some ⟨g, 0, none⟩) [(low, a), (l[m].1, a')]
      ∧ PlaceAt w' a 0 lvl 0 (.iface 137 (.slice (some ⟨bb, off, none⟩) m cap)) ∧ PlaceAt w' a' 0 lvl 0 (.iface 137 (.slice (some ⟨bb, off + m * 2, none⟩) (l.length - m) (cap - m))) ∧ TreeAt w' t p D { S with fresh := S.fresh + 2 } ∧ Turn [t] w w' := by
  have HT := hide hT
  have HK := hide hK
  have HC := hide (lsizes_any (some ⟨bb, off, none⟩) cap l hlen hb w hK)
  have HLs := hide (lsizes_length l)
  have HM := hide hm
  have htl := hT.lt
  clear hT hK hb hm
  go_enter Tryz.func129, Tryz.ntmps129
  go_wp2_with fail
  refine HC.out.mono ?_
  rintro e w1 ⟨rfl, hR1, hT1⟩
  have HT1 := hide hT1
  have HTr1 := hide (HT.out.turn hT1 (by simp))
  have h1s := hT1.size
  have HTot := hide (total_any w.heap.size l.length (lsizes l) (by rw [HLs.out]; exact hlen) (by omega) w1 hR1)
  have HR1 := hide hR1
  have HMid : Hid (∀ w', Turn [] w1 w' → Calls Tryz.prog 157 #[.slice (some ⟨w.heap.size, 0, none⟩) l.length l.length] w' fun e w'' => e = .returned (.int .i64 (m : Nat)) ∧ w'' = w') := fun w' hw' => by
    have := middle_any w.heap.size l.length (lsizes l) (by rw [HLs.out]; exact hlen) (by omega) w' (HR1.out.turn0 hw')
    rw [HLs.out, ← HM.out] at this
    exact this
  rw [HLs.out] at HTot
  clear hR1 hT1 HC
  generalize hzz : sumN (lsizes l) = z at *
  clear hzz
  have hnz : ¬ ((z : Int) ≤ 495) := by omega
  go_wp2_with fail
  refine HTot.out.mono ?_
  rintro e w2 ⟨rfl, rfl⟩
  go_wp2_with fail
  have HCut : Hid (∀ w', Calls Tryz.prog 231 #[.slice (some ⟨bb, off, none⟩) l.length cap, .int .i64 (m : Nat)] w' fun e w'' => e = .returned (.tuple #[.iface 137 (.slice (some ⟨bb, off, none⟩) m cap), .iface 137 (.slice (some ⟨bb, off + m * 2, none⟩) (l.length - m) (cap - m))]) ∧ Turn [] w' w'') := fun w' => lcut_any bb off l.length cap m hml hcap w'
  have hnil := nil_l
  have hmeth := meth_l
  go_region_with (first
    | (go_at_call 157; refine (HMid.out _ (by first | exact Turn.refl _ _ | exact (Turn.refl [] _).drew)).mono ?_; rintro e w9 ⟨rfl, rfl⟩)
    | (go_at_call 231; refine (HCut.out _).mono ?_; rintro e w3 ⟨rfl, hT3⟩; have HT3 := hide hT3; clear hT3))
  all_goals
    have hT13 : Turn [] w w3 := HT1.out.drew.then HT3.out (by simp)
    have HT13 := hide hT13
    have h13s := hT13.size
    have HTr3 := hide (HT.out.turn hT13 (by simp))
    have HK3 := hide (HK.out.turn0 hT13)
    clear hT13 HMid HCut
    go_wp2_with fail
    refine (place_any t p D S 137 _ lvl (by omega) w3 HTr3.out).mono ?_
    rintro e w4 ⟨a, rfl, ha, hP4, hTr4, hT4⟩
    have HP4 := hide hP4
    have HTr4 := hide hTr4
    have HT4 := hide hT4
    have h4s := hT4.size
    have hal := hP4.lt
    have HLow : Hid (Calls Tryz.prog 233 #[.slice (some ⟨bb, off + m * 2, none⟩) (l.length - m) (cap - m)] w4 fun e w' => e = .returned (.string l[m].1) ∧ w' = w4) := by
      have hd : (l.drop m).length = l.length - m := List.length_drop
      have := llow_any (some ⟨bb, off + m * 2, none⟩) (cap - m) (l.drop m) (by omega) (by omega) w4 ((HK3.out.part m).2.turn HT4.out fun x _ hx => by
        obtain rfl := Option.some.inj hx
        simp
        exact hbt)
      have he : ((l.drop m)[0]'(by omega)).1 = l[m].1 := by simp
      rw [he, hd] at this
      exact this
    clear hP4 hTr4 hT4
    go_wp2_with fail
    refine HLow.out.mono ?_
    rintro e w5 ⟨rfl, rfl⟩
    clear HLow
    go_wp2_with fail
    refine (place_any t p D { S with fresh := S.fresh + 1 } 137 _ lvl (by show S.fresh + 1 ≤ _; omega) w5 HTr4.out).mono ?_
    rintro e w6 ⟨a', rfl, ha', hP6, hTr6, hT6⟩
    have HP6 := hide hP6
    have HTr6 := hide hTr6
    have HT6 := hide hT6
    have h6s := hT6.size
    clear hP6 hTr6 hT6
    go_wp2_with fail
    go_ret
    have hTa : Turn [] w6 (w6.alloc (.cells #[.string low, .pointer (some ⟨a, 0, none⟩), .string l[m].1, .pointer (some ⟨a', 0, none⟩)] 173)) := (Turn.refl [] w6).alloc _
    refine ⟨a, a', w6.heap.size, rfl, by omega, by omega, by omega, by omega, .inr ⟨_, 0, rfl, fun i hi => ?_⟩, (HP4.out.turn HT6.out (by simp; omega)).turn hTa (by simp), HP6.out.turn hTa (by simp), HTr6.out.turn hTa (by simp), (((HT13.out.mono (by simp)).then HT4.out (by simp)).then HT6.out (by simp)).alloc _⟩
    match i, hi with
    | 0, _ => exact ⟨World.cell?_alloc_at _ _ _ _ rfl, World.cell?_alloc_at _ _ _ _ rfl⟩
    | 1, _ => exact ⟨World.cell?_alloc_at _ _ _ _ rfl, World.cell?_alloc_at _ _ _ _ rfl⟩
end Go.Proofs.YthgpjkcgccdldaaGreatDoor

namespace Go.Proofs.YthgpjkcgccdldaaGreatDoor
open Go.RowKit Go.Maps

theorem KidsAt.part {w : World} {b off : Nat} {l : List (ByteArray × Nat)} (h : KidsAt w (some ⟨b, off, none⟩) l) (m : Nat) : KidsAt w (some ⟨b, off, none⟩) (l.take m) ∧ KidsAt w (some ⟨b, off + m * 2, none⟩) (l.drop m) := by
  have e1 : kidCells (l.take m) = (kidCells l).take m := List.map_take
  have e2 : kidCells (l.drop m) = (kidCells l).drop m := List.map_drop
  exact ⟨PairsAt.kids (by rw [e1]; exact h.pairs.take m), PairsAt.kids (by rw [e2]; exact h.pairs.drop m)⟩

set_option maxRecDepth 100000 in
set_option maxHeartbeats 3200000 in
/-- placed: of branches that fit. -/
theorem bplaced_one (t p : Nat) (D S : Stt) (bb off cap : Nat) (l : List (ByteArray × Nat)) (lvl : Nat) (low : ByteArray) (hfr : S.fresh ≤ 100000) (hlen : l.length ≤ 1000) (hb : ∀ x ∈ l, x.1.size ≤ 1000) (hsz : sumN (bsizes l) ≤ 495) (w : World) (hT : TreeAt w t p D S) (hK : KidsAt w (some ⟨bb, off, none⟩) l) :
    Calls Tryz.prog 129 #[.pointer (some ⟨t, 0, none⟩), .iface 170 (.slice (some ⟨bb, off, none⟩) l.length cap), .int .i64 (lvl : Nat), .string low] w fun e w' => ∃ a g, e = .returned (.slice (some ⟨g, 0, none⟩) 1 1) ∧ w.heap.size ≤ a ∧ w.heap.size ≤ g ∧ KidsAt w' (some ⟨g, 0, none⟩) [(low, a)] ∧ PlaceAt w' a 0 lvl 0 (.iface 170 (.slice (some ⟨bb, off, none⟩) l.length cap)) ∧ TreeAt w' t p D { S with fresh := S.fresh + 1 } ∧ Turn [t] w w' := by
  have HT := hide hT
  have HC := hide (bsizes_any (some ⟨bb, off, none⟩) cap l hlen hb w hK)
  have HLs := hide (bsizes_length l)
  clear hT hK hb
  go_enter Tryz.func129, Tryz.ntmps129
  go_wp2_with fail
  refine HC.out.mono ?_
  rintro e w1 ⟨rfl, hR1, hT1⟩
  have HT1 := hide hT1
  have HTr1 := hide (HT.out.turn hT1 (by simp))
  have h1s := hT1.size
  have HTot := hide (total_any w.heap.size l.length (bsizes l) (by rw [HLs.out]; exact hlen) (by omega) w1 hR1)
  rw [HLs.out] at HTot
  clear hR1 hT1
  generalize sumN (bsizes l) = z at *
  go_wp2_with fail
  refine HTot.out.mono ?_
  rintro e w2 ⟨rfl, rfl⟩
  go_wp2_with fail
  refine (place_any t p D S 170 _ lvl (by omega) w2 HTr1.out).mono ?_
  rintro e w3 ⟨a, rfl, ha, hP3, hTr3, hT3⟩
  have HP3 := hide hP3
  have HTr3 := hide hTr3
  have HT3 := hide hT3
  have h3s := hT3.size
  clear hP3 hTr3 hT3
  go_wp2_with fail
  go_ret
  have hTa : Turn [] w3 (w3.alloc (.cells #[.string low, .pointer (some ⟨a, 0, none⟩)] 173)) := (Turn.refl [] w3).alloc _
  refine ⟨a, w3.heap.size, rfl, by omega, by omega, .inr ⟨_, 0, rfl, fun i hi => ?_⟩, HP3.out.turn hTa (by simp), HTr3.out.turn hTa (by simp), ((HT1.out.mono (by simp)).then HT3.out (by simp)).alloc _⟩
  obtain rfl : i = 0 := by simpa using hi
  exact ⟨World.cell?_alloc_at _ _ _ _ rfl, World.cell?_alloc_at _ _ _ _ rfl⟩

set_option maxRecDepth 100000 in
set_option maxHeartbeats 3200000 in
/-- placed: of branches that are too long. -/
theorem bplaced_two (t p : Nat) (D S : Stt) (bb off cap m : Nat) (l : List (ByteArray × Nat)) (lvl : Nat) (low : ByteArray) (hfr : S.fresh ≤ 100000) (hlen : l.length ≤ 1000) (hcap : l.length ≤ cap ∧ cap ≤ 9223372036854775807) (hb : ∀ x ∈ l, x.1.size ≤ 1000) (hsz : 495 < sumN (bsizes l) ∧ sumN (bsizes l) ≤ 1000000) (hm : m = middleN (bsizes l)) (hml : m < l.length) (hbt : bb ≠ t) (w : World) (hT : TreeAt w t p D S) (hK : KidsAt w (some ⟨bb, off, none⟩) l) :
    Calls Tryz.prog 129 #[.pointer (some ⟨t, 0, none⟩), .iface 170 (.slice (some ⟨bb, off, none⟩) l.length cap), .int .i64 (lvl : Nat), .string low] w fun e w' => ∃ a a' g, e = .returned (.slice (some ⟨g, 0, none⟩) 2 2) ∧ w.heap.size ≤ a ∧ w.heap.size ≤ a' ∧ a ≠ a' ∧ w.heap.size ≤ g ∧ KidsAt w' (some ⟨g, 0, none⟩) [(low, a), (l[m].1, a')]
      ∧ PlaceAt w' a 0 lvl 0 (.iface 170 (.slice (some ⟨bb, off, none⟩) m cap)) ∧ PlaceAt w' a' 0 lvl 0 (.iface 170 (.slice (some ⟨bb, off + m * 2, none⟩) (l.length - m) (cap - m))) ∧ TreeAt w' t p D { S with fresh := S.fresh + 2 } ∧ Turn [t] w w' := by
  have HT := hide hT
  have HK := hide hK
  have HC := hide (bsizes_any (some ⟨bb, off, none⟩) cap l hlen hb w hK)
  have HLs := hide (bsizes_length l)
  have HM := hide hm
  have htl := hT.lt
  clear hT hK hb hm
  go_enter Tryz.func129, Tryz.ntmps129
  go_wp2_with fail
  refine HC.out.mono ?_
  rintro e w1 ⟨rfl, hR1, hT1⟩
  have HT1 := hide hT1
  have HTr1 := hide (HT.out.turn hT1 (by simp))
  have h1s := hT1.size
  have HTot := hide (total_any w.heap.size l.length (bsizes l) (by rw [HLs.out]; exact hlen) (by omega) w1 hR1)
  have HR1 := hide hR1
  have HMid : Hid (∀ w', Turn [] w1 w' → Calls Tryz.prog 157 #[.slice (some ⟨w.heap.size, 0, none⟩) l.length l.length] w' fun e w'' => e = .returned (.int .i64 (m : Nat)) ∧ w'' = w') := fun w' hw' => by
    have := middle_any w.heap.size l.length (bsizes l) (by rw [HLs.out]; exact hlen) (by omega) w' (HR1.out.turn0 hw')
    rw [HLs.out, ← HM.out] at this
    exact this
  rw [HLs.out] at HTot
  clear hR1 hT1 HC
  generalize hzz : sumN (bsizes l) = z at *
  clear hzz
  have hnz : ¬ ((z : Int) ≤ 495) := by omega
  go_wp2_with fail
  refine HTot.out.mono ?_
  rintro e w2 ⟨rfl, rfl⟩
  go_wp2_with fail
  have HCut : Hid (∀ w', Calls Tryz.prog 236 #[.slice (some ⟨bb, off, none⟩) l.length cap, .int .i64 (m : Nat)] w' fun e w'' => e = .returned (.tuple #[.iface 170 (.slice (some ⟨bb, off, none⟩) m cap), .iface 170 (.slice (some ⟨bb, off + m * 2, none⟩) (l.length - m) (cap - m))]) ∧ Turn [] w' w'') := fun w' => bcut_any bb off l.length cap m hml hcap w'
  have hnil := nil_b
  have hmeth := meth_b
  go_region_with (first
    | (go_at_call 157; refine (HMid.out _ (by first | exact Turn.refl _ _ | exact (Turn.refl [] _).drew)).mono ?_; rintro e w9 ⟨rfl, rfl⟩)
    | (go_at_call 236; refine (HCut.out _).mono ?_; rintro e w3 ⟨rfl, hT3⟩; have HT3 := hide hT3; clear hT3))
  all_goals
    have hT13 : Turn [] w w3 := HT1.out.drew.then HT3.out (by simp)
    have HT13 := hide hT13
    have h13s := hT13.size
    have HTr3 := hide (HT.out.turn hT13 (by simp))
    have HK3 := hide (HK.out.turn0 hT13)
    clear hT13 HMid HCut
    go_wp2_with fail
    refine (place_any t p D S 170 _ lvl (by omega) w3 HTr3.out).mono ?_
    rintro e w4 ⟨a, rfl, ha, hP4, hTr4, hT4⟩
    have HP4 := hide hP4
    have HTr4 := hide hTr4
    have HT4 := hide hT4
    have h4s := hT4.size
    have hal := hP4.lt
    have HLow : Hid (Calls Tryz.prog 238 #[.slice (some ⟨bb, off + m * 2, none⟩) (l.length - m) (cap - m)] w4 fun e w' => e = .returned (.string l[m].1) ∧ w' = w4) := by
      have hd : (l.drop m).length = l.length - m := List.length_drop
      have := blow_any (some ⟨bb, off + m * 2, none⟩) (cap - m) (l.drop m) (by omega) (by omega) w4 ((HK3.out.part m).2.turn HT4.out fun x _ hx => by
        obtain rfl := Option.some.inj hx
        simp
        exact hbt)
      have he : ((l.drop m)[0]'(by omega)).1 = l[m].1 := by simp
      rw [he, hd] at this
      exact this
    clear hP4 hTr4 hT4
    go_wp2_with fail
    refine HLow.out.mono ?_
    rintro e w5 ⟨rfl, rfl⟩
    clear HLow
    go_wp2_with fail
    refine (place_any t p D { S with fresh := S.fresh + 1 } 170 _ lvl (by show S.fresh + 1 ≤ _; omega) w5 HTr4.out).mono ?_
    rintro e w6 ⟨a', rfl, ha', hP6, hTr6, hT6⟩
    have HP6 := hide hP6
    have HTr6 := hide hTr6
    have HT6 := hide hT6
    have h6s := hT6.size
    clear hP6 hTr6 hT6
    go_wp2_with fail
    go_ret
    have hTa : Turn [] w6 (w6.alloc (.cells #[.string low, .pointer (some ⟨a, 0, none⟩), .string l[m].1, .pointer (some ⟨a', 0, none⟩)] 173)) := (Turn.refl [] w6).alloc _
    refine ⟨a, a', w6.heap.size, rfl, by omega, by omega, by omega, by omega, .inr ⟨_, 0, rfl, fun i hi => ?_⟩, (HP4.out.turn HT6.out (by simp; omega)).turn hTa (by simp), HP6.out.turn hTa (by simp), HTr6.out.turn hTa (by simp), (((HT13.out.mono (by simp)).then HT4.out (by simp)).then HT6.out (by simp)).alloc _⟩
    match i, hi with
    | 0, _ => exact ⟨World.cell?_alloc_at _ _ _ _ rfl, World.cell?_alloc_at _ _ _ _ rfl⟩
    | 1, _ => exact ⟨World.cell?_alloc_at _ _ _ _ rfl, World.cell?_alloc_at _ _ _ _ rfl⟩
end Go.Proofs.YthgpjkcgccdldaaGreatDoor
