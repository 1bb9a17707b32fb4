/-
  Put's edit of a tree that is one leaf, or none; leafOf, Get.
-/
import Derived.Test.YthgpjkcgccdldaaGreatDoorTEdit
namespace Go.Proofs.YthgpjkcgccdldaaGreatDoor
open Go.RowKit Go.Maps

/-- A new leaf's content: l with k put, in block g. -/
structure NewRow (w w' : World) (l : List (ByteArray × ByteArray)) (k v : ByteArray) (i : Nat) (f : Bool) (g cap : Nat) : Prop where
  pos : IsPos (keysOf l) k i
  is : f = true ↔ Stands l k i
  kv : KVsAt w' (some ⟨g, 0, none⟩) (putL l i f (k, v))
  cap : (putL l i f (k, v)).length ≤ cap ∧ cap ≤ 9223372036854775807
  new : w.heap.size ≤ g
  lt : g < w'.heap.size

theorem NewRow.of {w0 w w' : World} {l : List (ByteArray × ByteArray)} {k v : ByteArray} {i : Nat} {f : Bool} {r : Value} (h1 : IsPos (keysOf l) k i) (h2 : f = true ↔ Stands l k i) (h3 : w'.ownsRow w.heap.size 55 2 r (putL l i f (k, v)).length (flat (kvCells (putL l i f (k, v))))) (h4 : w0.heap.size ≤ w.heap.size) : ∃ g cap, r = .slice (some ⟨g, 0, none⟩) (putL l i f (k, v)).length cap ∧ NewRow w0 w' l k v i f g cap := by
  have hlen : 0 < (putL l i f (k, v)).length := by unfold putL; simp; omega
  have hlt := h3.lt
  obtain ⟨a, cap, e, _, _, hp, _⟩ := own_pairs h3
  obtain ⟨_, ⟨rfl, h0⟩ | ⟨g, cap', cur, rfl, hb, hg, hnc, hm, _⟩⟩ := h3
  · omega
  · rw [kvCells_length] at e
    injection e with e1 e2 e3
    subst e1 e3
    obtain ⟨hl1, hl2⟩ := hlt g rfl
    unfold maxLen at hm
    exact ⟨g, cap', rfl, h1, h2, hp.kvs, ⟨hnc, by omega⟩, by omega, hl2⟩

set_option maxRecDepth 100000 in
set_option maxHeartbeats 3200000 in
theorem edited_nil (t kb : Nat) (k v : ByteArray) (w : World) (h0 : w.cell? ⟨kb, 0, none⟩ = some (.string k)) (h1 : w.cell? ⟨kb, 1, none⟩ = some (.string v)) :
    Calls Tryz.prog 96 #[.pointer (some ⟨t, 0, none⟩), .pointer none, .string k, .func (.func 68) #[] #[.pointer (some ⟨kb, 0, none⟩)]] w fun e w' => ∃ i f g cap, e = .returned (.iface 137 (.slice (some ⟨g, 0, none⟩) (putL [] i f (k, v)).length cap)) ∧ NewRow w w' [] k v i f g cap ∧ Turn [] w w' := by
  have hta := ta_ll
  have htb := ta_lb
  have H0 := hide h0
  have H1 := hide h1
  clear h0 h1
  go_enter Tryz.func96, Tryz.ntmps96
  go_wp2_with fail
  refine (take_nil t w).mono ?_
  rintro e w1 ⟨b, rfl, hT1⟩
  have h01 := (hT1.cell (p := ⟨kb, 0, none⟩) (lt_of_cell H0.out) (by simp)).trans H0.out
  have h11 := (hT1.cell (p := ⟨kb, 1, none⟩) (lt_of_cell H1.out) (by simp)).trans H1.out
  have HC := hide (put1_any b 0 0 kb [] k v (by simp [Rises, keysOf]) (by simp) (by simp) w1 (.inl rfl) h01 h11)
  have HT1 := hide hT1
  clear h01 h11 hT1
  go_wp2_with fail
  refine HC.out.mono ?_
  rintro e w2 ⟨i, f, r, rfl, g1, g2, g3, g4⟩
  obtain ⟨g, cap, rfl, hN⟩ := NewRow.of (w0 := w) g1 g2 g3 HT1.out.size
  have HN := hide hN
  have HT2 := hide g4
  clear g1 g2 g3 g4 hN
  go_wp2_with fail
  go_ret
  exact ⟨i, f, g, cap, rfl, HN.out, HT1.out.then HT2.out (by simp)⟩

set_option maxRecDepth 100000 in
set_option maxHeartbeats 3200000 in
theorem edited_leaf (t p a pg : Nat) (d : Int) (bb off cap : Nat) (l : List (ByteArray × ByteArray)) (D S : Stt) (hne : a ≠ t) (hbb : l ≠ [] → bb ≠ t ∧ bb ≠ a) (hfr : S.fresh ≤ 1000) (hp0 : pg = 0 → 1 ≤ S.fresh) (hp1 : 0 < pg → S.dropped = .slice none 0 0) (hs : Rises (keysOf l)) (hlen : l.length ≤ 1000)
    (kb : Nat) (hkb : kb ≠ t ∧ kb ≠ a) (k v : ByteArray) (w : World) (hT : TreeAt w t p D S) (hL : LeafAt w a pg d bb off cap l) (h0 : w.cell? ⟨kb, 0, none⟩ = some (.string k)) (h1 : w.cell? ⟨kb, 1, none⟩ = some (.string v)) :
    Calls Tryz.prog 96 #[.pointer (some ⟨t, 0, none⟩), .pointer (some ⟨a, 0, none⟩), .string k, .func (.func 68) #[] #[.pointer (some ⟨kb, 0, none⟩)]] w fun e w' => ∃ i f g cap', e = .returned (.iface 137 (.slice (some ⟨g, 0, none⟩) (putL l i f (k, v)).length cap')) ∧ NewRow w w' l k v i f g cap' ∧ LeafAt w' a pg 1 bb off cap l ∧ (∃ S', Taken w w' t p pg D S S') ∧ Turn [t, a] w w' := by
  have hta := ta_ll
  have htb := ta_lb
  have H0 := hide h0
  have H1 := hide h1
  have HC0 := hide (take_leaf t p a pg d bb off cap l D S hne hbb hfr hp0 hp1 w hT hL)
  have HS := hide hs
  clear h0 h1 hT hL hs
  go_enter Tryz.func96, Tryz.ntmps96
  go_wp2_with fail
  refine HC0.out.mono ?_
  rintro e w1 ⟨rfl, hL1, ⟨S', hS'⟩, hT1⟩
  have h01 := (hT1.cell (p := ⟨kb, 0, none⟩) (lt_of_cell H0.out) (by simp; exact hkb)).trans H0.out
  have h11 := (hT1.cell (p := ⟨kb, 1, none⟩) (lt_of_cell H1.out) (by simp; exact hkb)).trans H1.out
  have HC := hide (put1_any bb off cap kb l k v HS.out hlen hL1.cap w1 hL1.kv h01 h11)
  have HT1 := hide hT1
  have HL1 := hide hL1
  have HS' := hide hS'
  clear h01 h11 hT1 hL1 hS'
  go_wp2_with fail
  refine HC.out.mono ?_
  rintro e w2 ⟨i, f, r, rfl, g1, g2, g3, g4⟩
  obtain ⟨g, cap', rfl, hN⟩ := NewRow.of (w0 := w) g1 g2 g3 HT1.out.size
  have HN := hide hN
  have HT2 := hide g4
  clear g1 g2 g3 g4 hN
  go_wp2_with fail
  go_ret
  obtain ⟨e1, e2, e3, e4, e5⟩ := HS'.out
  refine ⟨i, f, g, cap', rfl, HN.out, ⟨HL1.out.place.turn HT2.out (by simp), HL1.out.d01, HL1.out.kv.turn0 HT2.out, HL1.out.cap⟩, ⟨S', e1, e2, e3, e4.turn HT2.out (by simp), ?_⟩, HT1.out.then HT2.out (by simp)⟩
  rcases e5 with e5 | ⟨e6, e7, e8⟩
  · exact .inl e5
  · refine .inr ⟨e6, e7, ?_⟩
    obtain ⟨k1, k2 | ⟨g', c', cur, k3, k4, k5, k6⟩⟩ := e8
    · exact ⟨k1, .inl k2⟩
    · exact ⟨k1, .inr ⟨g', c', cur, k3, k4, (HT2.out.block g' (by
        rcases Nat.lt_or_ge g' w1.heap.size with h | h
        · exact h
        · rw [Array.getElem?_eq_none h] at k5; cases k5) (by simp)).trans k5, k6⟩⟩

set_option maxRecDepth 100000 in
set_option maxHeartbeats 1600000 in
theorem height_nil (t p : Nat) (D S : Stt) (hr : S.root = none) (w : World) (hT : TreeAt w t p D S) : Calls Tryz.prog 94 #[.pointer (some ⟨t, 0, none⟩)] w fun e w' => e = .returned (.int .i64 0) ∧ w' = w := by
  have h6 := hT.now.c0
  rw [hr] at h6
  have h6' : w.cell? ⟨t, 6, none⟩ = some (.pointer none) := h6
  clear h6 hT
  go_enter Tryz.func94, Tryz.ntmps94
  go_wp2_with fail
  go_ret
  exact ⟨rfl, rfl⟩

set_option maxRecDepth 100000 in
set_option maxHeartbeats 1600000 in
theorem height_some (t p a lvl : Nat) (D S : Stt) (hr : S.root = some a) (w : World) (hT : TreeAt w t p D S) (h1 : w.cell? ⟨a, 1, none⟩ = some (.int .i64 (lvl : Nat))) : Calls Tryz.prog 94 #[.pointer (some ⟨t, 0, none⟩)] w fun e w' => e = .returned (.int .i64 (lvl : Nat)) ∧ w' = w := by
  have h6 := hT.now.c0
  rw [hr] at h6
  have h6' : w.cell? ⟨t, 6, none⟩ = some (.pointer (some ⟨a, 0, none⟩)) := h6
  clear h6 hT
  go_enter Tryz.func94, Tryz.ntmps94
  go_wp2_with fail
  go_ret
  exact ⟨rfl, rfl⟩
end Go.Proofs.YthgpjkcgccdldaaGreatDoor

/-
  edit, leafOf, Get on a tree that is one leaf, or none.
-/
namespace Go.Proofs.YthgpjkcgccdldaaGreatDoor
open Go.RowKit Go.Maps

theorem max1 (_w : World) : True := trivial

theorem single (k v : ByteArray) (i : Nat) (f : Bool) (_h : f = true ↔ Stands [] k i) : putL [] i f (k, v) = [(k, v)] := by
  unfold putL
  simp

set_option maxRecDepth 100000 in
set_option maxHeartbeats 3200000 in
theorem edit_nil (t p kb : Nat) (D S : Stt) (hr : S.root = none) (hfr : S.fresh ≤ 500) (k v : ByteArray) (hk : k.size ≤ 48) (hv : v.size ≤ 120) (w : World) (hT : TreeAt w t p D S) (h0 : w.cell? ⟨kb, 0, none⟩ = some (.string k)) (h1 : w.cell? ⟨kb, 1, none⟩ = some (.string v)) :
    Calls Tryz.prog 67 #[.pointer (some ⟨t, 0, none⟩), .string k, .func (.func 68) #[] #[.pointer (some ⟨kb, 0, none⟩)]] w fun e w' => e = .returned (.tuple #[]) ∧ ∃ a g cap, w.heap.size ≤ a ∧ w.heap.size ≤ g ∧ g < a ∧ LeafAt w' a 0 0 g 0 cap [(k, v)] ∧ TreeAt w' t p D { S with root := some a, fresh := S.fresh + 1 } ∧ Turn [t] w w' := by
  have HT := hide hT
  have h6 : w.cell? ⟨t, 6, none⟩ = some (.pointer none) := by have := hT.now.c0; rw [hr] at this; exact this
  have HC := hide (edited_nil t kb k v w h0 h1)
  have htl := hT.lt
  clear hT h0 h1
  go_enter Tryz.func67, Tryz.ntmps67
  go_wp2_with fail
  refine (height_nil t p D S hr w HT.out).mono ?_
  rintro e w1 ⟨rfl, rfl⟩
  go_wp2_with fail
  refine HC.out.mono ?_
  rintro e w2 ⟨i, f, g, cap, rfl, hN, hT2⟩
  have hsg := single k v i f hN.is
  have hlen : (putL [] i f (k, v)).length = 1 := by rw [hsg]; rfl
  have hkv := hN.kv
  have hcap := hN.cap
  rw [hsg] at hkv hcap
  have HKv := hide hkv
  have HTr2 := hide (HT.out.turn hT2 (by simp))
  have HT2 := hide hT2
  have hg := hN.new
  have hgl := hN.lt
  rw [hlen]
  have HR := hide (rootOf_leaf t p D S g 0 cap [(k, v)] 1 (by simp) (by omega) (by simp) (by simp; omega) (by unfold lsize lsizes kvSize sumN; simp; omega) w2 HTr2.out hkv)
  clear hN hT2 hkv hsg hlen HC
  go_wp2_with fail
  refine HR.out.mono ?_
  rintro e w3 ⟨a, rfl, ha, hP3, hTr3, hT3⟩
  have HP3 := hide hP3
  have HTr3 := hide hTr3
  have HT3 := hide hT3
  have h63 := hTr3.now.c0
  have f63 := hTr3.fz 6
  have hs2 := HT2.out.size
  clear hP3 hTr3 hT3
  go_wp2_with fail
  go_end0
  have hTs : Turn [t] w3 (w3.setCell ⟨t, 6, none⟩ (.pointer (some ⟨a, 0, none⟩))) := (Turn.refl [t] w3).setCell (List.mem_singleton.2 rfl) 6 _
  refine ⟨rfl, a, g, cap, by omega, hg, by omega, ⟨HP3.out.turn hTs (by simp; omega), .inl rfl, (HKv.out.turn HT3.out (fun x _ hx => by obtain rfl := Option.some.inj hx; simp; omega)).turn hTs (fun x _ hx => by obtain rfl := Option.some.inj hx; simp; omega), hcap⟩, HTr3.out.setRoot (some a), ((show Turn [t] w1 w2 from ⟨HT2.out.os, HT2.out.tape, HT2.out.output, HT2.out.size, fun i hi _ => HT2.out.block i hi (by simp)⟩).then HT3.out (by simp)).trans hTs⟩

set_option maxRecDepth 100000 in
set_option maxHeartbeats 3200000 in
theorem leafOf_nil (t p : Nat) (D S : Stt) (hr : S.root = none) (key : ByteArray) (w : World) (hT : TreeAt w t p D S) :
    Calls Tryz.prog 81 #[.pointer (some ⟨t, 0, none⟩), .string key] w fun e w' => ∃ b, e = .returned (.slice (some ⟨b, 0, none⟩) 0 0) ∧ Turn [] w w' := by
  have h6 : w.cell? ⟨t, 6, none⟩ = some (.pointer none) := by have := hT.now.c0; rw [hr] at this; exact this
  have hta := ta_ll
  have htb := ta_lb
  clear hT
  go_enter Tryz.func81, Tryz.ntmps81
  go_wp2_with fail
  go_loopw [5] (fun x wr => x = .pointer none ∧ wr = w) (fun _ _ => 0)
  case atStart => exact ⟨rfl, rfl⟩
  case round =>
    obtain ⟨rfl, rfl⟩ := hrel
    go_wp2_with fail
    refine (nodeAt_nil t wr).mono ?_
    rintro e w1 ⟨b, rfl, hT1⟩
    go_wp2_with fail
    go_ret
    exact ⟨b, rfl, hT1⟩

set_option maxRecDepth 100000 in
set_option maxHeartbeats 3200000 in
theorem leafOf_leaf (t p a pg : Nat) (d : Int) (bb off cap : Nat) (l : List (ByteArray × ByteArray)) (D S : Stt) (hr : S.root = some a) (hbb : l ≠ [] → bb ≠ a) (key : ByteArray) (w : World) (hT : TreeAt w t p D S) (hL : LeafAt w a pg d bb off cap l) :
    Calls Tryz.prog 81 #[.pointer (some ⟨t, 0, none⟩), .string key] w fun e w' => e = .returned (.slice (some ⟨bb, off, none⟩) l.length cap) ∧ LeafAt w' a pg 1 bb off cap l ∧ Turn [a] w w' := by
  have h6 : w.cell? ⟨t, 6, none⟩ = some (.pointer (some ⟨a, 0, none⟩)) := by have := hT.now.c0; rw [hr] at this; exact this
  have hta := ta_ll
  have htb := ta_lb
  have HL := hide hL
  clear hT hL
  go_enter Tryz.func81, Tryz.ntmps81
  go_wp2_with fail
  go_loopw [5] (fun x wr => x = .pointer (some ⟨a, 0, none⟩) ∧ wr = w) (fun _ _ => 0)
  case atStart => exact ⟨rfl, rfl⟩
  case round =>
    obtain ⟨rfl, rfl⟩ := hrel
    go_wp2_with fail
    refine (nodeAt_some t a pg 1 d HL.out.d01 137 _ wr HL.out.place).mono ?_
    rintro e w1 ⟨rfl, hP1, hT1⟩
    have HL1 : Hid (LeafAt w1 a pg 1 bb off cap l) := ⟨hP1, .inr rfl, HL.out.kv.turn hT1 (fun x hl hx => by obtain rfl := Option.some.inj hx; simp; exact hbb hl), HL.out.cap⟩
    clear hP1
    go_wp2_with fail
    go_ret
    exact ⟨rfl, HL1.out, hT1⟩

/-- What Get answers. -/
def Got (l : List (ByteArray × ByteArray)) (key val : ByteArray) (f : Bool) : Prop :=
  (f = true ∧ ∃ i, ∃ h : i < l.length, l[i].1 = key ∧ l[i].2 = val) ∨ (f = false ∧ val = ⟨#[]⟩ ∧ ∀ x ∈ l, x.1 ≠ key)

theorem not_there {l : List (ByteArray × ByteArray)} {key : ByteArray} {i : Nat} (hs : Rises (keysOf l)) (hp : IsPos (keysOf l) key i) (hn : ¬ Stands l key i) : ∀ x ∈ l, x.1 ≠ key := by
  intro x hx e
  obtain ⟨m, hm, rfl⟩ := List.getElem_of_mem hx
  have hmk : m < (keysOf l).length := by rw [keysOf_length]; exact hm
  have him : i ≤ m := by
    rcases Nat.lt_or_ge m i with h | h
    · have := hp.2.1 m hmk h
      rw [keysOf_get hm, e] at this
      exact absurd this (klt_irrefl _)
    · exact h
  by_cases e2 : i = m
  · subst e2
    exact hn ⟨hm, e⟩
  · have h1 := hs.get (i := i) (j := m) (by omega) hmk
    have h2 := hp.2.2 i (by omega) (Nat.le_refl _)
    rw [keysOf_get hm, e] at h1
    exact h2 h1

set_option maxRecDepth 100000 in
set_option maxHeartbeats 3200000 in
theorem get_row (R : World → Prop) (l : List (ByteArray × ByteArray)) (hs : Rises (keysOf l)) (hlen : l.length ≤ 1000) (t : Nat) (key : ByteArray) (w : World) (hC : Calls Tryz.prog 81 #[.pointer (some ⟨t, 0, none⟩), .string key] w fun e w' => ∃ bb off cap, e = .returned (.slice (some ⟨bb, off, none⟩) l.length cap) ∧ KVsAt w' (some ⟨bb, off, none⟩) l ∧ R w') :
    Calls Tryz.prog 54 #[.pointer (some ⟨t, 0, none⟩), .string key] w fun e w' => ∃ val f w1, e = .returned (.tuple #[.string val, .bool f]) ∧ Got l key val f ∧ R w1 ∧ Turn [] w1 w' := by
  have HC := hide hC
  have HS := hide hs
  clear hC hs
  go_enter Tryz.func54, Tryz.ntmps54
  go_wp2_with fail
  refine HC.out.mono ?_
  rintro e w2 ⟨bb, off, cap, rfl, hK, hR⟩
  have HK := hide hK
  have HRw := hide hR
  clear hK hR
  go_wp2_with fail
  refine (lfind_any (some ⟨bb, off, none⟩) cap l key HS.out (by omega) w2 HK.out).mono ?_
  rintro e w3 ⟨i, f, rfl, h1, h2, hT3⟩
  have H1 := hide h1
  have H2 := hide h2
  have HT3 := hide hT3
  have HK3 := hide (HK.out.turn0 hT3)
  clear h1 h2 hT3
  cases f with
  | false =>
    go_wp2_with fail
    refine bodyPost_ret (v := .tuple #[.string ⟨#[]⟩, .bool false]) (by simp [results, Tryz.results54, go_sem]) rfl ⟨_, false, w2, rfl, .inr ⟨rfl, rfl, not_there HS.out H1.out (fun e => by have := H2.out.2 e; cases this)⟩, HRw.out, HT3.out⟩
  | true =>
    obtain ⟨hil, hik⟩ := H2.out.1 rfl
    have HIk := hide hik
    obtain ⟨b', off', e', hc, hd⟩ := HK3.out.at hil
    obtain ⟨rfl, rfl⟩ : bb = b' ∧ off = off' := by
      have := Option.some.inj e'
      exact ⟨congrArg Addr.block this, congrArg Addr.off this⟩
    clear hik e'
    go_wp2_with fail
    refine bodyPost_ret (v := .tuple #[.string l[i].2, .bool true]) (by simp [results, Tryz.results54, go_sem]) rfl ⟨_, true, w2, rfl, .inl ⟨rfl, i, hil, HIk.out, rfl⟩, HRw.out, HT3.out⟩

theorem get_nil (t p : Nat) (D S : Stt) (hr : S.root = none) (key : ByteArray) (w : World) (hT : TreeAt w t p D S) :
    Calls Tryz.prog 54 #[.pointer (some ⟨t, 0, none⟩), .string key] w fun e w' => e = .returned (.tuple #[.string ⟨#[]⟩, .bool false]) ∧ Turn [] w w' := by
  refine (get_row (fun w' => Turn [] w w') [] (by simp [Rises, keysOf]) (by simp) t key w ((leafOf_nil t p D S hr key w hT).mono ?_)).mono ?_
  · rintro e w' ⟨b, rfl, hT'⟩
    exact ⟨b, 0, 0, rfl, .inl rfl, hT'⟩
  · rintro e w' ⟨val, f, w1, rfl, hG, hR, hT'⟩
    rcases hG with ⟨_, i, hi, _⟩ | ⟨rfl, rfl, _⟩
    · simp at hi
    · exact ⟨rfl, hR.then hT' (by simp)⟩

theorem get_leaf (t p a pg : Nat) (d : Int) (bb off cap : Nat) (l : List (ByteArray × ByteArray)) (D S : Stt) (hr : S.root = some a) (hbb : l ≠ [] → bb ≠ a) (hs : Rises (keysOf l)) (hlen : l.length ≤ 1000) (key : ByteArray) (w : World) (hT : TreeAt w t p D S) (hL : LeafAt w a pg d bb off cap l) :
    Calls Tryz.prog 54 #[.pointer (some ⟨t, 0, none⟩), .string key] w fun e w' => ∃ val f, e = .returned (.tuple #[.string val, .bool f]) ∧ Got l key val f ∧ LeafAt w' a pg 1 bb off cap l ∧ Turn [a] w w' := by
  refine (get_row (fun w' => LeafAt w' a pg 1 bb off cap l ∧ Turn [a] w w') l hs hlen t key w ((leafOf_leaf t p a pg d bb off cap l D S hr hbb key w hT hL).mono ?_)).mono ?_
  · rintro e w' ⟨rfl, hL', hT'⟩
    exact ⟨bb, off, cap, rfl, hL'.kv, hL', hT'⟩
  · rintro e w' ⟨val, f, w1, rfl, hG, ⟨hL1, hT1⟩, hT'⟩
    exact ⟨val, f, rfl, hG, ⟨hL1.place.turn hT' (by simp), hL1.d01, hL1.kv.turn0 hT', hL1.cap⟩, hT1.then hT' (by simp)⟩
end Go.Proofs.YthgpjkcgccdldaaGreatDoor
