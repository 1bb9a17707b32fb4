/-
  An edit of a tree that is one leaf, or none: take, place, placed, rootOf, edited, edit.
  Put's edit of a tree that is one leaf, or none; leafOf, Get.
  Put on a tree without keys.
  The size of a node; two nodes put together.
  placed: a node gets its place, or both halves of it do.
  placed: a branch gets its place, or both halves of it do.
-/
import Derived.Test.YthehkckdecckhaaGreatDoorU32
import Derived.Test.YthehkckdecckhaaGreatDoorU25
import Derived.Deep.RegionLaw
import Derived.Deep.RegionHeld3
import Derived.Deep.RegionLawGrows
import Derived.Test.YthehkckdecckhaaGreatDoorU13

namespace Go.Proofs.YthehkckdecckhaaGreatDoor
open Go.RowKit Go.Maps

theorem ta_ll (v : Value) (w : World) : (Instr.typeAssert (.iface 73 v) 102 73 true).run Tryz.prog w = .ok (.tuple #[v, .bool true]) w := by kernel_rfl
theorem ta_lb (v : Value) (w : World) : (Instr.typeAssert (.iface 73 v) 102 120 true).run Tryz.prog w = .ok (.tuple #[.slice none 0 0, .bool false]) w := by kernel_rfl
theorem ta_bb (v : Value) (w : World) : (Instr.typeAssert (.iface 120 v) 102 120 true).run Tryz.prog w = .ok (.tuple #[v, .bool true]) w := by kernel_rfl
theorem ta_bl (v : Value) (w : World) : (Instr.typeAssert (.iface 120 v) 102 73 true).run Tryz.prog w = .ok (.tuple #[.slice none 0 0, .bool false]) w := by kernel_rfl

theorem zero104 (w : World) : Sem.run Tryz.prog (zeroValue 104) w = .ok (.agg #[.int .i64 0, .int .i64 0, .int .u32 0, .int .i32 0, .int .u32 0, .nilIface]) w := by kernel_rfl

set_option maxRecDepth 100000 in
set_option maxHeartbeats 1600000 in
theorem place_any (t p : Nat) (D S : Stt) (T : TypeId) (v : Value) (lvl : Nat) (hfr : S.fresh ≤ 1000000) (w : World) (hT : TreeAt w t p D S) :
    Calls Tryz.prog 87 #[.pointer (some ⟨t, 0, none⟩), .iface T v, .int .i64 (lvl : Nat)] w fun e w' => ∃ a, e = .returned (.pointer (some ⟨a, 0, none⟩)) ∧ w.heap.size ≤ a ∧ PlaceAt w' a 0 lvl 0 (.iface T v) ∧ TreeAt w' t p D { S with fresh := S.fresh + 1 } ∧ Turn [t] w w' := by
  have h9 := hT.now.c3
  have f9 := hT.fz 9
  have HT := hide hT
  have hz := zero104
  have htl := hT.lt
  clear hT
  go_enter Tryz.func87, Tryz.ntmps87
  go_wp2_with fail
  go_ret
  have hT1 := HT.out.setFresh (S.fresh + 1)
  rw [show ((S.fresh + 1 : Nat) : Int) = (S.fresh : Int) + 1 by omega] at hT1
  have hs : (w.setCell ⟨t, 9, none⟩ (.int .i64 ((S.fresh : Int) + 1))).heap.size = w.heap.size := by simp
  refine ⟨w.heap.size, rfl, Nat.le_refl _, ?_, hT1.turn ((Turn.refl [] _).alloc _) (by simp), ((Turn.refl [t] w).setCell (List.mem_singleton.2 rfl) 9 _).alloc _⟩
  rw [← hs]
  exact ⟨World.cell?_alloc_at _ _ _ _ rfl, World.cell?_alloc_at _ _ _ _ rfl, World.cell?_alloc_at _ _ _ _ rfl, World.cell?_alloc_at _ _ _ _ rfl, World.cell?_alloc_at _ _ _ _ rfl, fun o => World.frozen?_alloc_at _ _ _ _ rfl⟩

/-- A leaf's bytes in a page. -/
def lsize (l : List (ByteArray × ByteArray)) : Nat := sumN (lsizes l)

set_option maxRecDepth 100000 in
set_option maxHeartbeats 3200000 in
theorem placed_fits (t p : Nat) (D S : Stt) (bb off cap : Nat) (l : List (ByteArray × ByteArray)) (lvl : Nat) (low : ByteArray) (hfr : S.fresh ≤ 1000) (hlen : l.length ≤ 1000) (hb : ∀ x ∈ l, x.1.size ≤ 1000 ∧ x.2.size ≤ 1000) (hsz : lsize l ≤ 495) (w : World) (hT : TreeAt w t p D S) (hK : KVsAt w (some ⟨bb, off, none⟩) l) :
    Calls Tryz.prog 86 #[.pointer (some ⟨t, 0, none⟩), .iface 73 (.slice (some ⟨bb, off, none⟩) l.length cap), .int .i64 (lvl : Nat), .string low] w fun e w' => ∃ a g, e = .returned (.slice (some ⟨g, 0, none⟩) 1 1) ∧ w.heap.size ≤ a ∧ w.heap.size ≤ g ∧ w'.cell? ⟨g, 0, none⟩ = some (.string low) ∧ w'.cell? ⟨g, 1, none⟩ = some (.pointer (some ⟨a, 0, none⟩)) ∧ PlaceAt w' a 0 lvl 0 (.iface 73 (.slice (some ⟨bb, off, none⟩) l.length cap)) ∧ TreeAt w' t p D { S with fresh := S.fresh + 1 } ∧ Turn [t] w w' := by
  have HT := hide hT
  have HK := hide hK
  have HB := hide hb
  have HLs := hide (lsizes_length l)
  clear hT hK hb
  go_enter Tryz.func86, Tryz.ntmps86
  go_wp2_with fail
  refine (lsizes_any (some ⟨bb, off, none⟩) cap l hlen HB.out w HK.out).mono ?_
  rintro e w1 ⟨rfl, hR1, hT1⟩
  have HR1 := hide hR1
  have HT1 := hide hT1
  have HTr1 := hide (HT.out.turn hT1 (by simp))
  have h1s := hT1.size
  clear hR1 hT1
  have HTot := hide (total_any w.heap.size l.length (lsizes l) (by rw [HLs.out]; exact hlen) (by unfold lsize at hsz; omega) w1 HR1.out)
  rw [HLs.out] at HTot
  change Hid (Calls Tryz.prog 118 _ w1 fun e w' => e = .returned (.int .i64 (lsize l : Nat)) ∧ w' = w1) at HTot
  generalize lsize l = z at *
  go_wp2_with fail
  refine HTot.out.mono ?_
  rintro e w2 ⟨rfl, rfl⟩
  go_wp2_with fail
  refine (place_any t p D S 73 _ lvl (by omega) w2 HTr1.out).mono ?_
  rintro e w3 ⟨a, rfl, ha, hP3, hTr3, hT3⟩
  have HP3 := hide hP3
  have HTr3 := hide hTr3
  have HT3 := hide hT3
  have h3s := hT3.size
  clear hP3 hTr3 hT3
  go_wp2_with fail
  go_ret
  have hTa : Turn [] w3 (w3.alloc (.cells #[.string low, .pointer (some ⟨a, 0, none⟩)] 122)) := (Turn.refl [] w3).alloc _
  exact ⟨a, w3.heap.size, rfl, by omega, by omega, World.cell?_alloc_at _ _ _ _ rfl, World.cell?_alloc_at _ _ _ _ rfl, HP3.out.turn hTa (by simp), HTr3.out.turn hTa (by simp), ((show Turn [t] w w2 from ⟨HT1.out.os, HT1.out.tape, HT1.out.output, HT1.out.size, fun i hi _ => HT1.out.block i hi (by simp)⟩).then HT3.out (by simp)).alloc _⟩

set_option maxRecDepth 100000 in
set_option maxHeartbeats 3200000 in
theorem rootOf_leaf (t p : Nat) (D S : Stt) (bb off cap : Nat) (l : List (ByteArray × ByteArray)) (lvl : Nat) (hne : 0 < l.length) (hfr : S.fresh ≤ 1000) (hlen : l.length ≤ 1000) (hb : ∀ x ∈ l, x.1.size ≤ 1000 ∧ x.2.size ≤ 1000) (hsz : lsize l ≤ 495) (w : World) (hT : TreeAt w t p D S) (hK : KVsAt w (some ⟨bb, off, none⟩) l) :
    Calls Tryz.prog 56 #[.pointer (some ⟨t, 0, none⟩), .iface 73 (.slice (some ⟨bb, off, none⟩) l.length cap), .int .i64 (lvl : Nat)] w fun e w' => ∃ a, e = .returned (.pointer (some ⟨a, 0, none⟩)) ∧ w.heap.size ≤ a ∧ PlaceAt w' a 0 lvl 0 (.iface 73 (.slice (some ⟨bb, off, none⟩) l.length cap)) ∧ TreeAt w' t p D { S with fresh := S.fresh + 1 } ∧ Turn [t] w w' := by
  have HC := hide (placed_fits t p D S bb off cap l lvl ⟨#[]⟩ hfr hlen hb hsz w hT hK)
  have hnz : ((l.length : Int) == 0) = false := by
    rw [beq_eq_false_iff_ne]
    omega
  have hta := ta_ll
  clear hT hK hb hsz
  go_enter Tryz.func56, Tryz.ntmps56
  go_wp2_with fail
  refine HC.out.mono ?_
  rintro e w1 ⟨a, g, rfl, ha, hg, h0, h1, hP, hTr, hT⟩
  have HP := hide hP
  have HTr := hide hTr
  have HT := hide hT
  clear hP hTr hT
  go_wp2_with fail
  go_ret
  exact ⟨a, rfl, ha, HP.out, HTr.out, HT.out⟩

set_option maxRecDepth 100000 in
set_option maxHeartbeats 1600000 in
theorem take_nil (t : Nat) (w : World) :
    Calls Tryz.prog 88 #[.pointer (some ⟨t, 0, none⟩), .pointer none] w fun e w' => ∃ b, e = .returned (.iface 73 (.slice (some ⟨b, 0, none⟩) 0 0)) ∧ Turn [] w w' := by
  go_enter Tryz.func88, Tryz.ntmps88
  go_wp2_with fail
  refine (nodeAt_nil t w).mono ?_
  rintro e w1 ⟨b, rfl, hT⟩
  go_wp2_with fail
  go_ret
  exact ⟨b, rfl, hT⟩

set_option maxRecDepth 100000 in
set_option maxHeartbeats 1600000 in
theorem take_fresh (t p a lvl : Nat) (d : Int) (hd : d = 0 ∨ d = 1) (T : TypeId) (v : Value) (D S : Stt) (hne : a ≠ t) (hfr : 1 ≤ S.fresh ∧ S.fresh ≤ 1000) (w : World) (hT : TreeAt w t p D S) (hP : PlaceAt w a 0 lvl d (.iface T v)) :
    Calls Tryz.prog 88 #[.pointer (some ⟨t, 0, none⟩), .pointer (some ⟨a, 0, none⟩)] w fun e w' => e = .returned (.iface T v) ∧ PlaceAt w' a 0 lvl 1 (.iface T v) ∧ TreeAt w' t p D { S with fresh := S.fresh - 1 } ∧ Turn [t, a] w w' := by
  have HT := hide hT
  have HP := hide hP
  clear hT hP
  go_enter Tryz.func88, Tryz.ntmps88
  go_wp2_with fail
  refine (nodeAt_some t a 0 lvl d hd T v w HP.out).mono ?_
  rintro e w1 ⟨rfl, hP1, hT1⟩
  have HTr1 := hide (HT.out.turn hT1 (by simp; exact hne.symm))
  have h0 := hP1.c0
  have h9 := HTr1.out.now.c3
  have f9 := HTr1.out.fz 9
  have HP1 := hide hP1
  have HT1 := hide hT1
  clear hP1 hT1
  go_wp2_with fail
  go_ret
  have hT2 := HTr1.out.setFresh (S.fresh - 1)
  rw [show ((S.fresh - 1 : Nat) : Int) = (S.fresh : Int) - 1 by omega] at hT2
  have hTt : Turn [t] w1 (w1.setCell ⟨t, 9, none⟩ (.int .i64 ((S.fresh : Int) - 1))) := (Turn.refl [t] w1).setCell (List.mem_singleton.2 rfl) 9 _
  exact ⟨rfl, HP1.out.turn hTt (by simp; exact hne), hT2, (HT1.out.mono (by simp)).trans (hTt.mono (by simp))⟩
end Go.Proofs.YthehkckdecckhaaGreatDoor

/-
  An edit of a tree that is one leaf, or none: a leaf on a page is taken; the closure of Put; edited, edit.
-/
namespace Go.Proofs.YthehkckdecckhaaGreatDoor
open Go.RowKit Go.Maps

theorem one_src (W : World) (x : Value) (t : TypeId) : ∀ j u, [x][j]? = some u → (W.alloc (.cells #[x] t)).cell? ((⟨W.heap.size, 0, none⟩ : Addr).add j) = some u := by
  intro j u hj
  match j, hj with
  | 0, hj => exact (World.cell?_alloc_at #[x] t _ 0 rfl).trans hj

theorem own_form {w : World} {base e size n : Nat} {v : Value} {xs : List Value} (h : w.ownsRow base e size v n xs) : ∃ a c, v = .slice a n c := by
  obtain ⟨_, ⟨rfl, rfl⟩ | ⟨g, cap, cur, rfl, _⟩⟩ := h
  · exact ⟨none, 0, rfl⟩
  · exact ⟨_, cap, rfl⟩

set_option maxRecDepth 100000 in
set_option maxHeartbeats 3200000 in
theorem take_page (t p a pg lvl : Nat) (d : Int) (hd : d = 0 ∨ d = 1) (T : TypeId) (v : Value) (D S : Stt) (hne : a ≠ t) (hpg : 0 < pg) (hdr : S.dropped = .slice none 0 0) (w : World) (hT : TreeAt w t p D S) (hP : PlaceAt w a pg lvl d (.iface T v)) :
    Calls Tryz.prog 88 #[.pointer (some ⟨t, 0, none⟩), .pointer (some ⟨a, 0, none⟩)] w fun e w' => e = .returned (.iface T v) ∧ PlaceAt w' a pg lvl 1 (.iface T v) ∧ (∃ dv, w'.ownsRow w.heap.size 3 1 dv 1 [.int .i64 (pg : Nat)] ∧ TreeAt w' t p D { S with dropped := dv }) ∧ Turn [t, a] w w' := by
  have HT := hide hT
  have HP := hide hP
  have hpz : ((pg : Int) == 0) = false := by rw [beq_eq_false_iff_ne]; omega
  clear hT hP
  go_enter Tryz.func88, Tryz.ntmps88
  go_wp2_with fail
  refine (nodeAt_some t a pg lvl d hd T v w HP.out).mono ?_
  rintro e w1 ⟨rfl, hP1, hT1⟩
  have HTr1 := hide (HT.out.turn hT1 (by simp; exact hne.symm))
  have h0 := hP1.c0
  have h10 := HTr1.out.now.c4
  rw [hdr] at h10
  have f10 := HTr1.out.fz 10
  have HP1 := hide hP1
  have HT1 := hide hT1
  have hal := hP1.lt
  have htl := HTr1.out.lt
  obtain ⟨i0, hi, hz0, hz1, hz2⟩ := info_parts info3
  clear hP1 hT1
  go_wp2_with fail
  go_region_law (refine step_append_grows rfl (.tmp 14) (.tmp 19) 54 rfl 3 i0 (.int .i64 0) 1 8 Tryz.underlying54 hi hz0 hz1 hz2 rfl (by decide) none 0 0 [] (by simp [Act.eval]) (by simp) rfl (by simp) ⟨w1.heap.size, 0, none⟩ 1 1 [.int .i64 (pg : Nat)] (by simp [Act.eval]) rfl (by exact one_src w1 _ _) (by simp [Value.oneCell']) (by omega) (by unfold maxLen; omega) (by omega) ?_; intro v' w6 h1 h2; obtain ⟨av, cv, rfl⟩ := own_form h1; have hT6 : Turn [] w1 w6 := ((Turn.refl [] w1).alloc _).drew.grown h2 (by simp); have hTr6 := HTr1.out.turn hT6 (by simp); have h106 := hTr6.now.c4; have f106 := hTr6.fz 10; have HR6 := hide h1; have HT6 := hide hT6; have HTr6 := hide hTr6; have hs6 := hT6.size; clear h1 h2 hT6 hTr6)
  all_goals
    go_wp2_with fail
    go_ret
    have hTs : Turn [t] w6 (w6.setCell ⟨t, 10, none⟩ (.slice av (0 + 1) cv)) := (Turn.refl [t] w6).setCell (List.mem_singleton.2 rfl) 10 _
    have hw := HT1.out.size
    refine ⟨rfl, ((HP1.out.turn HT6.out (by simp)).turn hTs (by simp; exact hne)), ⟨.slice av (0 + 1) cv, ?_, HTr6.out.setDropped _⟩, ((HT1.out.mono (by simp)).then HT6.out (by simp)).trans (hTs.mono (by simp))⟩
    obtain ⟨g1, g2 | ⟨g, cap', cur, e, hb', hg, rest⟩⟩ := HR6.out
    · exact ⟨g1, .inl g2⟩
    · refine ⟨g1, .inr ⟨g, cap', cur, e, by simp at hb'; omega, ?_, rest⟩⟩
      have hgt : g ≠ t := by
        intro e
        simp at hb'
        omega
      exact (hTs.block g (by
        rcases Nat.lt_or_ge g w6.heap.size with h | h
        · exact h
        · rw [Array.getElem?_eq_none h] at hg; cases hg) (by simp; exact hgt)).trans hg

/-- Keys of a leaf, and values, are not too long. -/
def Short (l : List (ByteArray × ByteArray)) : Prop := ∀ x ∈ l, x.1.size ≤ 48 ∧ x.2.size ≤ 120

set_option maxRecDepth 100000 in
set_option maxHeartbeats 1600000 in
theorem put1_any (b off cap kb : Nat) (l : List (ByteArray × ByteArray)) (k v : ByteArray) (hs : Rises (keysOf l)) (hlen : l.length ≤ 1000) (hcap : l.length ≤ cap ∧ cap ≤ 9223372036854775807) (w : World) (hK : KVsAt w (some ⟨b, off, none⟩) l) (h0 : w.cell? ⟨kb, 0, none⟩ = some (.string k)) (h1 : w.cell? ⟨kb, 1, none⟩ = some (.string v)) :
    Calls Tryz.prog 38 #[.slice (some ⟨b, off, none⟩) l.length cap, .pointer (some ⟨kb, 0, none⟩)] w fun e w' => ∃ i f r, e = .returned r ∧ IsPos (keysOf l) k i ∧ (f = true ↔ Stands l k i) ∧ w'.ownsRow w.heap.size 42 2 r (putL l i f (k, v)).length (flat (kvCells (putL l i f (k, v)))) ∧ Turn [] w w' := by
  have HC := hide (lput_any b off cap l k v hs hlen hcap w hK)
  clear hK hs
  go_enter Tryz.func38, Tryz.ntmps38
  go_wp2_with fail
  refine HC.out.mono ?_
  rintro e w1 ⟨i, f, r, rfl, g1, g2, g3, g4⟩
  have G1 := hide g1
  have G2 := hide g2
  have G3 := hide g3
  have G4 := hide g4
  clear g1 g2 g3 g4
  go_wp2_with fail
  go_ret
  exact ⟨i, f, r, rfl, G1.out, G2.out, G3.out, G4.out⟩

/-- A leaf in its place: in block a, its row in block bb. -/
structure LeafAt (w : World) (a pg : Nat) (d : Int) (bb off cap : Nat) (l : List (ByteArray × ByteArray)) : Prop where
  place : PlaceAt w a pg 1 d (.iface 73 (.slice (some ⟨bb, off, none⟩) l.length cap))
  d01 : d = 0 ∨ d = 1
  kv : KVsAt w (some ⟨bb, off, none⟩) l
  cap : l.length ≤ cap ∧ cap ≤ 9223372036854775807

/-- What a taken leaf leaves of the state. -/
def Taken (w w' : World) (t p pg : Nat) (D S : Stt) (S' : Stt) : Prop :=
  S'.root = S.root ∧ S'.keys = S.keys ∧ S'.changed = S.changed ∧ TreeAt w' t p D S' ∧
    ((pg = 0 ∧ S'.fresh + 1 = S.fresh ∧ S'.dropped = S.dropped) ∨ (0 < pg ∧ S'.fresh = S.fresh ∧ w'.ownsRow w.heap.size 3 1 S'.dropped 1 [.int .i64 (pg : Nat)]))

theorem take_leaf (t p a pg : Nat) (d : Int) (bb off cap : Nat) (l : List (ByteArray × ByteArray)) (D S : Stt) (hne : a ≠ t) (hbb : l ≠ [] → bb ≠ t ∧ bb ≠ a) (hfr : S.fresh ≤ 1000) (h0 : pg = 0 → 1 ≤ S.fresh) (h1 : 0 < pg → S.dropped = .slice none 0 0) (w : World) (hT : TreeAt w t p D S) (hL : LeafAt w a pg d bb off cap l) :
    Calls Tryz.prog 88 #[.pointer (some ⟨t, 0, none⟩), .pointer (some ⟨a, 0, none⟩)] w fun e w' => e = .returned (.iface 73 (.slice (some ⟨bb, off, none⟩) l.length cap)) ∧ LeafAt w' a pg 1 bb off cap l ∧ (∃ S', Taken w w' t p pg D S S') ∧ Turn [t, a] w w' := by
  have hkv : ∀ w', Turn [t, a] w w' → KVsAt w' (some ⟨bb, off, none⟩) l := fun w' hT' => hL.kv.turn hT' (fun x hl hx => by
    obtain rfl := Option.some.inj hx
    have := hbb hl
    simp
    omega)
  by_cases hp : pg = 0
  · subst hp
    refine (take_fresh t p a 1 d hL.d01 73 _ D S hne ⟨h0 rfl, hfr⟩ w hT hL.place).mono ?_
    rintro e w' ⟨rfl, hP', hT', hTn⟩
    have := h0 rfl
    exact ⟨rfl, ⟨hP', .inr rfl, hkv w' hTn, hL.cap⟩, ⟨{ S with fresh := S.fresh - 1 }, rfl, rfl, rfl, hT', .inl ⟨rfl, by show S.fresh - 1 + 1 = S.fresh; omega, rfl⟩⟩, hTn⟩
  · refine (take_page t p a pg 1 d hL.d01 73 _ D S hne (by omega) (h1 (by omega)) w hT hL.place).mono ?_
    rintro e w' ⟨rfl, hP', ⟨dv, hO, hT'⟩, hTn⟩
    exact ⟨rfl, ⟨hP', .inr rfl, hkv w' hTn, hL.cap⟩, ⟨{ S with dropped := dv }, rfl, rfl, rfl, hT', .inr ⟨by omega, rfl, hO⟩⟩, hTn⟩
end Go.Proofs.YthehkckdecckhaaGreatDoor

namespace Go.Proofs.YthehkckdecckhaaGreatDoor
open Go.RowKit Go.Maps

/-- A new leaf's content: l with k put, in block g. -/
structure NewRow (w w' : World) (l : List (ByteArray × ByteArray)) (k v : ByteArray) (i : Nat) (f : Bool) (g cap : Nat) : Prop where
  pos : IsPos (keysOf l) k i
  is : f = true ↔ Stands l k i
  kv : KVsAt w' (some ⟨g, 0, none⟩) (putL l i f (k, v))
  cap : (putL l i f (k, v)).length ≤ cap ∧ cap ≤ 9223372036854775807
  new : w.heap.size ≤ g
  lt : g < w'.heap.size

theorem NewRow.of {w0 w w' : World} {l : List (ByteArray × ByteArray)} {k v : ByteArray} {i : Nat} {f : Bool} {r : Value} (h1 : IsPos (keysOf l) k i) (h2 : f = true ↔ Stands l k i) (h3 : w'.ownsRow w.heap.size 42 2 r (putL l i f (k, v)).length (flat (kvCells (putL l i f (k, v))))) (h4 : w0.heap.size ≤ w.heap.size) : ∃ g cap, r = .slice (some ⟨g, 0, none⟩) (putL l i f (k, v)).length cap ∧ NewRow w0 w' l k v i f g cap := by
  have hlen : 0 < (putL l i f (k, v)).length := by unfold putL; simp; omega
  have hlt := h3.lt
  obtain ⟨a, cap, e, _, _, hp, _⟩ := own_pairs h3
  obtain ⟨_, ⟨rfl, h0⟩ | ⟨g, cap', cur, rfl, hb, hg, hnc, hm, _⟩⟩ := h3
  · omega
  · rw [kvCells_length] at e
    injection e with e1 e2 e3
    subst e1 e3
    obtain ⟨hl1, hl2⟩ := hlt g rfl
    unfold maxLen at hm
    exact ⟨g, cap', rfl, h1, h2, hp.kvs, ⟨hnc, by omega⟩, by omega, hl2⟩

set_option maxRecDepth 100000 in
set_option maxHeartbeats 3200000 in
theorem edited_nil (t kb : Nat) (k v : ByteArray) (w : World) (h0 : w.cell? ⟨kb, 0, none⟩ = some (.string k)) (h1 : w.cell? ⟨kb, 1, none⟩ = some (.string v)) :
    Calls Tryz.prog 57 #[.pointer (some ⟨t, 0, none⟩), .pointer none, .string k, .func (.func 38) #[] #[.pointer (some ⟨kb, 0, none⟩)]] w fun e w' => ∃ i f g cap, e = .returned (.iface 73 (.slice (some ⟨g, 0, none⟩) (putL [] i f (k, v)).length cap)) ∧ NewRow w w' [] k v i f g cap ∧ Turn [] w w' := by
  have hta := ta_ll
  have htb := ta_lb
  have H0 := hide h0
  have H1 := hide h1
  clear h0 h1
  go_enter Tryz.func57, Tryz.ntmps57
  go_wp2_with fail
  refine (take_nil t w).mono ?_
  rintro e w1 ⟨b, rfl, hT1⟩
  have h01 := (hT1.cell (p := ⟨kb, 0, none⟩) (lt_of_cell H0.out) (by simp)).trans H0.out
  have h11 := (hT1.cell (p := ⟨kb, 1, none⟩) (lt_of_cell H1.out) (by simp)).trans H1.out
  have HC := hide (put1_any b 0 0 kb [] k v (by simp [Rises, keysOf]) (by simp) (by simp) w1 (.inl rfl) h01 h11)
  have HT1 := hide hT1
  clear h01 h11 hT1
  go_wp2_with fail
  refine HC.out.mono ?_
  rintro e w2 ⟨i, f, r, rfl, g1, g2, g3, g4⟩
  obtain ⟨g, cap, rfl, hN⟩ := NewRow.of (w0 := w) g1 g2 g3 HT1.out.size
  have HN := hide hN
  have HT2 := hide g4
  clear g1 g2 g3 g4 hN
  go_wp2_with fail
  go_ret
  exact ⟨i, f, g, cap, rfl, HN.out, HT1.out.then HT2.out (by simp)⟩

set_option maxRecDepth 100000 in
set_option maxHeartbeats 3200000 in
theorem edited_leaf (t p a pg : Nat) (d : Int) (bb off cap : Nat) (l : List (ByteArray × ByteArray)) (D S : Stt) (hne : a ≠ t) (hbb : l ≠ [] → bb ≠ t ∧ bb ≠ a) (hfr : S.fresh ≤ 1000) (hp0 : pg = 0 → 1 ≤ S.fresh) (hp1 : 0 < pg → S.dropped = .slice none 0 0) (hs : Rises (keysOf l)) (hlen : l.length ≤ 1000)
    (kb : Nat) (hkb : kb ≠ t ∧ kb ≠ a) (k v : ByteArray) (w : World) (hT : TreeAt w t p D S) (hL : LeafAt w a pg d bb off cap l) (h0 : w.cell? ⟨kb, 0, none⟩ = some (.string k)) (h1 : w.cell? ⟨kb, 1, none⟩ = some (.string v)) :
    Calls Tryz.prog 57 #[.pointer (some ⟨t, 0, none⟩), .pointer (some ⟨a, 0, none⟩), .string k, .func (.func 38) #[] #[.pointer (some ⟨kb, 0, none⟩)]] w fun e w' => ∃ i f g cap', e = .returned (.iface 73 (.slice (some ⟨g, 0, none⟩) (putL l i f (k, v)).length cap')) ∧ NewRow w w' l k v i f g cap' ∧ LeafAt w' a pg 1 bb off cap l ∧ (∃ S', Taken w w' t p pg D S S') ∧ Turn [t, a] w w' := by
  have hta := ta_ll
  have htb := ta_lb
  have H0 := hide h0
  have H1 := hide h1
  have HC0 := hide (take_leaf t p a pg d bb off cap l D S hne hbb hfr hp0 hp1 w hT hL)
  have HS := hide hs
  clear h0 h1 hT hL hs
  go_enter Tryz.func57, Tryz.ntmps57
  go_wp2_with fail
  refine HC0.out.mono ?_
  rintro e w1 ⟨rfl, hL1, ⟨S', hS'⟩, hT1⟩
  have h01 := (hT1.cell (p := ⟨kb, 0, none⟩) (lt_of_cell H0.out) (by simp; exact hkb)).trans H0.out
  have h11 := (hT1.cell (p := ⟨kb, 1, none⟩) (lt_of_cell H1.out) (by simp; exact hkb)).trans H1.out
  have HC := hide (put1_any bb off cap kb l k v HS.out hlen hL1.cap w1 hL1.kv h01 h11)
  have HT1 := hide hT1
  have HL1 := hide hL1
  have HS' := hide hS'
  clear h01 h11 hT1 hL1 hS'
  go_wp2_with fail
  refine HC.out.mono ?_
  rintro e w2 ⟨i, f, r, rfl, g1, g2, g3, g4⟩
  obtain ⟨g, cap', rfl, hN⟩ := NewRow.of (w0 := w) g1 g2 g3 HT1.out.size
  have HN := hide hN
  have HT2 := hide g4
  clear g1 g2 g3 g4 hN
  go_wp2_with fail
  go_ret
  obtain ⟨e1, e2, e3, e4, e5⟩ := HS'.out
  refine ⟨i, f, g, cap', rfl, HN.out, ⟨HL1.out.place.turn HT2.out (by simp), HL1.out.d01, HL1.out.kv.turn0 HT2.out, HL1.out.cap⟩, ⟨S', e1, e2, e3, e4.turn HT2.out (by simp), ?_⟩, HT1.out.then HT2.out (by simp)⟩
  rcases e5 with e5 | ⟨e6, e7, e8⟩
  · exact .inl e5
  · refine .inr ⟨e6, e7, ?_⟩
    obtain ⟨k1, k2 | ⟨g', c', cur, k3, k4, k5, k6⟩⟩ := e8
    · exact ⟨k1, .inl k2⟩
    · exact ⟨k1, .inr ⟨g', c', cur, k3, k4, (HT2.out.block g' (by
        rcases Nat.lt_or_ge g' w1.heap.size with h | h
        · exact h
        · rw [Array.getElem?_eq_none h] at k5; cases k5) (by simp)).trans k5, k6⟩⟩

set_option maxRecDepth 100000 in
set_option maxHeartbeats 1600000 in
theorem height_nil (t p : Nat) (D S : Stt) (hr : S.root = none) (w : World) (hT : TreeAt w t p D S) : Calls Tryz.prog 28 #[.pointer (some ⟨t, 0, none⟩)] w fun e w' => e = .returned (.int .i64 0) ∧ w' = w := by
  have h6 := hT.now.c0
  rw [hr] at h6
  have h6' : w.cell? ⟨t, 6, none⟩ = some (.pointer none) := h6
  clear h6 hT
  go_enter Tryz.func28, Tryz.ntmps28
  go_wp2_with fail
  go_ret
  exact ⟨rfl, rfl⟩

set_option maxRecDepth 100000 in
set_option maxHeartbeats 1600000 in
theorem height_some (t p a lvl : Nat) (D S : Stt) (hr : S.root = some a) (w : World) (hT : TreeAt w t p D S) (h1 : w.cell? ⟨a, 1, none⟩ = some (.int .i64 (lvl : Nat))) : Calls Tryz.prog 28 #[.pointer (some ⟨t, 0, none⟩)] w fun e w' => e = .returned (.int .i64 (lvl : Nat)) ∧ w' = w := by
  have h6 := hT.now.c0
  rw [hr] at h6
  have h6' : w.cell? ⟨t, 6, none⟩ = some (.pointer (some ⟨a, 0, none⟩)) := h6
  clear h6 hT
  go_enter Tryz.func28, Tryz.ntmps28
  go_wp2_with fail
  go_ret
  exact ⟨rfl, rfl⟩
end Go.Proofs.YthehkckdecckhaaGreatDoor

/-
  edit, leafOf, Get on a tree that is one leaf, or none.
-/
namespace Go.Proofs.YthehkckdecckhaaGreatDoor
open Go.RowKit Go.Maps

theorem max1 (_w : World) : True := trivial

theorem single (k v : ByteArray) (i : Nat) (f : Bool) (_h : f = true ↔ Stands [] k i) : putL [] i f (k, v) = [(k, v)] := by
  unfold putL
  simp

set_option maxRecDepth 100000 in
set_option maxHeartbeats 3200000 in
theorem edit_nil (t p kb : Nat) (D S : Stt) (hr : S.root = none) (hfr : S.fresh ≤ 500) (k v : ByteArray) (hk : k.size ≤ 48) (hv : v.size ≤ 120) (w : World) (hT : TreeAt w t p D S) (h0 : w.cell? ⟨kb, 0, none⟩ = some (.string k)) (h1 : w.cell? ⟨kb, 1, none⟩ = some (.string v)) :
    Calls Tryz.prog 37 #[.pointer (some ⟨t, 0, none⟩), .string k, .func (.func 38) #[] #[.pointer (some ⟨kb, 0, none⟩)]] w fun e w' => e = .returned (.tuple #[]) ∧ ∃ a g cap, w.heap.size ≤ a ∧ w.heap.size ≤ g ∧ g < a ∧ LeafAt w' a 0 0 g 0 cap [(k, v)] ∧ TreeAt w' t p D { S with root := some a, fresh := S.fresh + 1 } ∧ Turn [t] w w' := by
  have HT := hide hT
  have h6 : w.cell? ⟨t, 6, none⟩ = some (.pointer none) := by have := hT.now.c0; rw [hr] at this; exact this
  have HC := hide (edited_nil t kb k v w h0 h1)
  have htl := hT.lt
  clear hT h0 h1
  go_enter Tryz.func37, Tryz.ntmps37
  go_wp2_with fail
  refine (height_nil t p D S hr w HT.out).mono ?_
  rintro e w1 ⟨rfl, rfl⟩
  go_wp2_with fail
  refine HC.out.mono ?_
  rintro e w2 ⟨i, f, g, cap, rfl, hN, hT2⟩
  have hsg := single k v i f hN.is
  have hlen : (putL [] i f (k, v)).length = 1 := by rw [hsg]; rfl
  have hkv := hN.kv
  have hcap := hN.cap
  rw [hsg] at hkv hcap
  have HKv := hide hkv
  have HTr2 := hide (HT.out.turn hT2 (by simp))
  have HT2 := hide hT2
  have hg := hN.new
  have hgl := hN.lt
  rw [hlen]
  have HR := hide (rootOf_leaf t p D S g 0 cap [(k, v)] 1 (by simp) (by omega) (by simp) (by simp; omega) (by unfold lsize lsizes kvSize sumN; simp; omega) w2 HTr2.out hkv)
  clear hN hT2 hkv hsg hlen HC
  go_wp2_with fail
  refine HR.out.mono ?_
  rintro e w3 ⟨a, rfl, ha, hP3, hTr3, hT3⟩
  have HP3 := hide hP3
  have HTr3 := hide hTr3
  have HT3 := hide hT3
  have h63 := hTr3.now.c0
  have f63 := hTr3.fz 6
  have hs2 := HT2.out.size
  clear hP3 hTr3 hT3
  go_wp2_with fail
  go_end0
  have hTs : Turn [t] w3 (w3.setCell ⟨t, 6, none⟩ (.pointer (some ⟨a, 0, none⟩))) := (Turn.refl [t] w3).setCell (List.mem_singleton.2 rfl) 6 _
  refine ⟨rfl, a, g, cap, by omega, hg, by omega, ⟨HP3.out.turn hTs (by simp; omega), .inl rfl, (HKv.out.turn HT3.out (fun x _ hx => by obtain rfl := Option.some.inj hx; simp; omega)).turn hTs (fun x _ hx => by obtain rfl := Option.some.inj hx; simp; omega), hcap⟩, HTr3.out.setRoot (some a), ((show Turn [t] w1 w2 from ⟨HT2.out.os, HT2.out.tape, HT2.out.output, HT2.out.size, fun i hi _ => HT2.out.block i hi (by simp)⟩).then HT3.out (by simp)).trans hTs⟩

set_option maxRecDepth 100000 in
set_option maxHeartbeats 3200000 in
theorem leafOf_nil (t p : Nat) (D S : Stt) (hr : S.root = none) (key : ByteArray) (w : World) (hT : TreeAt w t p D S) :
    Calls Tryz.prog 42 #[.pointer (some ⟨t, 0, none⟩), .string key] w fun e w' => ∃ b, e = .returned (.slice (some ⟨b, 0, none⟩) 0 0) ∧ Turn [] w w' := by
  have h6 : w.cell? ⟨t, 6, none⟩ = some (.pointer none) := by have := hT.now.c0; rw [hr] at this; exact this
  have hta := ta_ll
  have htb := ta_lb
  clear hT
  go_enter Tryz.func42, Tryz.ntmps42
  go_wp2_with fail
  go_loopw [5] (fun x wr => x = .pointer none ∧ wr = w) (fun _ _ => 0)
  case atStart => exact ⟨rfl, rfl⟩
  case round =>
    obtain ⟨rfl, rfl⟩ := hrel
    go_wp2_with fail
    refine (nodeAt_nil t wr).mono ?_
    rintro e w1 ⟨b, rfl, hT1⟩
    go_wp2_with fail
    go_ret
    exact ⟨b, rfl, hT1⟩

set_option maxRecDepth 100000 in
set_option maxHeartbeats 3200000 in
theorem leafOf_leaf (t p a pg : Nat) (d : Int) (bb off cap : Nat) (l : List (ByteArray × ByteArray)) (D S : Stt) (hr : S.root = some a) (hbb : l ≠ [] → bb ≠ a) (key : ByteArray) (w : World) (hT : TreeAt w t p D S) (hL : LeafAt w a pg d bb off cap l) :
    Calls Tryz.prog 42 #[.pointer (some ⟨t, 0, none⟩), .string key] w fun e w' => e = .returned (.slice (some ⟨bb, off, none⟩) l.length cap) ∧ LeafAt w' a pg 1 bb off cap l ∧ Turn [a] w w' := by
  have h6 : w.cell? ⟨t, 6, none⟩ = some (.pointer (some ⟨a, 0, none⟩)) := by have := hT.now.c0; rw [hr] at this; exact this
  have hta := ta_ll
  have htb := ta_lb
  have HL := hide hL
  clear hT hL
  go_enter Tryz.func42, Tryz.ntmps42
  go_wp2_with fail
  go_loopw [5] (fun x wr => x = .pointer (some ⟨a, 0, none⟩) ∧ wr = w) (fun _ _ => 0)
  case atStart => exact ⟨rfl, rfl⟩
  case round =>
    obtain ⟨rfl, rfl⟩ := hrel
    go_wp2_with fail
    refine (nodeAt_some t a pg 1 d HL.out.d01 73 _ wr HL.out.place).mono ?_
    rintro e w1 ⟨rfl, hP1, hT1⟩
    have HL1 : Hid (LeafAt w1 a pg 1 bb off cap l) := ⟨hP1, .inr rfl, HL.out.kv.turn hT1 (fun x hl hx => by obtain rfl := Option.some.inj hx; simp; exact hbb hl), HL.out.cap⟩
    clear hP1
    go_wp2_with fail
    go_ret
    exact ⟨rfl, HL1.out, hT1⟩

/-- What Get answers. -/
def Got (l : List (ByteArray × ByteArray)) (key val : ByteArray) (f : Bool) : Prop :=
  (f = true ∧ ∃ i, ∃ h : i < l.length, l[i].1 = key ∧ l[i].2 = val) ∨ (f = false ∧ val = ⟨#[]⟩ ∧ ∀ x ∈ l, x.1 ≠ key)

theorem not_there {l : List (ByteArray × ByteArray)} {key : ByteArray} {i : Nat} (hs : Rises (keysOf l)) (hp : IsPos (keysOf l) key i) (hn : ¬ Stands l key i) : ∀ x ∈ l, x.1 ≠ key := by
  intro x hx e
  obtain ⟨m, hm, rfl⟩ := List.getElem_of_mem hx
  have hmk : m < (keysOf l).length := by rw [keysOf_length]; exact hm
  have him : i ≤ m := by
    rcases Nat.lt_or_ge m i with h | h
    · have := hp.2.1 m hmk h
      rw [keysOf_get hm, e] at this
      exact absurd this (klt_irrefl _)
    · exact h
  by_cases e2 : i = m
  · subst e2
    exact hn ⟨hm, e⟩
  · have h1 := hs.get (i := i) (j := m) (by omega) hmk
    have h2 := hp.2.2 i (by omega) (Nat.le_refl _)
    rw [keysOf_get hm, e] at h1
    exact h2 h1

set_option maxRecDepth 100000 in
set_option maxHeartbeats 3200000 in
theorem get_row (R : World → Prop) (l : List (ByteArray × ByteArray)) (hs : Rises (keysOf l)) (hlen : l.length ≤ 1000) (t : Nat) (key : ByteArray) (w : World) (hC : Calls Tryz.prog 42 #[.pointer (some ⟨t, 0, none⟩), .string key] w fun e w' => ∃ bb off cap, e = .returned (.slice (some ⟨bb, off, none⟩) l.length cap) ∧ KVsAt w' (some ⟨bb, off, none⟩) l ∧ R w') :
    Calls Tryz.prog 18 #[.pointer (some ⟨t, 0, none⟩), .string key] w fun e w' => ∃ val f w1, e = .returned (.tuple #[.string val, .bool f]) ∧ Got l key val f ∧ R w1 ∧ Turn [] w1 w' := by
  have HC := hide hC
  have HS := hide hs
  clear hC hs
  go_enter Tryz.func18, Tryz.ntmps18
  go_wp2_with fail
  refine HC.out.mono ?_
  rintro e w2 ⟨bb, off, cap, rfl, hK, hR⟩
  have HK := hide hK
  have HRw := hide hR
  clear hK hR
  go_wp2_with fail
  refine (lfind_any (some ⟨bb, off, none⟩) cap l key HS.out (by omega) w2 HK.out).mono ?_
  rintro e w3 ⟨i, f, rfl, h1, h2, hT3⟩
  have H1 := hide h1
  have H2 := hide h2
  have HT3 := hide hT3
  have HK3 := hide (HK.out.turn0 hT3)
  clear h1 h2 hT3
  cases f with
  | false =>
    go_wp2_with fail
    refine bodyPost_ret (v := .tuple #[.string ⟨#[]⟩, .bool false]) (by simp [results, Tryz.results18, go_sem]) rfl ⟨_, false, w2, rfl, .inr ⟨rfl, rfl, not_there HS.out H1.out (fun e => by have := H2.out.2 e; cases this)⟩, HRw.out, HT3.out⟩
  | true =>
    obtain ⟨hil, hik⟩ := H2.out.1 rfl
    have HIk := hide hik
    obtain ⟨b', off', e', hc, hd⟩ := HK3.out.at hil
    obtain ⟨rfl, rfl⟩ : bb = b' ∧ off = off' := by
      have := Option.some.inj e'
      exact ⟨congrArg Addr.block this, congrArg Addr.off this⟩
    clear hik e'
    go_wp2_with fail
    refine bodyPost_ret (v := .tuple #[.string l[i].2, .bool true]) (by simp [results, Tryz.results18, go_sem]) rfl ⟨_, true, w2, rfl, .inl ⟨rfl, i, hil, HIk.out, rfl⟩, HRw.out, HT3.out⟩

theorem get_nil (t p : Nat) (D S : Stt) (hr : S.root = none) (key : ByteArray) (w : World) (hT : TreeAt w t p D S) :
    Calls Tryz.prog 18 #[.pointer (some ⟨t, 0, none⟩), .string key] w fun e w' => e = .returned (.tuple #[.string ⟨#[]⟩, .bool false]) ∧ Turn [] w w' := by
  refine (get_row (fun w' => Turn [] w w') [] (by simp [Rises, keysOf]) (by simp) t key w ((leafOf_nil t p D S hr key w hT).mono ?_)).mono ?_
  · rintro e w' ⟨b, rfl, hT'⟩
    exact ⟨b, 0, 0, rfl, .inl rfl, hT'⟩
  · rintro e w' ⟨val, f, w1, rfl, hG, hR, hT'⟩
    rcases hG with ⟨_, i, hi, _⟩ | ⟨rfl, rfl, _⟩
    · simp at hi
    · exact ⟨rfl, hR.then hT' (by simp)⟩

theorem get_leaf (t p a pg : Nat) (d : Int) (bb off cap : Nat) (l : List (ByteArray × ByteArray)) (D S : Stt) (hr : S.root = some a) (hbb : l ≠ [] → bb ≠ a) (hs : Rises (keysOf l)) (hlen : l.length ≤ 1000) (key : ByteArray) (w : World) (hT : TreeAt w t p D S) (hL : LeafAt w a pg d bb off cap l) :
    Calls Tryz.prog 18 #[.pointer (some ⟨t, 0, none⟩), .string key] w fun e w' => ∃ val f, e = .returned (.tuple #[.string val, .bool f]) ∧ Got l key val f ∧ LeafAt w' a pg 1 bb off cap l ∧ Turn [a] w w' := by
  refine (get_row (fun w' => LeafAt w' a pg 1 bb off cap l ∧ Turn [a] w w') l hs hlen t key w ((leafOf_leaf t p a pg d bb off cap l D S hr hbb key w hT hL).mono ?_)).mono ?_
  · rintro e w' ⟨rfl, hL', hT'⟩
    exact ⟨bb, off, cap, rfl, hL'.kv, hL', hT'⟩
  · rintro e w' ⟨val, f, w1, rfl, hG, ⟨hL1, hT1⟩, hT'⟩
    exact ⟨val, f, rfl, hG, ⟨hL1.place.turn hT' (by simp), hL1.d01, hL1.kv.turn0 hT', hL1.cap⟩, hT1.then hT' (by simp)⟩
end Go.Proofs.YthehkckdecckhaaGreatDoor

namespace Go.Proofs.YthehkckdecckhaaGreatDoor
open Go.RowKit Go.Maps

theorem PAt.turnX {X : List Nat} {w w' : World} {p b m sm rb : Nat} {s : St} {q : Pg} (h : PAt w p b m sm rb s q) (hT : Turn X w w') (hX : ∀ x ∈ X, x ≠ 1 ∧ x ≠ p ∧ x ≠ b ∧ x ≠ m ∧ x ≠ sm ∧ x ≠ rb) : PAt w' p b m sm rb s q :=
  h.turn hT (fun hm => (hX 1 hm).1 rfl) (fun hm => (hX p hm).2.1 rfl) (fun hm => (hX b hm).2.2.1 rfl) (fun hm => (hX m hm).2.2.2.1 rfl) (fun hm => (hX sm hm).2.2.2.2.1 rfl) (fun hm => (hX rb hm).2.2.2.2.2 rfl)

theorem toList_empty (k : ByteArray) : k.toList.isEmpty = decide (k.size = 0) := by
  rw [Go.ByteArray.toList_eq]
  have hs : k.size = k.data.toList.length := by rw [Array.length_toList]; rfl
  rw [hs]
  cases k.data.toList <;> simp

set_option maxRecDepth 100000 in
set_option maxHeartbeats 3200000 in
/-- A key, or a value, that may not be. -/
theorem put_bad (t p b m sm rb : Nat) (s : St) (q : Pg) (D S : Stt) (hd : s.dead = false) (hq : q.dead = false) (k v : ByteArray) (hbad : k.size = 0 ∨ 48 < k.size ∨ 120 < v.size) (hkl : k.size ≤ 1000000) (hvl : v.size ≤ 1000000) (w : World) (hA : PAt w p b m sm rb s q) (hT : TreeAt w t p D S) :
    Calls Tryz.prog 12 #[.pointer (some ⟨t, 0, none⟩), .string k, .string v] w fun e w' => e = .returned (.int .i64 (if k.size = 0 ∨ 48 < k.size then 1 else 5)) ∧ (∃ r, PAt w' p b m sm rb s { q with rd := r }) ∧ Turn [p] w w' := by
  have HC := hide (tdead_any t p b m sm rb s q D S hd hq w hA hT)
  clear hA hT
  have hk0 := toList_empty k
  by_cases h1 : k.size = 0
  · rw [if_pos (.inl h1)]
    rw [decide_eq_true h1] at hk0
    clear hbad
    go_enter Tryz.func12, Tryz.ntmps12
    go_wp2_with fail
    refine HC.out.mono ?_
    rintro e w1 ⟨rfl, hA1, hT1⟩
    have HA1 := hide hA1
    clear hA1
    go_wp2_with fail
    go_ret
    exact ⟨rfl, HA1.out, hT1⟩
  · rw [decide_eq_false h1] at hk0
    by_cases h2 : 48 < k.size
    · rw [if_pos (.inr h2)]
      clear hbad
      go_enter Tryz.func12, Tryz.ntmps12
      go_wp2_with fail
      refine HC.out.mono ?_
      rintro e w1 ⟨rfl, hA1, hT1⟩
      have HA1 := hide hA1
      clear hA1
      go_wp2_with fail
      go_ret
      exact ⟨rfl, HA1.out, hT1⟩
    · have h3 : 120 < v.size := by omega
      rw [if_neg (by omega)]
      clear hbad
      go_enter Tryz.func12, Tryz.ntmps12
      go_wp2_with fail
      refine HC.out.mono ?_
      rintro e w1 ⟨rfl, hA1, hT1⟩
      have HA1 := hide hA1
      clear hA1
      go_wp2_with fail
      go_ret
      exact ⟨rfl, HA1.out, hT1⟩

/-- The tree's block is none of the pager's. -/
structure Off (t p b m sm rb : Nat) : Prop where
  one : t ≠ 1
  p : t ≠ p
  b : t ≠ b
  m : t ≠ m
  sm : t ≠ sm
  rb : t ≠ rb

set_option maxRecDepth 100000 in
set_option maxHeartbeats 3200000 in
theorem put_nil (t p b m sm rb : Nat) (s : St) (q : Pg) (D S : Stt) (hd : s.dead = false) (hq : q.dead = false) (hO : Off t p b m sm rb) (hr : S.root = none) (hfr : S.fresh ≤ 500) (hks : S.keys ≤ 1000) (hl : S.fresh ≤ q.left s.n) (k v : ByteArray) (hk1 : 0 < k.size) (hk : k.size ≤ 48) (hv : v.size ≤ 120) (w : World) (hA : PAt w p b m sm rb s q) (hT : TreeAt w t p D S) :
    Calls Tryz.prog 12 #[.pointer (some ⟨t, 0, none⟩), .string k, .string v] w fun e w' => e = .returned (.int .i64 0) ∧ ∃ a g cap, w.heap.size ≤ a ∧ w.heap.size ≤ g ∧ g < a ∧ LeafAt w' a 0 0 g 0 cap [(k, v)] ∧ TreeAt w' t p D { S with root := some a, keys := S.keys + 1, changed := true, fresh := S.fresh + 1 } ∧ PAt w' p b m sm rb s { q with rd := true } ∧ Turn [t, p] w w' := by
  have HC := hide (tdead_any t p b m sm rb s q D S hd hq w hA hT)
  have hk0 : k.toList.isEmpty = false := by rw [toList_empty]; exact decide_eq_false (by omega)
  have HT := hide hT
  have hlle := left_le q s.n
  have htl := hT.lt
  clear hA hT
  go_enter Tryz.func12, Tryz.ntmps12
  go_wp2_with fail
  refine HC.out.mono ?_
  rintro e w1 ⟨rfl, ⟨r, hA1⟩, hT1⟩
  have HTr1 := hide (HT.out.turn hT1 (by simp; exact hO.p))
  have HLf := hide (tleft_any t p b m sm rb s { q with rd := r } D S hd hO.p (by omega) w1 hA1 HTr1.out)
  have HT1 := hide hT1
  change Hid (Calls Tryz.prog 31 _ w1 fun e w' => e = .returned (.int .i64 ((q.left s.n : Nat) - (S.fresh : Nat) : Int)) ∧ PAt w' p b m sm rb s { q with rd := true } ∧ Turn [p] w1 w') at HLf
  generalize q.left s.n = lf at *
  clear hA1 hT1
  go_wp2_with fail
  refine HLf.out.mono ?_
  rintro e w2 ⟨rfl, hA2, hT2⟩
  have HTr2 := hide (HTr1.out.turn hT2 (by simp; exact hO.p))
  have HA2 := hide hA2
  have HT2 := hide (HT1.out.trans hT2)
  have h8 := HTr2.out.now.c2
  have f8 := HTr2.out.fz 8
  have hnl : ¬ ((lf : Int) - (S.fresh : Int) < 0) := by omega
  clear hA2 hT2
  go_wp2_with fail
  have hTs3 : Turn [t] w2 (w2.setCell ⟨t, 8, none⟩ (.bool true)) := (Turn.refl [t] w2).setCell (List.mem_singleton.2 rfl) 8 _
  have HTr3 := hide (HTr2.out.setChanged true)
  have HT3 : Hid (Turn [t, p] w (w2.setCell ⟨t, 8, none⟩ (.bool true))) := (HT2.out.mono (by simp)).trans (hTs3.mono (by simp))
  have HA3 := hide (HA2.out.turnX hTs3 (by simp; exact ⟨hO.one, hO.p, hO.b, hO.m, hO.sm, hO.rb⟩))
  generalize w2.setCell ⟨t, 8, none⟩ (.bool true) = w3 at *
  clear hTs3 h8 f8
  refine (get_nil t p D { S with changed := true } hr k w3 HTr3.out).mono ?_
  rintro e w4 ⟨rfl, hT4⟩
  have HTr4 := hide (HTr3.out.turn hT4 (by simp))
  have HA4 := hide (HA3.out.turn0 hT4)
  have HT4 := hide (HT3.out.then hT4 (by simp))
  have h7 := HTr4.out.now.c1
  have f7 := HTr4.out.fz 7
  clear hT4
  go_wp2_with fail
  have hTs5 : Turn [t] w4 (w4.setCell ⟨t, 7, none⟩ (.int .i64 ((S.keys : Int) + 1))) := (Turn.refl [t] w4).setCell (List.mem_singleton.2 rfl) 7 _
  have hTr5 := HTr4.out.setKeys (S.keys + 1)
  rw [show ((S.keys + 1 : Nat) : Int) = (S.keys : Int) + 1 by omega] at hTr5
  have HTr5 := hide hTr5
  have HT5 : Hid (Turn [t, p] w (w4.setCell ⟨t, 7, none⟩ (.int .i64 ((S.keys : Int) + 1)))) := HT4.out.trans (hTs5.mono (by simp))
  have HA5 := hide (HA4.out.turnX hTs5 (by simp; exact ⟨hO.one, hO.p, hO.b, hO.m, hO.sm, hO.rb⟩))
  generalize w4.setCell ⟨t, 7, none⟩ (.int .i64 ((S.keys : Int) + 1)) = w5 at *
  clear hTs5 h7 f7 hTr5
  refine (sclone_any k w5 (by omega)).mono ?_
  rintro e w6 ⟨rfl, hT6⟩
  have HTr6 := hide (HTr5.out.turn hT6 (by simp))
  have HA6 := hide (HA5.out.turn0 hT6)
  have HT6 := hide (HT5.out.then hT6 (by simp))
  clear hT6
  go_wp2_with fail
  refine (sclone_any v w6 (by omega)).mono ?_
  rintro e w7 ⟨rfl, hT7⟩
  have hT78 : Turn [] w6 (w7.alloc (.cells #[.string k, .string v] 42)) := hT7.alloc _
  have HTr8 := hide (HTr6.out.turn hT78 (by simp))
  have HA8 := hide (HA6.out.turn0 hT78)
  have HT8 := hide (HT6.out.then hT78 (by simp))
  have HCe := hide (edit_nil t p w7.heap.size D { S with changed := true, keys := S.keys + 1 } hr hfr k v hk hv _ HTr8.out (World.cell?_alloc_at _ _ _ _ rfl) (World.cell?_alloc_at _ _ _ _ rfl))
  have hmf : ∀ (fn : Fn) (first cap : Array Value) (w : World), (Instr.makeFunc fn first cap).run Tryz.prog w = .ok (.func fn first cap) w := fun _ _ _ _ => rfl
  clear hT7 hT78
  go_wp2_with fail
  refine HCe.out.mono ?_
  rintro e w9 ⟨rfl, a, g, cap, ha, hg, hga, hL9, hTr9, hT9⟩
  have hs8 := HT8.out.size
  have HL9 := hide hL9
  have HTr9 := hide hTr9
  have HA9 := hide (HA8.out.turnX hT9 (by simp; exact ⟨hO.one, hO.p, hO.b, hO.m, hO.sm, hO.rb⟩))
  have HT9 := hide (HT8.out.trans (hT9.mono (by simp)))
  clear hL9 hTr9 hT9
  go_wp2_with fail
  go_ret
  exact ⟨rfl, a, g, cap, by omega, by omega, hga, HL9.out, HTr9.out, HA9.out, HT9.out⟩
end Go.Proofs.YthehkckdecckhaaGreatDoor

/-
  Put over the key of a tree that is one leaf; Abort, Len.
-/
namespace Go.Proofs.YthehkckdecckhaaGreatDoor
open Go.RowKit Go.Maps

set_option maxRecDepth 100000 in
set_option maxHeartbeats 3200000 in
theorem edit_leaf (t p kb : Nat) (D S : Stt) (a pg : Nat) (d : Int) (bb off cap : Nat) (l : List (ByteArray × ByteArray)) (hr : S.root = some a) (hne : a ≠ t) (hbb : bb ≠ t ∧ bb ≠ a) (hfr : S.fresh ≤ 500) (hp0 : pg = 0 → 1 ≤ S.fresh) (hp1 : 0 < pg → S.dropped = .slice none 0 0) (hs : Rises (keysOf l)) (hlen : l.length ≤ 900) (hkb : kb ≠ t ∧ kb ≠ a) (k v : ByteArray)
    (hfit : ∀ i f, IsPos (keysOf l) k i → (f = true ↔ Stands l k i) → Short (putL l i f (k, v)) ∧ lsize (putL l i f (k, v)) ≤ 495) (w : World) (hT : TreeAt w t p D S) (hL : LeafAt w a pg d bb off cap l) (h0 : w.cell? ⟨kb, 0, none⟩ = some (.string k)) (h1 : w.cell? ⟨kb, 1, none⟩ = some (.string v)) :
    Calls Tryz.prog 37 #[.pointer (some ⟨t, 0, none⟩), .string k, .func (.func 38) #[] #[.pointer (some ⟨kb, 0, none⟩)]] w fun e w' => e = .returned (.tuple #[]) ∧ LeafAt w' a pg 1 bb off cap l ∧ (∃ S', TreeAt w' t p D S') ∧ Turn [t, a] w w' := by
  have HT := hide hT
  have h6 : w.cell? ⟨t, 6, none⟩ = some (.pointer (some ⟨a, 0, none⟩)) := by have := hT.now.c0; rw [hr] at this; exact this
  have HC := hide (edited_leaf t p a pg d bb off cap l D S hne (fun _ => hbb) (by omega) hp0 hp1 hs (by omega) kb hkb k v w hT hL h0 h1)
  have htl := hT.lt
  have HL := hide hL
  have HFit := hide hfit
  clear hT h0 h1 hL hs hp0 hp1 hfit
  go_enter Tryz.func37, Tryz.ntmps37
  go_wp2_with fail
  refine (height_some t p a 1 D S hr w HT.out HL.out.place.c1).mono ?_
  rintro e w1 ⟨rfl, rfl⟩
  go_wp2_with fail
  refine HC.out.mono ?_
  rintro e w2 ⟨i, f, g, cap', rfl, hN, hL2, ⟨S', e1, e2, e3, hTr2, e5⟩, hT2⟩
  obtain ⟨hsh, hsz⟩ := HFit.out i f hN.pos hN.is
  have hln : (putL l i f (k, v)).length ≤ 1000 := by
    unfold putL
    simp
    split <;> omega
  have hl0 : 0 < (putL l i f (k, v)).length := by unfold putL; simp; omega
  have hfr' : S'.fresh ≤ 1000 := by rcases e5 with ⟨_, h, _⟩ | ⟨_, h, _⟩ <;> omega
  have HR := hide (rootOf_leaf t p D S' g 0 cap' (putL l i f (k, v)) 1 hl0 hfr' hln (fun x hx => by have := hsh x hx; omega) hsz w2 hTr2 hN.kv)
  have HL2 := hide hL2
  have HT2 := hide hT2
  have hs2 := hT2.size
  have hal := HL.out.place.lt
  have hbl : bb < w2.heap.size ∨ l = [] := by
    by_cases h : l = []
    · exact .inr h
    · exact .inl (hL2.kv.lt ⟨bb, off, none⟩ h rfl)
  generalize (putL l i f (k, v)).length = n at *
  clear hN hTr2 hL2 hT2 HC HFit hsh hsz
  go_wp2_with fail
  refine HR.out.mono ?_
  rintro e w3 ⟨a3, rfl, ha3, hP3, hTr3, hT3⟩
  have HTr3 := hide hTr3
  have HT3 := hide hT3
  have h63 := hTr3.now.c0
  have f63 := hTr3.fz 6
  clear hP3 hTr3 hT3
  go_wp2_with fail
  go_end0
  have hTs : Turn [t] w3 (w3.setCell ⟨t, 6, none⟩ (.pointer (some ⟨a3, 0, none⟩))) := (Turn.refl [t] w3).setCell (List.mem_singleton.2 rfl) 6 _
  refine ⟨rfl, ⟨(HL2.out.place.turn HT3.out (by simp; exact hne)).turn hTs (by simp; exact hne), .inr rfl, (HL2.out.kv.turn HT3.out (fun x _ hx => by obtain rfl := Option.some.inj hx; simp; exact hbb.1)).turn hTs (fun x _ hx => by obtain rfl := Option.some.inj hx; simp; exact hbb.1), HL.out.cap⟩, ⟨_, HTr3.out.setRoot (some a3)⟩, (HT2.out.trans (HT3.out.mono (by simp))).trans (hTs.mono (by simp))⟩

set_option maxRecDepth 100000 in
set_option maxHeartbeats 3200000 in
/-- Put where the key is there, with another value: all that matters here is that what is committed stays. -/
theorem put_over (t p b m sm rb : Nat) (s : St) (q : Pg) (D S : Stt) (hd : s.dead = false) (hq : q.dead = false) (hO : Off t p b m sm rb) (a pg : Nat) (d : Int) (bb off cap : Nat) (k v v0 : ByteArray) (hr : S.root = some a) (ha : a ≠ 1 ∧ a ≠ p ∧ a ≠ b ∧ a ≠ m ∧ a ≠ sm ∧ a ≠ rb ∧ a ≠ t) (hbb : bb ≠ a ∧ bb ≠ p ∧ bb ≠ b ∧ bb ≠ m ∧ bb ≠ sm ∧ bb ≠ t) (hfr : S.fresh ≤ 500) (hp0 : pg = 0 → 1 ≤ S.fresh) (hp1 : 0 < pg → S.dropped = .slice none 0 0) (hl : S.fresh ≤ q.left s.n) (hk1 : 0 < k.size) (hk : k.size ≤ 48) (hv : v.size ≤ 120) (hvv : (v0.toList == v.toList) = false) (w : World) (hA : PAt w p b m sm rb s q) (hT : TreeAt w t p D S) (hL : LeafAt w a pg d bb off cap [(k, v0)]) :
    Calls Tryz.prog 12 #[.pointer (some ⟨t, 0, none⟩), .string k, .string v] w fun e w' => e = .returned (.int .i64 0) ∧ LeafAt w' a pg 1 bb off cap [(k, v0)] ∧ (∃ S', TreeAt w' t p D S') ∧ PAt w' p b m sm rb s { q with rd := true } ∧ Turn [t, a, p] w w' := by
  have HC := hide (tdead_any t p b m sm rb s q D S hd hq w hA hT)
  have hk0 : k.toList.isEmpty = false := by rw [toList_empty]; exact decide_eq_false (by omega)
  have HT := hide hT
  have HL := hide hL
  have hlle := left_le q s.n
  have htl := hT.lt
  have HP0 := hide hp0
  have HP1 := hide hp1
  have hX : ∀ x ∈ [t], x ≠ 1 ∧ x ≠ p ∧ x ≠ b ∧ x ≠ m ∧ x ≠ sm ∧ x ≠ rb := by simp; exact ⟨hO.one, hO.p, hO.b, hO.m, hO.sm, hO.rb⟩
  have hXa : ∀ x ∈ [a], x ≠ 1 ∧ x ≠ p ∧ x ≠ b ∧ x ≠ m ∧ x ≠ sm ∧ x ≠ rb := by simp; exact ⟨ha.1, ha.2.1, ha.2.2.1, ha.2.2.2.1, ha.2.2.2.2.1, ha.2.2.2.2.2.1⟩
  have HX := hide hX
  have HXa := hide hXa
  clear hA hT hL hp0 hp1 hX hXa
  go_enter Tryz.func12, Tryz.ntmps12
  go_wp2_with fail
  refine HC.out.mono ?_
  rintro e w1 ⟨rfl, ⟨r, hA1⟩, hT1⟩
  have HTr1 := hide (HT.out.turn hT1 (by simp; exact hO.p))
  have HLf := hide (tleft_any t p b m sm rb s { q with rd := r } D S hd hO.p (by omega) w1 hA1 HTr1.out)
  have HT1 := hide hT1
  change Hid (Calls Tryz.prog 31 _ w1 fun e w' => e = .returned (.int .i64 ((q.left s.n : Nat) - (S.fresh : Nat) : Int)) ∧ PAt w' p b m sm rb s { q with rd := true } ∧ Turn [p] w1 w') at HLf
  generalize q.left s.n = lf at *
  clear hA1 hT1
  go_wp2_with fail
  refine HLf.out.mono ?_
  rintro e w2 ⟨rfl, hA2, hT2⟩
  have HTr2 := hide (HTr1.out.turn hT2 (by simp; exact hO.p))
  have HA2 := hide hA2
  have HT2 := hide (HT1.out.trans hT2)
  have HL2 : Hid (LeafAt w2 a pg d bb off cap [(k, v0)]) := ⟨HL.out.place.turn HT2.out (by simp; omega), HL.out.d01, HL.out.kv.turn HT2.out (fun x _ hx => by obtain rfl := Option.some.inj hx; simp; omega), HL.out.cap⟩
  have h8 := HTr2.out.now.c2
  have f8 := HTr2.out.fz 8
  have hnl : ¬ ((lf : Int) - (S.fresh : Int) < 0) := by omega
  clear hA2 hT2
  go_wp2_with fail
  have hTs3 : Turn [t] w2 (w2.setCell ⟨t, 8, none⟩ (.bool true)) := (Turn.refl [t] w2).setCell (List.mem_singleton.2 rfl) 8 _
  have HTr3 := hide (HTr2.out.setChanged true)
  have HT3 : Hid (Turn [t, a, p] w (w2.setCell ⟨t, 8, none⟩ (.bool true))) := (HT2.out.mono (by simp)).trans (hTs3.mono (by simp))
  have HA3 := hide (HA2.out.turnX hTs3 HX.out)
  have HL3 : Hid (LeafAt (w2.setCell ⟨t, 8, none⟩ (.bool true)) a pg d bb off cap [(k, v0)]) := ⟨HL2.out.place.turn hTs3 (by simp; omega), HL.out.d01, HL2.out.kv.turn hTs3 (fun x _ hx => by obtain rfl := Option.some.inj hx; simp; omega), HL.out.cap⟩
  generalize w2.setCell ⟨t, 8, none⟩ (.bool true) = w3 at *
  clear hTs3 h8 f8
  refine (get_leaf t p a pg d bb off cap [(k, v0)] D { S with changed := true } hr (fun _ => hbb.1) (by simp [Rises, keysOf]) (by simp) k w3 HTr3.out HL3.out).mono ?_
  rintro e w4 ⟨val, f, rfl, hG, hL4, hT4⟩
  obtain ⟨rfl, rfl⟩ : f = true ∧ v0 = val := by
    rcases hG with ⟨rfl, i, hi, _, e⟩ | ⟨_, _, h⟩
    · have : i = 0 := by simpa using hi
      subst this
      exact ⟨rfl, e⟩
    · exact absurd rfl (h (k, v0) (by simp))
  have HTr4 := hide (HTr3.out.turn hT4 (by simp; exact ha.2.2.2.2.2.2.symm))
  have HA4 := hide (HA3.out.turnX hT4 HXa.out)
  have HT4 := hide (HT3.out.trans (hT4.mono (by simp)))
  have HL4 := hide hL4
  clear hT4 hG hL4
  go_wp2_with fail
  refine (sclone_any k w4 (by omega)).mono ?_
  rintro e w6 ⟨rfl, hT6⟩
  have HTr6 := hide (HTr4.out.turn hT6 (by simp))
  have HA6 := hide (HA4.out.turn0 hT6)
  have HT6 := hide (HT4.out.then hT6 (by simp))
  have HL6 : Hid (LeafAt w6 a pg 1 bb off cap [(k, v0)]) := ⟨HL4.out.place.turn hT6 (by simp), .inr rfl, HL4.out.kv.turn0 hT6, HL.out.cap⟩
  clear hT6
  go_wp2_with fail
  refine (sclone_any v w6 (by omega)).mono ?_
  rintro e w7 ⟨rfl, hT7⟩
  have hT78 : Turn [] w6 (w7.alloc (.cells #[.string k, .string v] 42)) := hT7.alloc _
  have HTr8 := hide (HTr6.out.turn hT78 (by simp))
  have HA8 := hide (HA6.out.turn0 hT78)
  have HT8 := hide (HT6.out.then hT78 (by simp))
  have HL8 : Hid (LeafAt (w7.alloc (.cells #[.string k, .string v] 42)) a pg 1 bb off cap [(k, v0)]) := ⟨HL6.out.place.turn hT78 (by simp), .inr rfl, HL6.out.kv.turn0 hT78, HL.out.cap⟩
  have hal7 : a < w7.heap.size := Nat.lt_of_lt_of_le HL6.out.place.lt hT7.size
  have htl7 : t < w7.heap.size := Nat.lt_of_lt_of_le HTr6.out.lt hT7.size
  have HCe := hide (edit_leaf t p w7.heap.size D { S with changed := true } a pg 1 bb off cap [(k, v0)] hr ha.2.2.2.2.2.2 ⟨hbb.2.2.2.2.2, hbb.1⟩ hfr HP0.out HP1.out (by simp [Rises, keysOf]) (by simp) ⟨by omega, by omega⟩ k v (fun i f h1 h2 => by
    have hi : i = 0 := by
      have h3 := h1.1
      by_cases e : i = 0
      · exact e
      · have := h1.2.1 0 (by simp [keysOf]) (by omega)
        exact absurd this (klt_irrefl k)
    subst hi
    have hf : f = true := h2.2 ⟨by simp, rfl⟩
    subst hf
    have e : putL [(k, v0)] 0 true (k, v) = [(k, v)] := rfl
    rw [e]
    refine ⟨fun x hx => by simp at hx; subst hx; exact ⟨hk, hv⟩, ?_⟩
    unfold lsize lsizes kvSize sumN
    simp
    omega) _ HTr8.out HL8.out (World.cell?_alloc_at _ _ _ _ rfl) (World.cell?_alloc_at _ _ _ _ rfl))
  have hmf : ∀ (fn : Fn) (first cap : Array Value) (w : World), (Instr.makeFunc fn first cap).run Tryz.prog w = .ok (.func fn first cap) w := fun _ _ _ _ => rfl
  clear hT7 hT78
  go_wp2_with fail
  refine HCe.out.mono ?_
  rintro e w9 ⟨rfl, hL9, hS9, hT9⟩
  have HL9 := hide hL9
  have HS9 := hide hS9
  have HA9 := hide (HA8.out.turnX hT9 (by
    intro x hx
    simp at hx
    rcases hx with rfl | rfl
    · exact HX.out _ (by simp)
    · exact HXa.out _ (by simp)))
  have HT9 := hide (HT8.out.trans (hT9.mono (by simp)))
  clear hL9 hS9 hT9
  go_wp2_with fail
  go_ret
  exact ⟨rfl, HL9.out, HS9.out, HA9.out, HT9.out⟩
end Go.Proofs.YthehkckdecckhaaGreatDoor

namespace Go.Proofs.YthehkckdecckhaaGreatDoor
open Go.RowKit Go.Maps

def kidCells (l : List (ByteArray × Nat)) : List (Value × Value) := l.map fun x => (.string x.1, .pointer (some ⟨x.2, 0, none⟩))
theorem kidCells_length (l : List (ByteArray × Nat)) : (kidCells l).length = l.length := by simp [kidCells]
theorem kid_one (l : List (ByteArray × Nat)) : OneCell (kidCells l) := by
  intro x hx
  obtain ⟨y, _, rfl⟩ := List.mem_map.1 hx
  exact ⟨rfl, rfl⟩
theorem KidsAt.pairs {w : World} {a : Option Addr} {l : List (ByteArray × Nat)} (h : KidsAt w a l) : PairsAt w a (kidCells l) := by
  rcases h with rfl | ⟨b, off, e, hc⟩
  · exact .inl rfl
  · exact .inr ⟨b, off, e, fun i hi => by
      rw [kidCells_length] at hi
      simp only [kidCells, List.getElem_map]
      exact hc i hi⟩
theorem PairsAt.kids {w : World} {a : Option Addr} {l : List (ByteArray × Nat)} (h : PairsAt w a (kidCells l)) : KidsAt w a l := by
  rcases h with h | ⟨b, off, e, hc⟩
  · exact .inl (by simpa [kidCells] using h)
  · exact .inr ⟨b, off, e, fun i hi => by
      have := hc i (by rw [kidCells_length]; exact hi)
      simp only [kidCells, List.getElem_map] at this
      exact this⟩

set_option maxRecDepth 100000 in
set_option maxHeartbeats 1600000 in
/-- size of leaves. -/
theorem lsize_any (a : Option Addr) (cap : Nat) (l : List (ByteArray × ByteArray)) (hlen : l.length ≤ 1000) (hb : ∀ x ∈ l, x.1.size ≤ 1000 ∧ x.2.size ≤ 1000) (hsz : sumN (lsizes l) ≤ 1000000) (w : World) (hK : KVsAt w a l) :
    Calls Tryz.prog 137 #[.iface 73 (.slice a l.length cap)] w fun e w' => e = .returned (.int .i64 (sumN (lsizes l) : Nat)) ∧ Turn [] w w' := by
  have HC := hide (lsizes_any a cap l hlen hb w hK)
  have HLs := hide (lsizes_length l)
  clear hK hb
  go_enter Tryz.func137, Tryz.ntmps137
  go_wp2_with fail
  refine HC.out.mono ?_
  rintro e w1 ⟨rfl, hR1, hT1⟩
  have HT1 := hide hT1
  have HTot := hide (total_any w.heap.size l.length (lsizes l) (by rw [HLs.out]; exact hlen) hsz w1 hR1)
  rw [HLs.out] at HTot
  clear hR1 hT1
  obtain ⟨z, hz⟩ : ∃ z, z = sumN (lsizes l) := ⟨_, rfl⟩
  have Hz := hide hz
  rw [← hz] at HTot hsz
  clear hz
  go_wp2_with fail
  refine HTot.out.mono ?_
  rintro e w2 ⟨rfl, rfl⟩
  go_wp2_with fail
  go_ret
  exact ⟨by rw [← Hz.out]; rfl, HT1.out⟩

theorem lparts2 (w : World) (a a' : Option Addr) (c c' : Nat) (l l' : List (ByteArray × ByteArray)) (ha : a = none → c = 0) (ha' : a' = none → c' = 0) (hK : KVsAt w a l) (hK' : KVsAt w a' l') :
    PartsAt (w.alloc (.cells #[.slice a l.length c, .slice a' l'.length c'] 73)) w.heap.size 0 [kvCells l, kvCells l'] := by
  have hT : Turn [] w (w.alloc (.cells #[.slice a l.length c, .slice a' l'.length c'] 73)) := (Turn.refl [] w).alloc _
  intro n hn
  match n, hn with
  | 0, _ => exact ⟨a, c, by rw [show ([kvCells l, kvCells l'][0]).length = l.length by simp [kvCells]]; exact World.cell?_alloc_at _ _ _ _ rfl, ha, (hK.turn0 hT).pairs⟩
  | 1, _ => exact ⟨a', c', by rw [show ([kvCells l, kvCells l'][1]).length = l'.length by simp [kvCells]]; exact World.cell?_alloc_at _ _ _ _ rfl, ha', (hK'.turn0 hT).pairs⟩

theorem lconcat2 (w : World) (a a' : Option Addr) (c c' : Nat) (l l' : List (ByteArray × ByteArray)) (hlen : l.length ≤ 1000 ∧ l'.length ≤ 1000) (ha : a = none → c = 0) (ha' : a' = none → c' = 0) (hK : KVsAt w a l) (hK' : KVsAt w a' l') :
    Calls Tryz.prog 58 #[.slice (some ⟨w.heap.size, 0, none⟩) 2 2] (w.alloc (.cells #[.slice a l.length c, .slice a' l'.length c'] 73))
      fun e w' => ∃ r, e = .returned r ∧ w'.ownsRow w.heap.size 42 2 r (l ++ l').length (flat (kvCells (l ++ l'))) ∧ Turn [] w w' := by
  have hf : [kvCells l, kvCells l'].flatten = kvCells (l ++ l') := by simp [kvCells]
  have hL : tlen [kvCells l, kvCells l'] = (l ++ l').length := by
    unfold tlen
    rw [hf]
    simp [kvCells]
  have hb : (l ++ l').length ≤ 1000000 := by simp; omega
  refine (concat_any w.heap.size 0 2 [kvCells l, kvCells l'] (by simp) (by rw [hL]; exact hb) (by simp [kv_one]) _ (lparts2 w a a' c c' l l' ha ha' hK hK')).mono ?_
  rintro e w' ⟨r, rfl, hO, hT⟩
  rw [hL, hf] at hO
  refine ⟨r, rfl, ?_, ((Turn.refl [] w).alloc _).then hT (by simp)⟩
  obtain ⟨h1, h2 | ⟨g, cap', cur, e, hb', rest⟩⟩ := hO
  · exact ⟨h1, .inl h2⟩
  · exact ⟨h1, .inr ⟨g, cap', cur, e, by simp at hb'; omega, rest⟩⟩

set_option maxRecDepth 100000 in
set_option maxHeartbeats 1600000 in
/-- join of leaves. -/
theorem ljoin_any (w : World) (a a' : Option Addr) (c c' : Nat) (l l' : List (ByteArray × ByteArray)) (hlen : l.length ≤ 1000 ∧ l'.length ≤ 1000) (ha : a = none → c = 0) (ha' : a' = none → c' = 0) (hK : KVsAt w a l) (hK' : KVsAt w a' l') :
    Calls Tryz.prog 121 #[.iface 73 (.slice a l.length c), .iface 73 (.slice a' l'.length c')] w
      fun e w' => ∃ r, e = .returned (.iface 73 r) ∧ w'.ownsRow w.heap.size 42 2 r (l ++ l').length (flat (kvCells (l ++ l'))) ∧ Turn [] w w' := by
  have HC := hide (lconcat2 w a a' c c' l l' hlen ha ha' hK hK')
  have h1 := ta_ll
  have h2 := ta_bl
  have h3 := ta_bb
  clear hK hK' ha ha'
  go_enter Tryz.func121, Tryz.ntmps121
  go_wp2_with fail
  refine HC.out.mono ?_
  rintro e w1 ⟨r, rfl, hO, hT⟩
  have HO := hide hO
  have HT := hide hT
  clear hO hT
  go_wp2_with fail
  go_ret
  exact ⟨r, rfl, HO.out, HT.out⟩

set_option maxRecDepth 100000 in
set_option maxHeartbeats 1600000 in
/-- size of branches. -/
theorem bsize_any (a : Option Addr) (cap : Nat) (l : List (ByteArray × Nat)) (hlen : l.length ≤ 1000) (hb : ∀ x ∈ l, x.1.size ≤ 1000) (hsz : sumN (bsizes l) ≤ 1000000) (w : World) (hK : KidsAt w a l) :
    Calls Tryz.prog 137 #[.iface 120 (.slice a l.length cap)] w fun e w' => e = .returned (.int .i64 (sumN (bsizes l) : Nat)) ∧ Turn [] w w' := by
  have HC := hide (bsizes_any a cap l hlen hb w hK)
  have HLs := hide (bsizes_length l)
  clear hK hb
  go_enter Tryz.func137, Tryz.ntmps137
  go_wp2_with fail
  refine HC.out.mono ?_
  rintro e w1 ⟨rfl, hR1, hT1⟩
  have HT1 := hide hT1
  have HTot := hide (total_any w.heap.size l.length (bsizes l) (by rw [HLs.out]; exact hlen) hsz w1 hR1)
  rw [HLs.out] at HTot
  clear hR1 hT1
  obtain ⟨z, hz⟩ : ∃ z, z = sumN (bsizes l) := ⟨_, rfl⟩
  have Hz := hide hz
  rw [← hz] at HTot hsz
  clear hz
  go_wp2_with fail
  refine HTot.out.mono ?_
  rintro e w2 ⟨rfl, rfl⟩
  go_wp2_with fail
  go_ret
  exact ⟨by rw [← Hz.out]; rfl, HT1.out⟩

theorem bparts2 (w : World) (a a' : Option Addr) (c c' : Nat) (l l' : List (ByteArray × Nat)) (ha : a = none → c = 0) (ha' : a' = none → c' = 0) (hK : KidsAt w a l) (hK' : KidsAt w a' l') :
    PartsAt (w.alloc (.cells #[.slice a l.length c, .slice a' l'.length c'] 120)) w.heap.size 0 [kidCells l, kidCells l'] := by
  have hT : Turn [] w (w.alloc (.cells #[.slice a l.length c, .slice a' l'.length c'] 120)) := (Turn.refl [] w).alloc _
  intro n hn
  match n, hn with
  | 0, _ => exact ⟨a, c, by rw [show ([kidCells l, kidCells l'][0]).length = l.length by simp [kidCells]]; exact World.cell?_alloc_at _ _ _ _ rfl, ha, (hK.turn0 hT).pairs⟩
  | 1, _ => exact ⟨a', c', by rw [show ([kidCells l, kidCells l'][1]).length = l'.length by simp [kidCells]]; exact World.cell?_alloc_at _ _ _ _ rfl, ha', (hK'.turn0 hT).pairs⟩

theorem bconcat2 (w : World) (a a' : Option Addr) (c c' : Nat) (l l' : List (ByteArray × Nat)) (hlen : l.length ≤ 1000 ∧ l'.length ≤ 1000) (ha : a = none → c = 0) (ha' : a' = none → c' = 0) (hK : KidsAt w a l) (hK' : KidsAt w a' l') :
    Calls Tryz.prog 122 #[.slice (some ⟨w.heap.size, 0, none⟩) 2 2] (w.alloc (.cells #[.slice a l.length c, .slice a' l'.length c'] 120))
      fun e w' => ∃ r, e = .returned r ∧ w'.ownsRow w.heap.size 122 2 r (l ++ l').length (flat (kidCells (l ++ l'))) ∧ Turn [] w w' := by
  have hf : [kidCells l, kidCells l'].flatten = kidCells (l ++ l') := by simp [kidCells]
  have hL : tlen [kidCells l, kidCells l'] = (l ++ l').length := by
    unfold tlen
    rw [hf]
    simp [kidCells]
  have hb : (l ++ l').length ≤ 1000000 := by simp; omega
  refine (kconcat_any w.heap.size 0 2 [kidCells l, kidCells l'] (by simp) (by rw [hL]; exact hb) (by simp [kid_one]) _ (bparts2 w a a' c c' l l' ha ha' hK hK')).mono ?_
  rintro e w' ⟨r, rfl, hO, hT⟩
  rw [hL, hf] at hO
  refine ⟨r, rfl, ?_, ((Turn.refl [] w).alloc _).then hT (by simp)⟩
  obtain ⟨h1, h2 | ⟨g, cap', cur, e, hb', rest⟩⟩ := hO
  · exact ⟨h1, .inl h2⟩
  · exact ⟨h1, .inr ⟨g, cap', cur, e, by simp at hb'; omega, rest⟩⟩

set_option maxRecDepth 100000 in
set_option maxHeartbeats 1600000 in
/-- join of branches. -/
theorem bjoin_any (w : World) (a a' : Option Addr) (c c' : Nat) (l l' : List (ByteArray × Nat)) (hlen : l.length ≤ 1000 ∧ l'.length ≤ 1000) (ha : a = none → c = 0) (ha' : a' = none → c' = 0) (hK : KidsAt w a l) (hK' : KidsAt w a' l') :
    Calls Tryz.prog 121 #[.iface 120 (.slice a l.length c), .iface 120 (.slice a' l'.length c')] w
      fun e w' => ∃ r, e = .returned (.iface 120 r) ∧ w'.ownsRow w.heap.size 122 2 r (l ++ l').length (flat (kidCells (l ++ l'))) ∧ Turn [] w w' := by
  have HC := hide (bconcat2 w a a' c c' l l' hlen ha ha' hK hK')
  have h1 := ta_ll
  have h2 := ta_bl
  have h3 := ta_bb
  clear hK hK' ha ha'
  go_enter Tryz.func121, Tryz.ntmps121
  go_wp2_with fail
  refine HC.out.mono ?_
  rintro e w1 ⟨r, rfl, hO, hT⟩
  have HO := hide hO
  have HT := hide hT
  clear hO hT
  go_wp2_with fail
  go_ret
  exact ⟨r, rfl, HO.out, HT.out⟩
end Go.Proofs.YthehkckdecckhaaGreatDoor

namespace Go.Proofs.YthehkckdecckhaaGreatDoor
open Go.RowKit Go.Maps

theorem nil_l (a : Option Addr) (n c : Nat) (w : World) : Sem.run Tryz.prog (nilAhead 335 73 (.slice a n c) "toll/tree.cut") w = .ok (some false) w := by kernel_rfl
theorem meth_l (a : Option Addr) (n c : Nat) (w : World) : Sem.run Tryz.prog (method 335 73 (.slice a n c) "toll/tree.cut") w = .ok (186, .slice a n c) w := by kernel_rfl
theorem meth_b (a : Option Addr) (n c : Nat) (w : World) : Sem.run Tryz.prog (method 335 120 (.slice a n c) "toll/tree.cut") w = .ok (191, .slice a n c) w := by kernel_rfl
theorem nil_b (a : Option Addr) (n c : Nat) (w : World) : Sem.run Tryz.prog (nilAhead 335 120 (.slice a n c) "toll/tree.cut") w = .ok (some false) w := by kernel_rfl

theorem KVsAt.part {w : World} {b off : Nat} {l : List (ByteArray × ByteArray)} (h : KVsAt w (some ⟨b, off, none⟩) l) (m : Nat) : KVsAt w (some ⟨b, off, none⟩) (l.take m) ∧ KVsAt w (some ⟨b, off + m * 2, none⟩) (l.drop m) := by
  have e1 : kvCells (l.take m) = (kvCells l).take m := List.map_take
  have e2 : kvCells (l.drop m) = (kvCells l).drop m := List.map_drop
  exact ⟨PairsAt.kvs (by rw [e1]; exact h.pairs.take m), PairsAt.kvs (by rw [e2]; exact h.pairs.drop m)⟩

set_option maxRecDepth 100000 in
set_option maxHeartbeats 3200000 in
/-- placed: of leaves that fit. -/
theorem lplaced_one (t p : Nat) (D S : Stt) (bb off cap : Nat) (l : List (ByteArray × ByteArray)) (lvl : Nat) (low : ByteArray) (hfr : S.fresh ≤ 100000) (hlen : l.length ≤ 1000) (hb : ∀ x ∈ l, x.1.size ≤ 1000 ∧ x.2.size ≤ 1000) (hsz : sumN (lsizes l) ≤ 495) (w : World) (hT : TreeAt w t p D S) (hK : KVsAt w (some ⟨bb, off, none⟩) l) :
    Calls Tryz.prog 86 #[.pointer (some ⟨t, 0, none⟩), .iface 73 (.slice (some ⟨bb, off, none⟩) l.length cap), .int .i64 (lvl : Nat), .string low] w fun e w' => ∃ a g, e = .returned (.slice (some ⟨g, 0, none⟩) 1 1) ∧ w.heap.size ≤ a ∧ w.heap.size ≤ g ∧ KidsAt w' (some ⟨g, 0, none⟩) [(low, a)] ∧ PlaceAt w' a 0 lvl 0 (.iface 73 (.slice (some ⟨bb, off, none⟩) l.length cap)) ∧ TreeAt w' t p D { S with fresh := S.fresh + 1 } ∧ Turn [t] w w' := by
  have HT := hide hT
  have HC := hide (lsizes_any (some ⟨bb, off, none⟩) cap l hlen hb w hK)
  have HLs := hide (lsizes_length l)
  clear hT hK hb
  go_enter Tryz.func86, Tryz.ntmps86
  go_wp2_with fail
  refine HC.out.mono ?_
  rintro e w1 ⟨rfl, hR1, hT1⟩
  have HT1 := hide hT1
  have HTr1 := hide (HT.out.turn hT1 (by simp))
  have h1s := hT1.size
  have HTot := hide (total_any w.heap.size l.length (lsizes l) (by rw [HLs.out]; exact hlen) (by omega) w1 hR1)
  rw [HLs.out] at HTot
  clear hR1 hT1
  generalize sumN (lsizes l) = z at *
  go_wp2_with fail
  refine HTot.out.mono ?_
  rintro e w2 ⟨rfl, rfl⟩
  go_wp2_with fail
  refine (place_any t p D S 73 _ lvl (by omega) w2 HTr1.out).mono ?_
  rintro e w3 ⟨a, rfl, ha, hP3, hTr3, hT3⟩
  have HP3 := hide hP3
  have HTr3 := hide hTr3
  have HT3 := hide hT3
  have h3s := hT3.size
  clear hP3 hTr3 hT3
  go_wp2_with fail
  go_ret
  have hTa : Turn [] w3 (w3.alloc (.cells #[.string low, .pointer (some ⟨a, 0, none⟩)] 122)) := (Turn.refl [] w3).alloc _
  refine ⟨a, w3.heap.size, rfl, by omega, by omega, .inr ⟨_, 0, rfl, fun i hi => ?_⟩, HP3.out.turn hTa (by simp), HTr3.out.turn hTa (by simp), ((HT1.out.mono (by simp)).then HT3.out (by simp)).alloc _⟩
  obtain rfl : i = 0 := by simpa using hi
  exact ⟨World.cell?_alloc_at _ _ _ _ rfl, World.cell?_alloc_at _ _ _ _ rfl⟩

set_option maxRecDepth 100000 in
set_option maxHeartbeats 3200000 in
/-- placed: of leaves that are too long. -/
theorem lplaced_two (t p : Nat) (D S : Stt) (bb off cap m : Nat) (l : List (ByteArray × ByteArray)) (lvl : Nat) (low : ByteArray) (hfr : S.fresh ≤ 100000) (hlen : l.length ≤ 1000) (hcap : l.length ≤ cap ∧ cap ≤ 9223372036854775807) (hb : ∀ x ∈ l, x.1.size ≤ 1000 ∧ x.2.size ≤ 1000) (hsz : 495 < sumN (lsizes l) ∧ sumN (lsizes l) ≤ 1000000) (hm : m = middleN (lsizes l)) (hml : m < l.length) (hbt : bb ≠ t) (w : World) (hT : TreeAt w t p D S) (hK : KVsAt w (some ⟨bb, off, none⟩) l) :
    Calls Tryz.prog 86 #[.pointer (some ⟨t, 0, none⟩), .iface 73 (.slice (some ⟨bb, off, none⟩) l.length cap), .int .i64 (lvl : Nat), .string low] w fun e w' => ∃ a a' g, e = .returned (.slice (some ⟨g, 0, none⟩) 2 2) ∧ w.heap.size ≤ a ∧ w.heap.size ≤ a' ∧ a ≠ a' ∧ w.heap.size ≤ g ∧ KidsAt w' (some ⟨g, 0, none⟩) [(low, a), (l[m].1, a')]
      ∧ PlaceAt w' a 0 lvl 0 (.iface 73 (.slice (some ⟨bb, off, none⟩) m cap)) ∧ PlaceAt w' a' 0 lvl 0 (.iface 73 (.slice (some ⟨bb, off + m * 2, none⟩) (l.length - m) (cap - m))) ∧ TreeAt w' t p D { S with fresh := S.fresh + 2 } ∧ Turn [t] w w' := by
  have HT := hide hT
  have HK := hide hK
  have HC := hide (lsizes_any (some ⟨bb, off, none⟩) cap l hlen hb w hK)
  have HLs := hide (lsizes_length l)
  have HM := hide hm
  have htl := hT.lt
  clear hT hK hb hm
  go_enter Tryz.func86, Tryz.ntmps86
  go_wp2_with fail
  refine HC.out.mono ?_
  rintro e w1 ⟨rfl, hR1, hT1⟩
  have HT1 := hide hT1
  have HTr1 := hide (HT.out.turn hT1 (by simp))
  have h1s := hT1.size
  have HTot := hide (total_any w.heap.size l.length (lsizes l) (by rw [HLs.out]; exact hlen) (by omega) w1 hR1)
  have HR1 := hide hR1
  have HMid : Hid (∀ w', Turn [] w1 w' → Calls Tryz.prog 119 #[.slice (some ⟨w.heap.size, 0, none⟩) l.length l.length] w' fun e w'' => e = .returned (.int .i64 (m : Nat)) ∧ w'' = w') := fun w' hw' => by
    have := middle_any w.heap.size l.length (lsizes l) (by rw [HLs.out]; exact hlen) (by omega) w' (HR1.out.turn0 hw')
    rw [HLs.out, ← HM.out] at this
    exact this
  rw [HLs.out] at HTot
  clear hR1 hT1 HC
  generalize hzz : sumN (lsizes l) = z at *
  clear hzz
  have hnz : ¬ ((z : Int) ≤ 495) := by omega
  go_wp2_with fail
  refine HTot.out.mono ?_
  rintro e w2 ⟨rfl, rfl⟩
  go_wp2_with fail
  have HCut : Hid (∀ w', Calls Tryz.prog 186 #[.slice (some ⟨bb, off, none⟩) l.length cap, .int .i64 (m : Nat)] w' fun e w'' => e = .returned (.tuple #[.iface 73 (.slice (some ⟨bb, off, none⟩) m cap), .iface 73 (.slice (some ⟨bb, off + m * 2, none⟩) (l.length - m) (cap - m))]) ∧ Turn [] w' w'') := fun w' => lcut_any bb off l.length cap m hml hcap w'
  have hnil := nil_l
  have hmeth := meth_l
  go_region_with (first
    | (go_at_call 119; refine (HMid.out _ (by first | exact Turn.refl _ _ | exact (Turn.refl [] _).drew)).mono ?_; rintro e w9 ⟨rfl, rfl⟩)
    | (go_at_call 186; refine (HCut.out _).mono ?_; rintro e w3 ⟨rfl, hT3⟩; have HT3 := hide hT3; clear hT3))
  all_goals
    have hT13 : Turn [] w w3 := HT1.out.drew.then HT3.out (by simp)
    have HT13 := hide hT13
    have h13s := hT13.size
    have HTr3 := hide (HT.out.turn hT13 (by simp))
    have HK3 := hide (HK.out.turn0 hT13)
    clear hT13 HMid HCut
    go_wp2_with fail
    refine (place_any t p D S 73 _ lvl (by omega) w3 HTr3.out).mono ?_
    rintro e w4 ⟨a, rfl, ha, hP4, hTr4, hT4⟩
    have HP4 := hide hP4
    have HTr4 := hide hTr4
    have HT4 := hide hT4
    have h4s := hT4.size
    have hal := hP4.lt
    have HLow : Hid (Calls Tryz.prog 188 #[.slice (some ⟨bb, off + m * 2, none⟩) (l.length - m) (cap - m)] w4 fun e w' => e = .returned (.string l[m].1) ∧ w' = w4) := by
      have hd : (l.drop m).length = l.length - m := List.length_drop
      have := llow_any (some ⟨bb, off + m * 2, none⟩) (cap - m) (l.drop m) (by omega) (by omega) w4 ((HK3.out.part m).2.turn HT4.out fun x _ hx => by
        obtain rfl := Option.some.inj hx
        simp
        exact hbt)
      have he : ((l.drop m)[0]'(by omega)).1 = l[m].1 := by simp
      rw [he, hd] at this
      exact this
    clear hP4 hTr4 hT4
    go_wp2_with fail
    refine HLow.out.mono ?_
    rintro e w5 ⟨rfl, rfl⟩
    clear HLow
    go_wp2_with fail
    refine (place_any t p D { S with fresh := S.fresh + 1 } 73 _ lvl (by show S.fresh + 1 ≤ _; omega) w5 HTr4.out).mono ?_
    rintro e w6 ⟨a', rfl, ha', hP6, hTr6, hT6⟩
    have HP6 := hide hP6
    have HTr6 := hide hTr6
    have HT6 := hide hT6
    have h6s := hT6.size
    clear hP6 hTr6 hT6
    go_wp2_with fail
    go_ret
    have hTa : Turn [] w6 (w6.alloc (.cells #[.string low, .pointer (some ⟨a, 0, none⟩), .string l[m].1, .pointer (some ⟨a', 0, none⟩)] 122)) := (Turn.refl [] w6).alloc _
    refine ⟨a, a', w6.heap.size, rfl, by omega, by omega, by omega, by omega, .inr ⟨_, 0, rfl, fun i hi => ?_⟩, (HP4.out.turn HT6.out (by simp; omega)).turn hTa (by simp), HP6.out.turn hTa (by simp), HTr6.out.turn hTa (by simp), (((HT13.out.mono (by simp)).then HT4.out (by simp)).then HT6.out (by simp)).alloc _⟩
    match i, hi with
    | 0, _ => exact ⟨World.cell?_alloc_at _ _ _ _ rfl, World.cell?_alloc_at _ _ _ _ rfl⟩
    | 1, _ => exact ⟨World.cell?_alloc_at _ _ _ _ rfl, World.cell?_alloc_at _ _ _ _ rfl⟩
end Go.Proofs.YthehkckdecckhaaGreatDoor

namespace Go.Proofs.YthehkckdecckhaaGreatDoor
open Go.RowKit Go.Maps

theorem KidsAt.part {w : World} {b off : Nat} {l : List (ByteArray × Nat)} (h : KidsAt w (some ⟨b, off, none⟩) l) (m : Nat) : KidsAt w (some ⟨b, off, none⟩) (l.take m) ∧ KidsAt w (some ⟨b, off + m * 2, none⟩) (l.drop m) := by
  have e1 : kidCells (l.take m) = (kidCells l).take m := List.map_take
  have e2 : kidCells (l.drop m) = (kidCells l).drop m := List.map_drop
  exact ⟨PairsAt.kids (by rw [e1]; exact h.pairs.take m), PairsAt.kids (by rw [e2]; exact h.pairs.drop m)⟩

set_option maxRecDepth 100000 in
set_option maxHeartbeats 3200000 in
/-- placed: of branches that fit. -/
theorem bplaced_one (t p : Nat) (D S : Stt) (bb off cap : Nat) (l : List (ByteArray × Nat)) (lvl : Nat) (low : ByteArray) (hfr : S.fresh ≤ 100000) (hlen : l.length ≤ 1000) (hb : ∀ x ∈ l, x.1.size ≤ 1000) (hsz : sumN (bsizes l) ≤ 495) (w : World) (hT : TreeAt w t p D S) (hK : KidsAt w (some ⟨bb, off, none⟩) l) :
    Calls Tryz.prog 86 #[.pointer (some ⟨t, 0, none⟩), .iface 120 (.slice (some ⟨bb, off, none⟩) l.length cap), .int .i64 (lvl : Nat), .string low] w fun e w' => ∃ a g, e = .returned (.slice (some ⟨g, 0, none⟩) 1 1) ∧ w.heap.size ≤ a ∧ w.heap.size ≤ g ∧ KidsAt w' (some ⟨g, 0, none⟩) [(low, a)] ∧ PlaceAt w' a 0 lvl 0 (.iface 120 (.slice (some ⟨bb, off, none⟩) l.length cap)) ∧ TreeAt w' t p D { S with fresh := S.fresh + 1 } ∧ Turn [t] w w' := by
  have HT := hide hT
  have HC := hide (bsizes_any (some ⟨bb, off, none⟩) cap l hlen hb w hK)
  have HLs := hide (bsizes_length l)
  clear hT hK hb
  go_enter Tryz.func86, Tryz.ntmps86
  go_wp2_with fail
  refine HC.out.mono ?_
  rintro e w1 ⟨rfl, hR1, hT1⟩
  have HT1 := hide hT1
  have HTr1 := hide (HT.out.turn hT1 (by simp))
  have h1s := hT1.size
  have HTot := hide (total_any w.heap.size l.length (bsizes l) (by rw [HLs.out]; exact hlen) (by omega) w1 hR1)
  rw [HLs.out] at HTot
  clear hR1 hT1
  generalize sumN (bsizes l) = z at *
  go_wp2_with fail
  refine HTot.out.mono ?_
  rintro e w2 ⟨rfl, rfl⟩
  go_wp2_with fail
  refine (place_any t p D S 120 _ lvl (by omega) w2 HTr1.out).mono ?_
  rintro e w3 ⟨a, rfl, ha, hP3, hTr3, hT3⟩
  have HP3 := hide hP3
  have HTr3 := hide hTr3
  have HT3 := hide hT3
  have h3s := hT3.size
  clear hP3 hTr3 hT3
  go_wp2_with fail
  go_ret
  have hTa : Turn [] w3 (w3.alloc (.cells #[.string low, .pointer (some ⟨a, 0, none⟩)] 122)) := (Turn.refl [] w3).alloc _
  refine ⟨a, w3.heap.size, rfl, by omega, by omega, .inr ⟨_, 0, rfl, fun i hi => ?_⟩, HP3.out.turn hTa (by simp), HTr3.out.turn hTa (by simp), ((HT1.out.mono (by simp)).then HT3.out (by simp)).alloc _⟩
  obtain rfl : i = 0 := by simpa using hi
  exact ⟨World.cell?_alloc_at _ _ _ _ rfl, World.cell?_alloc_at _ _ _ _ rfl⟩

set_option maxRecDepth 100000 in
set_option maxHeartbeats 3200000 in
/-- placed: of branches that are too long. -/
theorem bplaced_two (t p : Nat) (D S : Stt) (bb off cap m : Nat) (l : List (ByteArray × Nat)) (lvl : Nat) (low : ByteArray) (hfr : S.fresh ≤ 100000) (hlen : l.length ≤ 1000) (hcap : l.length ≤ cap ∧ cap ≤ 9223372036854775807) (hb : ∀ x ∈ l, x.1.size ≤ 1000) (hsz : 495 < sumN (bsizes l) ∧ sumN (bsizes l) ≤ 1000000) (hm : m = middleN (bsizes l)) (hml : m < l.length) (hbt : bb ≠ t) (w : World) (hT : TreeAt w t p D S) (hK : KidsAt w (some ⟨bb, off, none⟩) l) :
    Calls Tryz.prog 86 #[.pointer (some ⟨t, 0, none⟩), .iface 120 (.slice (some ⟨bb, off, none⟩) l.length cap), .int .i64 (lvl : Nat), .string low] w fun e w' => ∃ a a' g, e = .returned (.slice (some ⟨g, 0, none⟩) 2 2) ∧ w.heap.size ≤ a ∧ w.heap.size ≤ a' ∧ a ≠ a' ∧ w.heap.size ≤ g ∧ KidsAt w' (some ⟨g, 0, none⟩) [(low, a), (l[m].1, a')]
      ∧ PlaceAt w' a 0 lvl 0 (.iface 120 (.slice (some ⟨bb, off, none⟩) m cap)) ∧ PlaceAt w' a' 0 lvl 0 (.iface 120 (.slice (some ⟨bb, off + m * 2, none⟩) (l.length - m) (cap - m))) ∧ TreeAt w' t p D { S with fresh := S.fresh + 2 } ∧ Turn [t] w w' := by
  have HT := hide hT
  have HK := hide hK
  have HC := hide (bsizes_any (some ⟨bb, off, none⟩) cap l hlen hb w hK)
  have HLs := hide (bsizes_length l)
  have HM := hide hm
  have htl := hT.lt
  clear hT hK hb hm
  go_enter Tryz.func86, Tryz.ntmps86
  go_wp2_with fail
  refine HC.out.mono ?_
  rintro e w1 ⟨rfl, hR1, hT1⟩
  have HT1 := hide hT1
  have HTr1 := hide (HT.out.turn hT1 (by simp))
  have h1s := hT1.size
  have HTot := hide (total_any w.heap.size l.length (bsizes l) (by rw [HLs.out]; exact hlen) (by omega) w1 hR1)
  have HR1 := hide hR1
  have HMid : Hid (∀ w', Turn [] w1 w' → Calls Tryz.prog 119 #[.slice (some ⟨w.heap.size, 0, none⟩) l.length l.length] w' fun e w'' => e = .returned (.int .i64 (m : Nat)) ∧ w'' = w') := fun w' hw' => by
    have := middle_any w.heap.size l.length (bsizes l) (by rw [HLs.out]; exact hlen) (by omega) w' (HR1.out.turn0 hw')
    rw [HLs.out, ← HM.out] at this
    exact this
  rw [HLs.out] at HTot
  clear hR1 hT1 HC
  generalize hzz : sumN (bsizes l) = z at *
  clear hzz
  have hnz : ¬ ((z : Int) ≤ 495) := by omega
  go_wp2_with fail
  refine HTot.out.mono ?_
  rintro e w2 ⟨rfl, rfl⟩
  go_wp2_with fail
  have HCut : Hid (∀ w', Calls Tryz.prog 191 #[.slice (some ⟨bb, off, none⟩) l.length cap, .int .i64 (m : Nat)] w' fun e w'' => e = .returned (.tuple #[.iface 120 (.slice (some ⟨bb, off, none⟩) m cap), .iface 120 (.slice (some ⟨bb, off + m * 2, none⟩) (l.length - m) (cap - m))]) ∧ Turn [] w' w'') := fun w' => bcut_any bb off l.length cap m hml hcap w'
  have hnil := nil_b
  have hmeth := meth_b
  go_region_with (first
    | (go_at_call 119; refine (HMid.out _ (by first | exact Turn.refl _ _ | exact (Turn.refl [] _).drew)).mono ?_; rintro e w9 ⟨rfl, rfl⟩)
    | (go_at_call 191; refine (HCut.out _).mono ?_; rintro e w3 ⟨rfl, hT3⟩; have HT3 := hide hT3; clear hT3))
  all_goals
    have hT13 : Turn [] w w3 := HT1.out.drew.then HT3.out (by simp)
    have HT13 := hide hT13
    have h13s := hT13.size
    have HTr3 := hide (HT.out.turn hT13 (by simp))
    have HK3 := hide (HK.out.turn0 hT13)
    clear hT13 HMid HCut
    go_wp2_with fail
    refine (place_any t p D S 120 _ lvl (by omega) w3 HTr3.out).mono ?_
    rintro e w4 ⟨a, rfl, ha, hP4, hTr4, hT4⟩
    have HP4 := hide hP4
    have HTr4 := hide hTr4
    have HT4 := hide hT4
    have h4s := hT4.size
    have hal := hP4.lt
    have HLow : Hid (Calls Tryz.prog 193 #[.slice (some ⟨bb, off + m * 2, none⟩) (l.length - m) (cap - m)] w4 fun e w' => e = .returned (.string l[m].1) ∧ w' = w4) := by
      have hd : (l.drop m).length = l.length - m := List.length_drop
      have := blow_any (some ⟨bb, off + m * 2, none⟩) (cap - m) (l.drop m) (by omega) (by omega) w4 ((HK3.out.part m).2.turn HT4.out fun x _ hx => by
        obtain rfl := Option.some.inj hx
        simp
        exact hbt)
      have he : ((l.drop m)[0]'(by omega)).1 = l[m].1 := by simp
      rw [he, hd] at this
      exact this
    clear hP4 hTr4 hT4
    go_wp2_with fail
    refine HLow.out.mono ?_
    rintro e w5 ⟨rfl, rfl⟩
    clear HLow
    go_wp2_with fail
    refine (place_any t p D { S with fresh := S.fresh + 1 } 120 _ lvl (by show S.fresh + 1 ≤ _; omega) w5 HTr4.out).mono ?_
    rintro e w6 ⟨a', rfl, ha', hP6, hTr6, hT6⟩
    have HP6 := hide hP6
    have HTr6 := hide hTr6
    have HT6 := hide hT6
    have h6s := hT6.size
    clear hP6 hTr6 hT6
    go_wp2_with fail
    go_ret
    have hTa : Turn [] w6 (w6.alloc (.cells #[.string low, .pointer (some ⟨a, 0, none⟩), .string l[m].1, .pointer (some ⟨a', 0, none⟩)] 122)) := (Turn.refl [] w6).alloc _
    refine ⟨a, a', w6.heap.size, rfl, by omega, by omega, by omega, by omega, .inr ⟨_, 0, rfl, fun i hi => ?_⟩, (HP4.out.turn HT6.out (by simp; omega)).turn hTa (by simp), HP6.out.turn hTa (by simp), HTr6.out.turn hTa (by simp), (((HT13.out.mono (by simp)).then HT4.out (by simp)).then HT6.out (by simp)).alloc _⟩
    match i, hi with
    | 0, _ => exact ⟨World.cell?_alloc_at _ _ _ _ rfl, World.cell?_alloc_at _ _ _ _ rfl⟩
    | 1, _ => exact ⟨World.cell?_alloc_at _ _ _ _ rfl, World.cell?_alloc_at _ _ _ _ rfl⟩
end Go.Proofs.YthehkckdecckhaaGreatDoor
