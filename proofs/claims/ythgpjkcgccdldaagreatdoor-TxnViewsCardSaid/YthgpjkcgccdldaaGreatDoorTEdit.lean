/-
  An edit of a tree that is one leaf, or none: take, place, placed, rootOf, edited, edit.
-/
import Derived.Test.YthgpjkcgccdldaaGreatDoorTTree
import Derived.Test.YthgpjkcgccdldaaGreatDoorTSize
import Derived.Deep.RegionLaw
import Derived.Deep.RegionHeld3
import Derived.Deep.RegionLawGrows
namespace Go.Proofs.YthgpjkcgccdldaaGreatDoor
open Go.RowKit Go.Maps

theorem ta_ll (v : Value) (w : World) : (Instr.typeAssert (.iface 137 v) 156 137 true).run Tryz.prog w = .ok (.tuple #[v, .bool true]) w := by kernel_rfl
theorem ta_lb (v : Value) (w : World) : (Instr.typeAssert (.iface 137 v) 156 170 true).run Tryz.prog w = .ok (.tuple #[.slice none 0 0, .bool false]) w := by kernel_rfl
theorem ta_bb (v : Value) (w : World) : (Instr.typeAssert (.iface 170 v) 156 170 true).run Tryz.prog w = .ok (.tuple #[v, .bool true]) w := by kernel_rfl
theorem ta_bl (v : Value) (w : World) : (Instr.typeAssert (.iface 170 v) 156 137 true).run Tryz.prog w = .ok (.tuple #[.slice none 0 0, .bool false]) w := by kernel_rfl

theorem zero104 (w : World) : Sem.run Tryz.prog (zeroValue 158) w = .ok (.agg #[.int .i64 0, .int .i64 0, .int .u32 0, .int .i32 0, .int .u32 0, .nilIface]) w := by kernel_rfl

set_option maxRecDepth 100000 in
set_option maxHeartbeats 1600000 in
theorem place_any (t p : Nat) (D S : Stt) (T : TypeId) (v : Value) (lvl : Nat) (hfr : S.fresh ≤ 1000000) (w : World) (hT : TreeAt w t p D S) :
    Calls Tryz.prog 130 #[.pointer (some ⟨t, 0, none⟩), .iface T v, .int .i64 (lvl : Nat)] w fun e w' => ∃ a, e = .returned (.pointer (some ⟨a, 0, none⟩)) ∧ w.heap.size ≤ a ∧ PlaceAt w' a 0 lvl 0 (.iface T v) ∧ TreeAt w' t p D { S with fresh := S.fresh + 1 } ∧ Turn [t] w w' := by
  have h9 := hT.now.c3
  have f9 := hT.fz 9
  have HT := hide hT
  have hz := zero104
  have htl := hT.lt
  clear hT
  go_enter Tryz.func130, Tryz.ntmps130
  go_wp2_with fail
  go_ret
  have hT1 := HT.out.setFresh (S.fresh + 1)
  rw [show ((S.fresh + 1 : Nat) : Int) = (S.fresh : Int) + 1 by omega] at hT1
  have hs : (w.setCell ⟨t, 9, none⟩ (.int .i64 ((S.fresh : Int) + 1))).heap.size = w.heap.size := by simp
  refine ⟨w.heap.size, rfl, Nat.le_refl _, ?_, hT1.turn ((Turn.refl [] _).alloc _) (by simp), ((Turn.refl [t] w).setCell (List.mem_singleton.2 rfl) 9 _).alloc _⟩
  rw [← hs]
  exact ⟨World.cell?_alloc_at _ _ _ _ rfl, World.cell?_alloc_at _ _ _ _ rfl, World.cell?_alloc_at _ _ _ _ rfl, World.cell?_alloc_at _ _ _ _ rfl, World.cell?_alloc_at _ _ _ _ rfl, fun o => World.frozen?_alloc_at _ _ _ _ rfl⟩

/-- A leaf's bytes in a page. -/
def lsize (l : List (ByteArray × ByteArray)) : Nat := sumN (lsizes l)

set_option maxRecDepth 100000 in
set_option maxHeartbeats 3200000 in
theorem placed_fits (t p : Nat) (D S : Stt) (bb off cap : Nat) (l : List (ByteArray × ByteArray)) (lvl : Nat) (low : ByteArray) (hfr : S.fresh ≤ 1000) (hlen : l.length ≤ 1000) (hb : ∀ x ∈ l, x.1.size ≤ 1000 ∧ x.2.size ≤ 1000) (hsz : lsize l ≤ 495) (w : World) (hT : TreeAt w t p D S) (hK : KVsAt w (some ⟨bb, off, none⟩) l) :
    Calls Tryz.prog 129 #[.pointer (some ⟨t, 0, none⟩), .iface 137 (.slice (some ⟨bb, off, none⟩) l.length cap), .int .i64 (lvl : Nat), .string low] w fun e w' => ∃ a g, e = .returned (.slice (some ⟨g, 0, none⟩) 1 1) ∧ w.heap.size ≤ a ∧ w.heap.size ≤ g ∧ w'.cell? ⟨g, 0, none⟩ = some (.string low) ∧ w'.cell? ⟨g, 1, none⟩ = some (.pointer (some ⟨a, 0, none⟩)) ∧ PlaceAt w' a 0 lvl 0 (.iface 137 (.slice (some ⟨bb, off, none⟩) l.length cap)) ∧ TreeAt w' t p D { S with fresh := S.fresh + 1 } ∧ Turn [t] w w' := by
  have HT := hide hT
  have HK := hide hK
  have HB := hide hb
  have HLs := hide (lsizes_length l)
  clear hT hK hb
  go_enter Tryz.func129, Tryz.ntmps129
  go_wp2_with fail
  refine (lsizes_any (some ⟨bb, off, none⟩) cap l hlen HB.out w HK.out).mono ?_
  rintro e w1 ⟨rfl, hR1, hT1⟩
  have HR1 := hide hR1
  have HT1 := hide hT1
  have HTr1 := hide (HT.out.turn hT1 (by simp))
  have h1s := hT1.size
  clear hR1 hT1
  have HTot := hide (total_any w.heap.size l.length (lsizes l) (by rw [HLs.out]; exact hlen) (by unfold lsize at hsz; omega) w1 HR1.out)
  rw [HLs.out] at HTot
  change Hid (Calls Tryz.prog 156 _ w1 fun e w' => e = .returned (.int .i64 (lsize l : Nat)) ∧ w' = w1) at HTot
  generalize lsize l = z at *
  go_wp2_with fail
  refine HTot.out.mono ?_
  rintro e w2 ⟨rfl, rfl⟩
  go_wp2_with fail
  refine (place_any t p D S 137 _ lvl (by omega) w2 HTr1.out).mono ?_
  rintro e w3 ⟨a, rfl, ha, hP3, hTr3, hT3⟩
  have HP3 := hide hP3
  have HTr3 := hide hTr3
  have HT3 := hide hT3
  have h3s := hT3.size
  clear hP3 hTr3 hT3
  go_wp2_with fail
  go_ret
  have hTa : Turn [] w3 (w3.alloc (.cells #[.string low, .pointer (some ⟨a, 0, none⟩)] 173)) := (Turn.refl [] w3).alloc _
  exact ⟨a, w3.heap.size, rfl, by omega, by omega, World.cell?_alloc_at _ _ _ _ rfl, World.cell?_alloc_at _ _ _ _ rfl, HP3.out.turn hTa (by simp), HTr3.out.turn hTa (by simp), ((show Turn [t] w w2 from ⟨HT1.out.os, HT1.out.tape, HT1.out.output, HT1.out.size, fun i hi _ => HT1.out.block i hi (by simp)⟩).then HT3.out (by simp)).alloc _⟩

set_option maxRecDepth 100000 in
set_option maxHeartbeats 3200000 in
theorem rootOf_leaf (t p : Nat) (D S : Stt) (bb off cap : Nat) (l : List (ByteArray × ByteArray)) (lvl : Nat) (hne : 0 < l.length) (hfr : S.fresh ≤ 1000) (hlen : l.length ≤ 1000) (hb : ∀ x ∈ l, x.1.size ≤ 1000 ∧ x.2.size ≤ 1000) (hsz : lsize l ≤ 495) (w : World) (hT : TreeAt w t p D S) (hK : KVsAt w (some ⟨bb, off, none⟩) l) :
    Calls Tryz.prog 95 #[.pointer (some ⟨t, 0, none⟩), .iface 137 (.slice (some ⟨bb, off, none⟩) l.length cap), .int .i64 (lvl : Nat)] w fun e w' => ∃ a, e = .returned (.pointer (some ⟨a, 0, none⟩)) ∧ w.heap.size ≤ a ∧ PlaceAt w' a 0 lvl 0 (.iface 137 (.slice (some ⟨bb, off, none⟩) l.length cap)) ∧ TreeAt w' t p D { S with fresh := S.fresh + 1 } ∧ Turn [t] w w' := by
  have HC := hide (placed_fits t p D S bb off cap l lvl ⟨#[]⟩ hfr hlen hb hsz w hT hK)
  have hnz : ((l.length : Int) == 0) = false := by
    rw [beq_eq_false_iff_ne]
    omega
  have hta := ta_ll
  clear hT hK hb hsz
  go_enter Tryz.func95, Tryz.ntmps95
  go_wp2_with fail
  refine HC.out.mono ?_
  rintro e w1 ⟨a, g, rfl, ha, hg, h0, h1, hP, hTr, hT⟩
  have HP := hide hP
  have HTr := hide hTr
  have HT := hide hT
  clear hP hTr hT
  go_wp2_with fail
  go_ret
  exact ⟨a, rfl, ha, HP.out, HTr.out, HT.out⟩

set_option maxRecDepth 100000 in
set_option maxHeartbeats 1600000 in
theorem take_nil (t : Nat) (w : World) :
    Calls Tryz.prog 131 #[.pointer (some ⟨t, 0, none⟩), .pointer none] w fun e w' => ∃ b, e = .returned (.iface 137 (.slice (some ⟨b, 0, none⟩) 0 0)) ∧ Turn [] w w' := by
  go_enter Tryz.func131, Tryz.ntmps131
  go_wp2_with fail
  refine (nodeAt_nil t w).mono ?_
  rintro e w1 ⟨b, rfl, hT⟩
  go_wp2_with fail
  go_ret
  exact ⟨b, rfl, hT⟩

set_option maxRecDepth 100000 in
set_option maxHeartbeats 1600000 in
theorem take_fresh (t p a lvl : Nat) (d : Int) (hd : d = 0 ∨ d = 1) (T : TypeId) (v : Value) (D S : Stt) (hne : a ≠ t) (hfr : 1 ≤ S.fresh ∧ S.fresh ≤ 1000) (w : World) (hT : TreeAt w t p D S) (hP : PlaceAt w a 0 lvl d (.iface T v)) :
    Calls Tryz.prog 131 #[.pointer (some ⟨t, 0, none⟩), .pointer (some ⟨a, 0, none⟩)] w fun e w' => e = .returned (.iface T v) ∧ PlaceAt w' a 0 lvl 1 (.iface T v) ∧ TreeAt w' t p D { S with fresh := S.fresh - 1 } ∧ Turn [t, a] w w' := by
  have HT := hide hT
  have HP := hide hP
  clear hT hP
  go_enter Tryz.func131, Tryz.ntmps131
  go_wp2_with fail
  refine (nodeAt_some t a 0 lvl d hd T v w HP.out).mono ?_
  rintro e w1 ⟨rfl, hP1, hT1⟩
  have HTr1 := hide (HT.out.turn hT1 (by simp; exact hne.symm))
  have h0 := hP1.c0
  have h9 := HTr1.out.now.c3
  have f9 := HTr1.out.fz 9
  have HP1 := hide hP1
  have HT1 := hide hT1
  clear hP1 hT1
  go_wp2_with fail
  go_ret
  have hT2 := HTr1.out.setFresh (S.fresh - 1)
  rw [show ((S.fresh - 1 : Nat) : Int) = (S.fresh : Int) - 1 by omega] at hT2
  have hTt : Turn [t] w1 (w1.setCell ⟨t, 9, none⟩ (.int .i64 ((S.fresh : Int) - 1))) := (Turn.refl [t] w1).setCell (List.mem_singleton.2 rfl) 9 _
  exact ⟨rfl, HP1.out.turn hTt (by simp; exact hne), hT2, (HT1.out.mono (by simp)).trans (hTt.mono (by simp))⟩
end Go.Proofs.YthgpjkcgccdldaaGreatDoor

/-
  An edit of a tree that is one leaf, or none: a leaf on a page is taken; the closure of Put; edited, edit.
-/
namespace Go.Proofs.YthgpjkcgccdldaaGreatDoor
open Go.RowKit Go.Maps

theorem one_src (W : World) (x : Value) (t : TypeId) : ∀ j u, [x][j]? = some u → (W.alloc (.cells #[x] t)).cell? ((⟨W.heap.size, 0, none⟩ : Addr).add j) = some u := by
  intro j u hj
  match j, hj with
  | 0, hj => exact (World.cell?_alloc_at #[x] t _ 0 rfl).trans hj

theorem own_form {w : World} {base e size n : Nat} {v : Value} {xs : List Value} (h : w.ownsRow base e size v n xs) : ∃ a c, v = .slice a n c := by
  obtain ⟨_, ⟨rfl, rfl⟩ | ⟨g, cap, cur, rfl, _⟩⟩ := h
  · exact ⟨none, 0, rfl⟩
  · exact ⟨_, cap, rfl⟩

set_option maxRecDepth 100000 in
set_option maxHeartbeats 3200000 in
theorem take_page (t p a pg lvl : Nat) (d : Int) (hd : d = 0 ∨ d = 1) (T : TypeId) (v : Value) (D S : Stt) (hne : a ≠ t) (hpg : 0 < pg) (hdr : S.dropped = .slice none 0 0) (w : World) (hT : TreeAt w t p D S) (hP : PlaceAt w a pg lvl d (.iface T v)) :
    Calls Tryz.prog 131 #[.pointer (some ⟨t, 0, none⟩), .pointer (some ⟨a, 0, none⟩)] w fun e w' => e = .returned (.iface T v) ∧ PlaceAt w' a pg lvl 1 (.iface T v) ∧ (∃ dv, w'.ownsRow w.heap.size 3 1 dv 1 [.int .i64 (pg : Nat)] ∧ TreeAt w' t p D { S with dropped := dv }) ∧ Turn [t, a] w w' := by
  have HT := hide hT
  have HP := hide hP
  have hpz : ((pg : Int) == 0) = false := by rw [beq_eq_false_iff_ne]; omega
  clear hT hP
  go_enter Tryz.func131, Tryz.ntmps131
  go_wp2_with fail
  refine (nodeAt_some t a pg lvl d hd T v w HP.out).mono ?_
  rintro e w1 ⟨rfl, hP1, hT1⟩
  have HTr1 := hide (HT.out.turn hT1 (by simp; exact hne.symm))
  have h0 := hP1.c0
  have h10 := HTr1.out.now.c4
  rw [hdr] at h10
  have f10 := HTr1.out.fz 10
  have HP1 := hide hP1
  have HT1 := hide hT1
  have hal := hP1.lt
  have htl := HTr1.out.lt
  obtain ⟨i0, hi, hz0, hz1, hz2⟩ := info_parts info3
  clear hP1 hT1
  go_wp2_with fail
  go_region_law (refine step_append_grows rfl (.tmp 14) (.tmp 19) 60 rfl 3 i0 (.int .i64 0) 1 8 Tryz.underlying60 hi hz0 hz1 hz2 rfl (by decide) none 0 0 [] (by simp [Act.eval]) (by simp) rfl (by simp) ⟨w1.heap.size, 0, none⟩ 1 1 [.int .i64 (pg : Nat)] (by simp [Act.eval]) rfl (by exact one_src w1 _ _) (by simp [Value.oneCell']) (by omega) (by unfold maxLen; omega) (by omega) ?_; intro v' w6 h1 h2; obtain ⟨av, cv, rfl⟩ := own_form h1; have hT6 : Turn [] w1 w6 := ((Turn.refl [] w1).alloc _).drew.grown h2 (by simp); have hTr6 := HTr1.out.turn hT6 (by simp); have h106 := hTr6.now.c4; have f106 := hTr6.fz 10; have HR6 := hide h1; have HT6 := hide hT6; have HTr6 := hide hTr6; have hs6 := hT6.size; clear h1 h2 hT6 hTr6)
  all_goals
    go_wp2_with fail
    go_ret
    have hTs : Turn [t] w6 (w6.setCell ⟨t, 10, none⟩ (.slice av (0 + 1) cv)) := (Turn.refl [t] w6).setCell (List.mem_singleton.2 rfl) 10 _
    have hw := HT1.out.size
    refine ⟨rfl, ((HP1.out.turn HT6.out (by simp)).turn hTs (by simp; exact hne)), ⟨.slice av (0 + 1) cv, ?_, HTr6.out.setDropped _⟩, ((HT1.out.mono (by simp)).then HT6.out (by simp)).trans (hTs.mono (by simp))⟩
    obtain ⟨g1, g2 | ⟨g, cap', cur, e, hb', hg, rest⟩⟩ := HR6.out
    · exact ⟨g1, .inl g2⟩
    · refine ⟨g1, .inr ⟨g, cap', cur, e, by simp at hb'; omega, ?_, rest⟩⟩
      have hgt : g ≠ t := by
        intro e
        simp at hb'
        omega
      exact (hTs.block g (by
        rcases Nat.lt_or_ge g w6.heap.size with h | h
        · exact h
        · rw [Array.getElem?_eq_none h] at hg; cases hg) (by simp; exact hgt)).trans hg

/-- Keys of a leaf, and values, are not too long. -/
def Short (l : List (ByteArray × ByteArray)) : Prop := ∀ x ∈ l, x.1.size ≤ 48 ∧ x.2.size ≤ 120

set_option maxRecDepth 100000 in
set_option maxHeartbeats 1600000 in
theorem put1_any (b off cap kb : Nat) (l : List (ByteArray × ByteArray)) (k v : ByteArray) (hs : Rises (keysOf l)) (hlen : l.length ≤ 1000) (hcap : l.length ≤ cap ∧ cap ≤ 9223372036854775807) (w : World) (hK : KVsAt w (some ⟨b, off, none⟩) l) (h0 : w.cell? ⟨kb, 0, none⟩ = some (.string k)) (h1 : w.cell? ⟨kb, 1, none⟩ = some (.string v)) :
    Calls Tryz.prog 68 #[.slice (some ⟨b, off, none⟩) l.length cap, .pointer (some ⟨kb, 0, none⟩)] w fun e w' => ∃ i f r, e = .returned r ∧ IsPos (keysOf l) k i ∧ (f = true ↔ Stands l k i) ∧ w'.ownsRow w.heap.size 55 2 r (putL l i f (k, v)).length (flat (kvCells (putL l i f (k, v)))) ∧ Turn [] w w' := by
  have HC := hide (lput_any b off cap l k v hs hlen hcap w hK)
  clear hK hs
  go_enter Tryz.func68, Tryz.ntmps68
  go_wp2_with fail
  refine HC.out.mono ?_
  rintro e w1 ⟨i, f, r, rfl, g1, g2, g3, g4⟩
  have G1 := hide g1
  have G2 := hide g2
  have G3 := hide g3
  have G4 := hide g4
  clear g1 g2 g3 g4
  go_wp2_with fail
  go_ret
  exact ⟨i, f, r, rfl, G1.out, G2.out, G3.out, G4.out⟩

/-- A leaf in its place: in block a, its row in block bb. -/
structure LeafAt (w : World) (a pg : Nat) (d : Int) (bb off cap : Nat) (l : List (ByteArray × ByteArray)) : Prop where
  place : PlaceAt w a pg 1 d (.iface 137 (.slice (some ⟨bb, off, none⟩) l.length cap))
  d01 : d = 0 ∨ d = 1
  kv : KVsAt w (some ⟨bb, off, none⟩) l
  cap : l.length ≤ cap ∧ cap ≤ 9223372036854775807

/-- What a taken leaf leaves of the state. -/
def Taken (w w' : World) (t p pg : Nat) (D S : Stt) (S' : Stt) : Prop :=
  S'.root = S.root ∧ S'.keys = S.keys ∧ S'.changed = S.changed ∧ TreeAt w' t p D S' ∧
    ((pg = 0 ∧ S'.fresh + 1 = S.fresh ∧ S'.dropped = S.dropped) ∨ (0 < pg ∧ S'.fresh = S.fresh ∧ w'.ownsRow w.heap.size 3 1 S'.dropped 1 [.int .i64 (pg : Nat)]))

theorem take_leaf (t p a pg : Nat) (d : Int) (bb off cap : Nat) (l : List (ByteArray × ByteArray)) (D S : Stt) (hne : a ≠ t) (hbb : l ≠ [] → bb ≠ t ∧ bb ≠ a) (hfr : S.fresh ≤ 1000) (h0 : pg = 0 → 1 ≤ S.fresh) (h1 : 0 < pg → S.dropped = .slice none 0 0) (w : World) (hT : TreeAt w t p D S) (hL : LeafAt w a pg d bb off cap l) :
    Calls Tryz.prog 131 #[.pointer (some ⟨t, 0, none⟩), .pointer (some ⟨a, 0, none⟩)] w fun e w' => e = .returned (.iface 137 (.slice (some ⟨bb, off, none⟩) l.length cap)) ∧ LeafAt w' a pg 1 bb off cap l ∧ (∃ S', Taken w w' t p pg D S S') ∧ Turn [t, a] w w' := by
  have hkv : ∀ w', Turn [t, a] w w' → KVsAt w' (some ⟨bb, off, none⟩) l := fun w' hT' => hL.kv.turn hT' (fun x hl hx => by
    obtain rfl := Option.some.inj hx
    have := hbb hl
    simp
    omega)
  by_cases hp : pg = 0
  · subst hp
    refine (take_fresh t p a 1 d hL.d01 137 _ D S hne ⟨h0 rfl, hfr⟩ w hT hL.place).mono ?_
    rintro e w' ⟨rfl, hP', hT', hTn⟩
    have := h0 rfl
    exact ⟨rfl, ⟨hP', .inr rfl, hkv w' hTn, hL.cap⟩, ⟨{ S with fresh := S.fresh - 1 }, rfl, rfl, rfl, hT', .inl ⟨rfl, by show S.fresh - 1 + 1 = S.fresh; omega, rfl⟩⟩, hTn⟩
  · refine (take_page t p a pg 1 d hL.d01 137 _ D S hne (by omega) (h1 (by omega)) w hT hL.place).mono ?_
    rintro e w' ⟨rfl, hP', ⟨dv, hO, hT'⟩, hTn⟩
    exact ⟨rfl, ⟨hP', .inr rfl, hkv w' hTn, hL.cap⟩, ⟨{ S with dropped := dv }, rfl, rfl, rfl, hT', .inr ⟨by omega, rfl, hO⟩⟩, hTn⟩
end Go.Proofs.YthgpjkcgccdldaaGreatDoor
