/-
  An edit of a tree of one leaf: what comes of it, for a key that is put and for one that is deleted.
-/
import Derived.Test.YthehkckdecckhaaGreatDoorU21
import Derived.Test.YthehkckdecckhaaGreatDoorU33

namespace Go.Proofs.YthehkckdecckhaaGreatDoor
open Go.RowKit Go.Maps

theorem Taken.turn0 {w w1 w2 : World} {t p pg : Nat} {D S S' : Stt} (h : Taken w w1 t p pg D S S') (hT : Turn [] w1 w2) : Taken w w2 t p pg D S S' := by
  obtain ⟨e1, e2, e3, e4, e5⟩ := h
  refine ⟨e1, e2, e3, e4.turn hT (by simp), ?_⟩
  rcases e5 with e5 | ⟨e6, e7, e8⟩
  · exact .inl e5
  · refine .inr ⟨e6, e7, ?_⟩
    obtain ⟨k1, k2 | ⟨g', c', cur, k3, k4, k5, k6⟩⟩ := e8
    · exact ⟨k1, .inl k2⟩
    · exact ⟨k1, .inr ⟨g', c', cur, k3, k4, (hT.block g' (by
        rcases Nat.lt_or_ge g' w1.heap.size with h | h
        · exact h
        · rw [Array.getElem?_eq_none h] at k5; cases k5) (by simp)).trans k5, k6⟩⟩

set_option maxRecDepth 100000 in
set_option maxHeartbeats 1600000 in
theorem edited_del (t p a pg : Nat) (d : Int) (bb off cap : Nat) (l : List (ByteArray × ByteArray)) (D S : Stt) (hne : a ≠ t) (hbb : l ≠ [] → bb ≠ t ∧ bb ≠ a) (hfr : S.fresh ≤ 1000) (hp0 : pg = 0 → 1 ≤ S.fresh) (hp1 : 0 < pg → S.dropped = .slice none 0 0) (hs : Rises (keysOf l)) (hlen : l.length ≤ 1000)
    (kb : Nat) (hkb : kb ≠ t ∧ kb ≠ a) (k : ByteArray) (i : Nat) (hi : i < l.length) (hik : l[i].1 = k) (w : World) (hT : TreeAt w t p D S) (hL : LeafAt w a pg d bb off cap l) (h0 : w.cell? ⟨kb, 0, none⟩ = some (.string k)) :
    Calls Tryz.prog 57 #[.pointer (some ⟨t, 0, none⟩), .pointer (some ⟨a, 0, none⟩), .string k, .func (.func 40) #[] #[.pointer (some ⟨kb, 0, none⟩)]] w fun e w' => ∃ g c, e = .returned (.iface 73 (.slice (some ⟨g, 0, none⟩) (l.eraseIdx i).length c)) ∧ ((l.eraseIdx i).length ≤ c ∧ c ≤ 9223372036854775807) ∧ w.heap.size ≤ g ∧ g < w'.heap.size ∧ KVsAt w' (some ⟨g, 0, none⟩) (l.eraseIdx i) ∧ (∃ S', Taken w w' t p pg D S S') ∧ Turn [t, a] w w' := by
  have hta := ta_ll
  have htb := ta_lb
  have H0 := hide h0
  have HC0 := hide (take_leaf t p a pg d bb off cap l D S hne hbb hfr hp0 hp1 w hT hL)
  have HD : Hid (∀ (w1 : World), KVsAt w1 (some ⟨bb, off, none⟩) l → w1.cell? ⟨kb, 0, none⟩ = some (.string k) → Calls Tryz.prog 40 #[.slice (some ⟨bb, off, none⟩) l.length cap, .pointer (some ⟨kb, 0, none⟩)] w1 fun e w' => ∃ g c, e = .returned (.slice (some ⟨g, 0, none⟩) (l.eraseIdx i).length c) ∧ ((l.eraseIdx i).length ≤ c ∧ c ≤ 9223372036854775807) ∧ w1.heap.size ≤ g ∧ g < w'.heap.size ∧ KVsAt w' (some ⟨g, 0, none⟩) (l.eraseIdx i) ∧ Turn [] w1 w') := fun w1 h1 h2 => tdel1_any bb off cap kb l k i hi hik hs hlen w1 h1 h2
  clear h0 hT hL hs hik hp0 hp1 hbb hi
  generalize l.eraseIdx i = l' at *
  go_enter Tryz.func57, Tryz.ntmps57
  go_wp2_with fail
  refine HC0.out.mono ?_
  rintro e w1 ⟨rfl, hL1, ⟨S', hS'⟩, hT1⟩
  have h01 := (hT1.cell (p := ⟨kb, 0, none⟩) (lt_of_cell H0.out) (by simp; exact hkb)).trans H0.out
  have HC := hide (HD.out w1 hL1.kv h01)
  have HT1 := hide hT1
  have HS' := hide hS'
  have hs1 := hT1.size
  clear h01 hT1 hL1 hS' HD
  go_wp2_with fail
  refine HC.out.mono ?_
  rintro e w2 ⟨g, c, rfl, h1, h2, h3, h4, hT2⟩
  have HK := hide h4
  have HT2 := hide hT2
  clear h4 hT2
  go_wp2_with fail
  go_ret
  exact ⟨g, c, rfl, h1, by omega, h3, HK.out, ⟨S', HS'.out.turn0 HT2.out⟩, HT1.out.then HT2.out (by simp)⟩

set_option maxRecDepth 100000 in
set_option maxHeartbeats 800000 in
theorem rootOf_empty (t : Nat) (x : Option Addr) (cap : Nat) (lvl : Nat) (w : World) :
    Calls Tryz.prog 56 #[.pointer (some ⟨t, 0, none⟩), .iface 73 (.slice x 0 cap), .int .i64 (lvl : Nat)] w fun e w' => e = .returned (.pointer none) ∧ w' = w := by
  have hta := ta_ll
  go_enter Tryz.func56, Tryz.ntmps56
  go_wp2
  go_ret
  exact ⟨rfl, rfl⟩

/-- What became of the pages: a fresh leaf was taken, or a page was dropped. -/
def Spent (w w' : World) (pg : Nat) (S S' : Stt) (more top : Nat) : Prop :=
  S'.keys = S.keys ∧ S'.changed = S.changed ∧ ((pg = 0 ∧ S'.fresh + 1 = S.fresh + more ∧ S'.dropped = S.dropped) ∨ (0 < pg ∧ S'.fresh = S.fresh + more ∧ w'.ownsRow w.heap.size 3 1 S'.dropped 1 [.int .i64 (pg : Nat)] ∧ ∀ g, S'.dropped.ownBlock = some g → g < top))

theorem Spent.of {w w1 w2 : World} {t p pg : Nat} {D S S' S2 : Stt} (h : Taken w w1 t p pg D S S') {X : List Nat} (hT : Turn X w1 w2) (hX : ∀ x ∈ X, x < w.heap.size) (more top : Nat) (htop : w1.heap.size ≤ top) (e1 : S2.keys = S'.keys) (e2 : S2.changed = S'.changed) (e3 : S2.fresh = S'.fresh + more) (e4 : S2.dropped = S'.dropped) : Spent w w2 pg S S2 more top := by
  obtain ⟨_, h2, h3, _, h5⟩ := h
  refine ⟨e1.trans h2, e2.trans h3, ?_⟩
  rcases h5 with ⟨h6, h7, h8⟩ | ⟨h6, h7, h8⟩
  · exact .inl ⟨h6, by omega, e4.trans h8⟩
  · refine .inr ⟨h6, by omega, ?_, fun g hg => Nat.lt_of_lt_of_le (h8.lt g (by rw [← e4]; exact hg)).2 htop⟩
    rw [e4]
    obtain ⟨k1, k2 | ⟨g', c', cur, k3, k4, k5, k6⟩⟩ := h8
    · exact ⟨k1, .inl k2⟩
    · exact ⟨k1, .inr ⟨g', c', cur, k3, k4, (hT.block g' (by
        rcases Nat.lt_or_ge g' w1.heap.size with h | h
        · exact h
        · rw [Array.getElem?_eq_none h] at k5; cases k5) (fun hm => by have := hX _ hm; omega)).trans k5, k6⟩⟩

/-- The new leaf is the root now. -/
theorem edit_tail {w w2 w3 : World} {t p a a3 g cap' pg : Nat} {D S S' : Stt} {l' : List (ByteArray × ByteArray)} (hS' : Taken w w2 t p pg D S S') (hT2 : Turn [t, a] w w2) (hT3 : Turn [t] w2 w3) (htl : t < w.heap.size) (hgn : w.heap.size ≤ g) (hgl : g < w2.heap.size) (ha3 : w2.heap.size ≤ a3) (hk : KVsAt w2 (some ⟨g, 0, none⟩) l') (hc : l'.length ≤ cap' ∧ cap' ≤ 9223372036854775807) (hP3 : PlaceAt w3 a3 0 1 0 (.iface 73 (.slice (some ⟨g, 0, none⟩) l'.length cap'))) (hTr3 : TreeAt w3 t p D { S' with fresh := S'.fresh + 1 }) :
    w.heap.size ≤ a3 ∧ g < a3 ∧ LeafAt (w3.setCell ⟨t, 6, none⟩ (.pointer (some ⟨a3, 0, none⟩))) a3 0 0 g 0 cap' l' ∧ (∃ S2, TreeAt (w3.setCell ⟨t, 6, none⟩ (.pointer (some ⟨a3, 0, none⟩))) t p D S2 ∧ S2.root = some a3 ∧ Spent w (w3.setCell ⟨t, 6, none⟩ (.pointer (some ⟨a3, 0, none⟩))) pg S S2 1 a3) ∧ Turn [t, a] w (w3.setCell ⟨t, 6, none⟩ (.pointer (some ⟨a3, 0, none⟩))) := by
  have hs2 := hT2.size
  have hTs : Turn [t] w3 (w3.setCell ⟨t, 6, none⟩ (.pointer (some ⟨a3, 0, none⟩))) := (Turn.refl [t] w3).setCell (List.mem_singleton.2 rfl) 6 _
  have hgt : g ≠ t := by omega
  have hat : a3 ≠ t := by omega
  exact ⟨by omega, by omega, ⟨hP3.turn hTs (by simp; exact hat), .inl rfl, (hk.turn hT3 (fun x _ hx => by obtain rfl := Option.some.inj hx; simp; exact hgt)).turn hTs (fun x _ hx => by obtain rfl := Option.some.inj hx; simp; exact hgt), hc⟩, ⟨_, hTr3.setRoot (some a3), rfl, Spent.of hS' ((hT3.trans hTs) : Turn [t] w2 _) (fun x hx => by simp at hx; omega) 1 a3 ha3 rfl rfl rfl rfl⟩, (hT2.trans (hT3.mono (by simp))).trans (hTs.mono (by simp))⟩

set_option maxRecDepth 100000 in
set_option maxHeartbeats 3200000 in
theorem edit_put (t p kb : Nat) (D S : Stt) (a pg : Nat) (d : Int) (bb off cap : Nat) (l : List (ByteArray × ByteArray)) (hr : S.root = some a) (hne : a ≠ t) (hbb : bb ≠ t ∧ bb ≠ a) (hfr : S.fresh ≤ 500) (hp0 : pg = 0 → 1 ≤ S.fresh) (hp1 : 0 < pg → S.dropped = .slice none 0 0) (hs : Rises (keysOf l)) (hlen : l.length ≤ 900) (hkb : kb ≠ t ∧ kb ≠ a) (k v : ByteArray)
    (hfit : ∀ i f, IsPos (keysOf l) k i → (f = true ↔ Stands l k i) → Short (putL l i f (k, v)) ∧ lsize (putL l i f (k, v)) ≤ 495) (w : World) (hT : TreeAt w t p D S) (hL : LeafAt w a pg d bb off cap l) (h0 : w.cell? ⟨kb, 0, none⟩ = some (.string k)) (h1 : w.cell? ⟨kb, 1, none⟩ = some (.string v)) :
    Calls Tryz.prog 37 #[.pointer (some ⟨t, 0, none⟩), .string k, .func (.func 38) #[] #[.pointer (some ⟨kb, 0, none⟩)]] w fun e w' => e = .returned (.tuple #[]) ∧ ∃ i f a' g cap' S', IsPos (keysOf l) k i ∧ (f = true ↔ Stands l k i) ∧ w.heap.size ≤ a' ∧ w.heap.size ≤ g ∧ g < a' ∧ LeafAt w' a' 0 0 g 0 cap' (putL l i f (k, v)) ∧ TreeAt w' t p D S' ∧ S'.root = some a' ∧ Spent w w' pg S S' 1 a' ∧ Turn [t, a] w w' := by
  have HT := hide hT
  have h6 : w.cell? ⟨t, 6, none⟩ = some (.pointer (some ⟨a, 0, none⟩)) := by have := hT.now.c0; rw [hr] at this; exact this
  have HC := hide (edited_leaf t p a pg d bb off cap l D S hne (fun _ => hbb) (by omega) hp0 hp1 hs (by omega) kb hkb k v w hT hL h0 h1)
  have htl := hT.lt
  have HL := hide hL
  have HFit := hide hfit
  clear hT h0 h1 hL hs hp0 hp1 hfit
  go_enter Tryz.func37, Tryz.ntmps37
  go_wp2_with fail
  refine (height_some t p a 1 D S hr w HT.out HL.out.place.c1).mono ?_
  rintro e w1 ⟨rfl, rfl⟩
  go_wp2_with fail
  refine HC.out.mono ?_
  rintro e w2 ⟨i, f, g, cap', rfl, hN, hL2, ⟨S', hS'⟩, hT2⟩
  obtain ⟨e1, e2, e3, hTr2, e5⟩ := id hS'
  obtain ⟨hsh, hsz⟩ := HFit.out i f hN.pos hN.is
  have hln : (putL l i f (k, v)).length ≤ 1000 := by
    unfold putL
    simp
    split <;> omega
  have hl0 : 0 < (putL l i f (k, v)).length := by unfold putL; simp; omega
  have hfr' : S'.fresh ≤ 1000 := by rcases e5 with ⟨_, h, _⟩ | ⟨_, h, _⟩ <;> omega
  have HR := hide (rootOf_leaf t p D S' g 0 cap' (putL l i f (k, v)) 1 hl0 hfr' hln (fun x hx => by have := hsh x hx; omega) hsz w2 hTr2 hN.kv)
  have HT2 := hide hT2
  have hs2 := hT2.size
  have HN := hide hN
  have HS' := hide hS'
  obtain ⟨n, HLn⟩ : ∃ n, Hid ((putL l i f (k, v)).length = n) := ⟨_, rfl⟩
  rw [HLn.out] at HR ⊢
  clear hN hTr2 hL2 hT2 HC HFit hsh hsz hS' e1 e2 e3 e5 hln hl0
  go_wp2_with fail
  refine HR.out.mono ?_
  rintro e w3 ⟨a3, rfl, ha3, hP3, hTr3, hT3⟩
  have HTr3 := hide hTr3
  have HT3 := hide hT3
  have HP3 := hide hP3
  have h63 := hTr3.now.c0
  have f63 := hTr3.fz 6
  clear hP3 hTr3 hT3
  go_wp2_with fail
  go_end0
  obtain ⟨h1, h2, h3, ⟨S2, h4, h5, h6⟩, h7⟩ := edit_tail HS'.out HT2.out HT3.out htl HN.out.new HN.out.lt ha3 HN.out.kv HN.out.cap (by rw [HLn.out]; exact HP3.out) HTr3.out
  exact ⟨rfl, i, f, a3, g, cap', S2, HN.out.pos, HN.out.is, h1, HN.out.new, h2, h3, h4, h5, h6, h7⟩

set_option maxRecDepth 100000 in
set_option maxHeartbeats 3200000 in
theorem edit_del (t p kb : Nat) (D S : Stt) (a pg : Nat) (d : Int) (bb off cap : Nat) (l : List (ByteArray × ByteArray)) (hr : S.root = some a) (hne : a ≠ t) (hbb : bb ≠ t ∧ bb ≠ a) (hfr : S.fresh ≤ 500) (hp0 : pg = 0 → 1 ≤ S.fresh) (hp1 : 0 < pg → S.dropped = .slice none 0 0) (hs : Rises (keysOf l)) (hlen : l.length ≤ 900) (hkb : kb ≠ t ∧ kb ≠ a) (k : ByteArray) (i : Nat) (hi : i < l.length) (hik : l[i].1 = k)
    (hsh : Short (l.eraseIdx i)) (hsz : lsize (l.eraseIdx i) ≤ 495) (w : World) (hT : TreeAt w t p D S) (hL : LeafAt w a pg d bb off cap l) (h0 : w.cell? ⟨kb, 0, none⟩ = some (.string k)) :
    Calls Tryz.prog 37 #[.pointer (some ⟨t, 0, none⟩), .string k, .func (.func 40) #[] #[.pointer (some ⟨kb, 0, none⟩)]] w fun e w' => e = .returned (.tuple #[]) ∧ (∃ S', TreeAt w' t p D S' ∧ ((l.eraseIdx i = [] ∧ S'.root = none ∧ Spent w w' pg S S' 0 w'.heap.size) ∨ (∃ a' g cap', l.eraseIdx i ≠ [] ∧ w.heap.size ≤ a' ∧ w.heap.size ≤ g ∧ g < a' ∧ LeafAt w' a' 0 0 g 0 cap' (l.eraseIdx i) ∧ S'.root = some a' ∧ Spent w w' pg S S' 1 a'))) ∧ Turn [t, a] w w' := by
  have HT := hide hT
  have h6 : w.cell? ⟨t, 6, none⟩ = some (.pointer (some ⟨a, 0, none⟩)) := by have := hT.now.c0; rw [hr] at this; exact this
  have HC := hide (edited_del t p a pg d bb off cap l D S hne (fun _ => hbb) (by omega) hp0 hp1 hs (by omega) kb hkb k i hi hik w hT hL h0)
  have htl := hT.lt
  have HL := hide hL
  have hln : (l.eraseIdx i).length ≤ 1000 := by rw [List.length_eraseIdx_of_lt hi]; omega
  clear hT h0 hL hs hp0 hp1 hik hi
  generalize l.eraseIdx i = l' at *
  go_enter Tryz.func37, Tryz.ntmps37
  go_wp2_with fail
  refine (height_some t p a 1 D S hr w HT.out HL.out.place.c1).mono ?_
  rintro e w1 ⟨rfl, rfl⟩
  go_wp2_with fail
  refine HC.out.mono ?_
  rintro e w2 ⟨g, cap', rfl, hc, hg, hgl, hkv, ⟨S', hS'⟩, hT2⟩
  obtain ⟨e1, e2, e3, hTr2, e5⟩ := id hS'
  have hfr' : S'.fresh ≤ 1000 := by rcases e5 with ⟨_, h, _⟩ | ⟨_, h, _⟩ <;> omega
  have HT2 := hide hT2
  have HS' := hide hS'
  have hs2 := hT2.size
  have HK := hide hkv
  by_cases hnil : l' = []
  · have e0 : l'.length = 0 := by rw [hnil]; rfl
    rw [e0]
    have HNil := hide hnil
    have h62 := hTr2.now.c0
    have f62 := hTr2.fz 6
    have HTr2 := hide hTr2
    clear hTr2 hT2 HC hS' e1 e2 e3 e5 hkv hnil e0 hln
    go_wp2_with fail
    refine (rootOf_empty t (some ⟨g, 0, none⟩) cap' 1 w2).mono ?_
    rintro e w3 ⟨rfl, rfl⟩
    go_wp2_with fail
    go_end0
    have hTs : Turn [t] w3 (w3.setCell ⟨t, 6, none⟩ (.pointer none)) := (Turn.refl [t] w3).setCell (List.mem_singleton.2 rfl) 6 _
    exact ⟨rfl, ⟨_, HTr2.out.setRoot none, .inl ⟨HNil.out, rfl, Spent.of HS'.out hTs (fun x hx => by simp at hx; omega) 0 _ hTs.size rfl rfl rfl rfl⟩⟩, HT2.out.trans (hTs.mono (by simp))⟩
  · have hl0 : 0 < l'.length := List.length_pos_iff.2 hnil
    have HR := hide (rootOf_leaf t p D S' g 0 cap' l' 1 hl0 hfr' hln (fun x hx => by have := hsh x hx; omega) hsz w2 hTr2 hkv)
    obtain ⟨n, HLn⟩ : ∃ n, Hid (l'.length = n) := ⟨_, rfl⟩
    rw [HLn.out] at HR
    have HCp := hide hc
    rw [HLn.out]
    clear hTr2 hT2 HC hS' e1 e2 e3 e5 hkv hln hl0 hc
    go_wp2_with fail
    refine HR.out.mono ?_
    rintro e w3 ⟨a3, rfl, ha3, hP3, hTr3, hT3⟩
    have HTr3 := hide hTr3
    have HT3 := hide hT3
    have HP3 := hide hP3
    have h63 := hTr3.now.c0
    have f63 := hTr3.fz 6
    clear hP3 hTr3 hT3
    go_wp2_with fail
    go_end0
    obtain ⟨h1, h2, h3, ⟨S2, h4, h5, h6⟩, h7⟩ := edit_tail HS'.out HT2.out HT3.out htl hg hgl ha3 HK.out HCp.out (by rw [HLn.out]; exact HP3.out) HTr3.out
    exact ⟨rfl, ⟨S2, h4, .inr ⟨a3, g, cap', hnil, h1, hg, h2, h3, h5, h6⟩⟩, h7⟩

end Go.Proofs.YthehkckdecckhaaGreatDoor
