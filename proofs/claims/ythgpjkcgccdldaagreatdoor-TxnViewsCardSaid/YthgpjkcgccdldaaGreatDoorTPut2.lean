/-
  Put on a tree without keys.
-/
import Derived.Test.YthgpjkcgccdldaaGreatDoorTPut
namespace Go.Proofs.YthgpjkcgccdldaaGreatDoor
open Go.RowKit Go.Maps

theorem PAt.turnX {X : List Nat} {w w' : World} {p b m sm rb : Nat} {s : St} {q : Pg} (h : PAt w p b m sm rb s q) (hT : Turn X w w') (hX : ∀ x ∈ X, x ≠ 1 ∧ x ≠ p ∧ x ≠ b ∧ x ≠ m ∧ x ≠ sm ∧ x ≠ rb) : PAt w' p b m sm rb s q :=
  h.turn hT (fun hm => (hX 1 hm).1 rfl) (fun hm => (hX p hm).2.1 rfl) (fun hm => (hX b hm).2.2.1 rfl) (fun hm => (hX m hm).2.2.2.1 rfl) (fun hm => (hX sm hm).2.2.2.2.1 rfl) (fun hm => (hX rb hm).2.2.2.2.2 rfl)

theorem toList_empty (k : ByteArray) : k.toList.isEmpty = decide (k.size = 0) := by
  rw [Go.ByteArray.toList_eq]
  have hs : k.size = k.data.toList.length := by rw [Array.length_toList]; rfl
  rw [hs]
  cases k.data.toList <;> simp

set_option maxRecDepth 100000 in
set_option maxHeartbeats 3200000 in
/-- A key, or a value, that may not be. -/
theorem put_bad (t p b m sm rb : Nat) (s : St) (q : Pg) (D S : Stt) (hd : s.dead = false) (hq : q.dead = false) (k v : ByteArray) (hbad : k.size = 0 ∨ 48 < k.size ∨ 120 < v.size) (hkl : k.size ≤ 1000000) (hvl : v.size ≤ 1000000) (w : World) (hA : PAt w p b m sm rb s q) (hT : TreeAt w t p D S) :
    Calls Tryz.prog 42 #[.pointer (some ⟨t, 0, none⟩), .string k, .string v] w fun e w' => e = .returned (.int .i64 (if k.size = 0 ∨ 48 < k.size then 1 else 5)) ∧ (∃ r, PAt w' p b m sm rb s { q with rd := r }) ∧ Turn [p] w w' := by
  have HC := hide (tdead_any t p b m sm rb s q D S hd hq w hA hT)
  clear hA hT
  have hk0 := toList_empty k
  by_cases h1 : k.size = 0
  · rw [if_pos (.inl h1)]
    rw [decide_eq_true h1] at hk0
    clear hbad
    go_enter Tryz.func42, Tryz.ntmps42
    go_wp2_with fail
    refine HC.out.mono ?_
    rintro e w1 ⟨rfl, hA1, hT1⟩
    have HA1 := hide hA1
    clear hA1
    go_wp2_with fail
    go_ret
    exact ⟨rfl, HA1.out, hT1⟩
  · rw [decide_eq_false h1] at hk0
    by_cases h2 : 48 < k.size
    · rw [if_pos (.inr h2)]
      clear hbad
      go_enter Tryz.func42, Tryz.ntmps42
      go_wp2_with fail
      refine HC.out.mono ?_
      rintro e w1 ⟨rfl, hA1, hT1⟩
      have HA1 := hide hA1
      clear hA1
      go_wp2_with fail
      go_ret
      exact ⟨rfl, HA1.out, hT1⟩
    · have h3 : 120 < v.size := by omega
      rw [if_neg (by omega)]
      clear hbad
      go_enter Tryz.func42, Tryz.ntmps42
      go_wp2_with fail
      refine HC.out.mono ?_
      rintro e w1 ⟨rfl, hA1, hT1⟩
      have HA1 := hide hA1
      clear hA1
      go_wp2_with fail
      go_ret
      exact ⟨rfl, HA1.out, hT1⟩

/-- The tree's block is none of the pager's. -/
structure Off (t p b m sm rb : Nat) : Prop where
  one : t ≠ 1
  p : t ≠ p
  b : t ≠ b
  m : t ≠ m
  sm : t ≠ sm
  rb : t ≠ rb

set_option maxRecDepth 100000 in
set_option maxHeartbeats 3200000 in
theorem put_nil (t p b m sm rb : Nat) (s : St) (q : Pg) (D S : Stt) (hd : s.dead = false) (hq : q.dead = false) (hO : Off t p b m sm rb) (hr : S.root = none) (hfr : S.fresh ≤ 500) (hks : S.keys ≤ 1000) (hl : S.fresh ≤ q.left s.n) (k v : ByteArray) (hk1 : 0 < k.size) (hk : k.size ≤ 48) (hv : v.size ≤ 120) (w : World) (hA : PAt w p b m sm rb s q) (hT : TreeAt w t p D S) :
    Calls Tryz.prog 42 #[.pointer (some ⟨t, 0, none⟩), .string k, .string v] w fun e w' => e = .returned (.int .i64 0) ∧ ∃ a g cap, w.heap.size ≤ a ∧ w.heap.size ≤ g ∧ g < a ∧ LeafAt w' a 0 0 g 0 cap [(k, v)] ∧ TreeAt w' t p D { S with root := some a, keys := S.keys + 1, changed := true, fresh := S.fresh + 1 } ∧ PAt w' p b m sm rb s { q with rd := true } ∧ Turn [t, p] w w' := by
  have HC := hide (tdead_any t p b m sm rb s q D S hd hq w hA hT)
  have hk0 : k.toList.isEmpty = false := by rw [toList_empty]; exact decide_eq_false (by omega)
  have HT := hide hT
  have hlle := left_le q s.n
  have htl := hT.lt
  clear hA hT
  go_enter Tryz.func42, Tryz.ntmps42
  go_wp2_with fail
  refine HC.out.mono ?_
  rintro e w1 ⟨rfl, ⟨r, hA1⟩, hT1⟩
  have HTr1 := hide (HT.out.turn hT1 (by simp; exact hO.p))
  have HLf := hide (tleft_any t p b m sm rb s { q with rd := r } D S hd hO.p (by omega) w1 hA1 HTr1.out)
  have HT1 := hide hT1
  change Hid (Calls Tryz.prog 66 _ w1 fun e w' => e = .returned (.int .i64 ((q.left s.n : Nat) - (S.fresh : Nat) : Int)) ∧ PAt w' p b m sm rb s { q with rd := true } ∧ Turn [p] w1 w') at HLf
  generalize q.left s.n = lf at *
  clear hA1 hT1
  go_wp2_with fail
  refine HLf.out.mono ?_
  rintro e w2 ⟨rfl, hA2, hT2⟩
  have HTr2 := hide (HTr1.out.turn hT2 (by simp; exact hO.p))
  have HA2 := hide hA2
  have HT2 := hide (HT1.out.trans hT2)
  have h8 := HTr2.out.now.c2
  have f8 := HTr2.out.fz 8
  have hnl : ¬ ((lf : Int) - (S.fresh : Int) < 0) := by omega
  clear hA2 hT2
  go_wp2_with fail
  have hTs3 : Turn [t] w2 (w2.setCell ⟨t, 8, none⟩ (.bool true)) := (Turn.refl [t] w2).setCell (List.mem_singleton.2 rfl) 8 _
  have HTr3 := hide (HTr2.out.setChanged true)
  have HT3 : Hid (Turn [t, p] w (w2.setCell ⟨t, 8, none⟩ (.bool true))) := (HT2.out.mono (by simp)).trans (hTs3.mono (by simp))
  have HA3 := hide (HA2.out.turnX hTs3 (by simp; exact ⟨hO.one, hO.p, hO.b, hO.m, hO.sm, hO.rb⟩))
  generalize w2.setCell ⟨t, 8, none⟩ (.bool true) = w3 at *
  clear hTs3 h8 f8
  refine (get_nil t p D { S with changed := true } hr k w3 HTr3.out).mono ?_
  rintro e w4 ⟨rfl, hT4⟩
  have HTr4 := hide (HTr3.out.turn hT4 (by simp))
  have HA4 := hide (HA3.out.turn0 hT4)
  have HT4 := hide (HT3.out.then hT4 (by simp))
  have h7 := HTr4.out.now.c1
  have f7 := HTr4.out.fz 7
  clear hT4
  go_wp2_with fail
  have hTs5 : Turn [t] w4 (w4.setCell ⟨t, 7, none⟩ (.int .i64 ((S.keys : Int) + 1))) := (Turn.refl [t] w4).setCell (List.mem_singleton.2 rfl) 7 _
  have hTr5 := HTr4.out.setKeys (S.keys + 1)
  rw [show ((S.keys + 1 : Nat) : Int) = (S.keys : Int) + 1 by omega] at hTr5
  have HTr5 := hide hTr5
  have HT5 : Hid (Turn [t, p] w (w4.setCell ⟨t, 7, none⟩ (.int .i64 ((S.keys : Int) + 1)))) := HT4.out.trans (hTs5.mono (by simp))
  have HA5 := hide (HA4.out.turnX hTs5 (by simp; exact ⟨hO.one, hO.p, hO.b, hO.m, hO.sm, hO.rb⟩))
  generalize w4.setCell ⟨t, 7, none⟩ (.int .i64 ((S.keys : Int) + 1)) = w5 at *
  clear hTs5 h7 f7 hTr5
  refine (sclone_any k w5 (by omega)).mono ?_
  rintro e w6 ⟨rfl, hT6⟩
  have HTr6 := hide (HTr5.out.turn hT6 (by simp))
  have HA6 := hide (HA5.out.turn0 hT6)
  have HT6 := hide (HT5.out.then hT6 (by simp))
  clear hT6
  go_wp2_with fail
  refine (sclone_any v w6 (by omega)).mono ?_
  rintro e w7 ⟨rfl, hT7⟩
  have hT78 : Turn [] w6 (w7.alloc (.cells #[.string k, .string v] 55)) := hT7.alloc _
  have HTr8 := hide (HTr6.out.turn hT78 (by simp))
  have HA8 := hide (HA6.out.turn0 hT78)
  have HT8 := hide (HT6.out.then hT78 (by simp))
  have HCe := hide (edit_nil t p w7.heap.size D { S with changed := true, keys := S.keys + 1 } hr hfr k v hk hv _ HTr8.out (World.cell?_alloc_at _ _ _ _ rfl) (World.cell?_alloc_at _ _ _ _ rfl))
  have hmf : ∀ (fn : Fn) (first cap : Array Value) (w : World), (Instr.makeFunc fn first cap).run Tryz.prog w = .ok (.func fn first cap) w := fun _ _ _ _ => rfl
  clear hT7 hT78
  go_wp2_with fail
  refine HCe.out.mono ?_
  rintro e w9 ⟨rfl, a, g, cap, ha, hg, hga, hL9, hTr9, hT9⟩
  have hs8 := HT8.out.size
  have HL9 := hide hL9
  have HTr9 := hide hTr9
  have HA9 := hide (HA8.out.turnX hT9 (by simp; exact ⟨hO.one, hO.p, hO.b, hO.m, hO.sm, hO.rb⟩))
  have HT9 := hide (HT8.out.trans (hT9.mono (by simp)))
  clear hL9 hTr9 hT9
  go_wp2_with fail
  go_ret
  exact ⟨rfl, a, g, cap, by omega, by omega, hga, HL9.out, HTr9.out, HA9.out, HT9.out⟩
end Go.Proofs.YthgpjkcgccdldaaGreatDoor

/-
  Put over the key of a tree that is one leaf; Abort, Len.
-/
namespace Go.Proofs.YthgpjkcgccdldaaGreatDoor
open Go.RowKit Go.Maps

set_option maxRecDepth 100000 in
set_option maxHeartbeats 3200000 in
theorem edit_leaf (t p kb : Nat) (D S : Stt) (a pg : Nat) (d : Int) (bb off cap : Nat) (l : List (ByteArray × ByteArray)) (hr : S.root = some a) (hne : a ≠ t) (hbb : bb ≠ t ∧ bb ≠ a) (hfr : S.fresh ≤ 500) (hp0 : pg = 0 → 1 ≤ S.fresh) (hp1 : 0 < pg → S.dropped = .slice none 0 0) (hs : Rises (keysOf l)) (hlen : l.length ≤ 900) (hkb : kb ≠ t ∧ kb ≠ a) (k v : ByteArray)
    (hfit : ∀ i f, IsPos (keysOf l) k i → (f = true ↔ Stands l k i) → Short (putL l i f (k, v)) ∧ lsize (putL l i f (k, v)) ≤ 495) (w : World) (hT : TreeAt w t p D S) (hL : LeafAt w a pg d bb off cap l) (h0 : w.cell? ⟨kb, 0, none⟩ = some (.string k)) (h1 : w.cell? ⟨kb, 1, none⟩ = some (.string v)) :
    Calls Tryz.prog 67 #[.pointer (some ⟨t, 0, none⟩), .string k, .func (.func 68) #[] #[.pointer (some ⟨kb, 0, none⟩)]] w fun e w' => e = .returned (.tuple #[]) ∧ LeafAt w' a pg 1 bb off cap l ∧ (∃ S', TreeAt w' t p D S') ∧ Turn [t, a] w w' := by
  have HT := hide hT
  have h6 : w.cell? ⟨t, 6, none⟩ = some (.pointer (some ⟨a, 0, none⟩)) := by have := hT.now.c0; rw [hr] at this; exact this
  have HC := hide (edited_leaf t p a pg d bb off cap l D S hne (fun _ => hbb) (by omega) hp0 hp1 hs (by omega) kb hkb k v w hT hL h0 h1)
  have htl := hT.lt
  have HL := hide hL
  have HFit := hide hfit
  clear hT h0 h1 hL hs hp0 hp1 hfit
  go_enter Tryz.func67, Tryz.ntmps67
  go_wp2_with fail
  refine (height_some t p a 1 D S hr w HT.out HL.out.place.c1).mono ?_
  rintro e w1 ⟨rfl, rfl⟩
  go_wp2_with fail
  refine HC.out.mono ?_
  rintro e w2 ⟨i, f, g, cap', rfl, hN, hL2, ⟨S', e1, e2, e3, hTr2, e5⟩, hT2⟩
  obtain ⟨hsh, hsz⟩ := HFit.out i f hN.pos hN.is
  have hln : (putL l i f (k, v)).length ≤ 1000 := by
    unfold putL
    simp
    split <;> omega
  have hl0 : 0 < (putL l i f (k, v)).length := by unfold putL; simp; omega
  have hfr' : S'.fresh ≤ 1000 := by rcases e5 with ⟨_, h, _⟩ | ⟨_, h, _⟩ <;> omega
  have HR := hide (rootOf_leaf t p D S' g 0 cap' (putL l i f (k, v)) 1 hl0 hfr' hln (fun x hx => by have := hsh x hx; omega) hsz w2 hTr2 hN.kv)
  have HL2 := hide hL2
  have HT2 := hide hT2
  have hs2 := hT2.size
  have hal := HL.out.place.lt
  have hbl : bb < w2.heap.size ∨ l = [] := by
    by_cases h : l = []
    · exact .inr h
    · exact .inl (hL2.kv.lt ⟨bb, off, none⟩ h rfl)
  generalize (putL l i f (k, v)).length = n at *
  clear hN hTr2 hL2 hT2 HC HFit hsh hsz
  go_wp2_with fail
  refine HR.out.mono ?_
  rintro e w3 ⟨a3, rfl, ha3, hP3, hTr3, hT3⟩
  have HTr3 := hide hTr3
  have HT3 := hide hT3
  have h63 := hTr3.now.c0
  have f63 := hTr3.fz 6
  clear hP3 hTr3 hT3
  go_wp2_with fail
  go_end0
  have hTs : Turn [t] w3 (w3.setCell ⟨t, 6, none⟩ (.pointer (some ⟨a3, 0, none⟩))) := (Turn.refl [t] w3).setCell (List.mem_singleton.2 rfl) 6 _
  refine ⟨rfl, ⟨(HL2.out.place.turn HT3.out (by simp; exact hne)).turn hTs (by simp; exact hne), .inr rfl, (HL2.out.kv.turn HT3.out (fun x _ hx => by obtain rfl := Option.some.inj hx; simp; exact hbb.1)).turn hTs (fun x _ hx => by obtain rfl := Option.some.inj hx; simp; exact hbb.1), HL.out.cap⟩, ⟨_, HTr3.out.setRoot (some a3)⟩, (HT2.out.trans (HT3.out.mono (by simp))).trans (hTs.mono (by simp))⟩

set_option maxRecDepth 100000 in
set_option maxHeartbeats 3200000 in
/-- Put where the key is there, with another value: all that matters here is that what is committed stays. -/
theorem put_over (t p b m sm rb : Nat) (s : St) (q : Pg) (D S : Stt) (hd : s.dead = false) (hq : q.dead = false) (hO : Off t p b m sm rb) (a pg : Nat) (d : Int) (bb off cap : Nat) (k v v0 : ByteArray) (hr : S.root = some a) (ha : a ≠ 1 ∧ a ≠ p ∧ a ≠ b ∧ a ≠ m ∧ a ≠ sm ∧ a ≠ rb ∧ a ≠ t) (hbb : bb ≠ a ∧ bb ≠ p ∧ bb ≠ b ∧ bb ≠ m ∧ bb ≠ sm ∧ bb ≠ t) (hfr : S.fresh ≤ 500) (hp0 : pg = 0 → 1 ≤ S.fresh) (hp1 : 0 < pg → S.dropped = .slice none 0 0) (hl : S.fresh ≤ q.left s.n) (hk1 : 0 < k.size) (hk : k.size ≤ 48) (hv : v.size ≤ 120) (hvv : (v0.toList == v.toList) = false) (w : World) (hA : PAt w p b m sm rb s q) (hT : TreeAt w t p D S) (hL : LeafAt w a pg d bb off cap [(k, v0)]) :
    Calls Tryz.prog 42 #[.pointer (some ⟨t, 0, none⟩), .string k, .string v] w fun e w' => e = .returned (.int .i64 0) ∧ LeafAt w' a pg 1 bb off cap [(k, v0)] ∧ (∃ S', TreeAt w' t p D S') ∧ PAt w' p b m sm rb s { q with rd := true } ∧ Turn [t, a, p] w w' := by
  have HC := hide (tdead_any t p b m sm rb s q D S hd hq w hA hT)
  have hk0 : k.toList.isEmpty = false := by rw [toList_empty]; exact decide_eq_false (by omega)
  have HT := hide hT
  have HL := hide hL
  have hlle := left_le q s.n
  have htl := hT.lt
  have HP0 := hide hp0
  have HP1 := hide hp1
  have hX : ∀ x ∈ [t], x ≠ 1 ∧ x ≠ p ∧ x ≠ b ∧ x ≠ m ∧ x ≠ sm ∧ x ≠ rb := by simp; exact ⟨hO.one, hO.p, hO.b, hO.m, hO.sm, hO.rb⟩
  have hXa : ∀ x ∈ [a], x ≠ 1 ∧ x ≠ p ∧ x ≠ b ∧ x ≠ m ∧ x ≠ sm ∧ x ≠ rb := by simp; exact ⟨ha.1, ha.2.1, ha.2.2.1, ha.2.2.2.1, ha.2.2.2.2.1, ha.2.2.2.2.2.1⟩
  have HX := hide hX
  have HXa := hide hXa
  clear hA hT hL hp0 hp1 hX hXa
  go_enter Tryz.func42, Tryz.ntmps42
  go_wp2_with fail
  refine HC.out.mono ?_
  rintro e w1 ⟨rfl, ⟨r, hA1⟩, hT1⟩
  have HTr1 := hide (HT.out.turn hT1 (by simp; exact hO.p))
  have HLf := hide (tleft_any t p b m sm rb s { q with rd := r } D S hd hO.p (by omega) w1 hA1 HTr1.out)
  have HT1 := hide hT1
  change Hid (Calls Tryz.prog 66 _ w1 fun e w' => e = .returned (.int .i64 ((q.left s.n : Nat) - (S.fresh : Nat) : Int)) ∧ PAt w' p b m sm rb s { q with rd := true } ∧ Turn [p] w1 w') at HLf
  generalize q.left s.n = lf at *
  clear hA1 hT1
  go_wp2_with fail
  refine HLf.out.mono ?_
  rintro e w2 ⟨rfl, hA2, hT2⟩
  have HTr2 := hide (HTr1.out.turn hT2 (by simp; exact hO.p))
  have HA2 := hide hA2
  have HT2 := hide (HT1.out.trans hT2)
  have HL2 : Hid (LeafAt w2 a pg d bb off cap [(k, v0)]) := ⟨HL.out.place.turn HT2.out (by simp; omega), HL.out.d01, HL.out.kv.turn HT2.out (fun x _ hx => by obtain rfl := Option.some.inj hx; simp; omega), HL.out.cap⟩
  have h8 := HTr2.out.now.c2
  have f8 := HTr2.out.fz 8
  have hnl : ¬ ((lf : Int) - (S.fresh : Int) < 0) := by omega
  clear hA2 hT2
  go_wp2_with fail
  have hTs3 : Turn [t] w2 (w2.setCell ⟨t, 8, none⟩ (.bool true)) := (Turn.refl [t] w2).setCell (List.mem_singleton.2 rfl) 8 _
  have HTr3 := hide (HTr2.out.setChanged true)
  have HT3 : Hid (Turn [t, a, p] w (w2.setCell ⟨t, 8, none⟩ (.bool true))) := (HT2.out.mono (by simp)).trans (hTs3.mono (by simp))
  have HA3 := hide (HA2.out.turnX hTs3 HX.out)
  have HL3 : Hid (LeafAt (w2.setCell ⟨t, 8, none⟩ (.bool true)) a pg d bb off cap [(k, v0)]) := ⟨HL2.out.place.turn hTs3 (by simp; omega), HL.out.d01, HL2.out.kv.turn hTs3 (fun x _ hx => by obtain rfl := Option.some.inj hx; simp; omega), HL.out.cap⟩
  generalize w2.setCell ⟨t, 8, none⟩ (.bool true) = w3 at *
  clear hTs3 h8 f8
  refine (get_leaf t p a pg d bb off cap [(k, v0)] D { S with changed := true } hr (fun _ => hbb.1) (by simp [Rises, keysOf]) (by simp) k w3 HTr3.out HL3.out).mono ?_
  rintro e w4 ⟨val, f, rfl, hG, hL4, hT4⟩
  obtain ⟨rfl, rfl⟩ : f = true ∧ v0 = val := by
    rcases hG with ⟨rfl, i, hi, _, e⟩ | ⟨_, _, h⟩
    · have : i = 0 := by simpa using hi
      subst this
      exact ⟨rfl, e⟩
    · exact absurd rfl (h (k, v0) (by simp))
  have HTr4 := hide (HTr3.out.turn hT4 (by simp; exact ha.2.2.2.2.2.2.symm))
  have HA4 := hide (HA3.out.turnX hT4 HXa.out)
  have HT4 := hide (HT3.out.trans (hT4.mono (by simp)))
  have HL4 := hide hL4
  clear hT4 hG hL4
  go_wp2_with fail
  refine (sclone_any k w4 (by omega)).mono ?_
  rintro e w6 ⟨rfl, hT6⟩
  have HTr6 := hide (HTr4.out.turn hT6 (by simp))
  have HA6 := hide (HA4.out.turn0 hT6)
  have HT6 := hide (HT4.out.then hT6 (by simp))
  have HL6 : Hid (LeafAt w6 a pg 1 bb off cap [(k, v0)]) := ⟨HL4.out.place.turn hT6 (by simp), .inr rfl, HL4.out.kv.turn0 hT6, HL.out.cap⟩
  clear hT6
  go_wp2_with fail
  refine (sclone_any v w6 (by omega)).mono ?_
  rintro e w7 ⟨rfl, hT7⟩
  have hT78 : Turn [] w6 (w7.alloc (.cells #[.string k, .string v] 55)) := hT7.alloc _
  have HTr8 := hide (HTr6.out.turn hT78 (by simp))
  have HA8 := hide (HA6.out.turn0 hT78)
  have HT8 := hide (HT6.out.then hT78 (by simp))
  have HL8 : Hid (LeafAt (w7.alloc (.cells #[.string k, .string v] 55)) a pg 1 bb off cap [(k, v0)]) := ⟨HL6.out.place.turn hT78 (by simp), .inr rfl, HL6.out.kv.turn0 hT78, HL.out.cap⟩
  have hal7 : a < w7.heap.size := Nat.lt_of_lt_of_le HL6.out.place.lt hT7.size
  have htl7 : t < w7.heap.size := Nat.lt_of_lt_of_le HTr6.out.lt hT7.size
  have HCe := hide (edit_leaf t p w7.heap.size D { S with changed := true } a pg 1 bb off cap [(k, v0)] hr ha.2.2.2.2.2.2 ⟨hbb.2.2.2.2.2, hbb.1⟩ hfr HP0.out HP1.out (by simp [Rises, keysOf]) (by simp) ⟨by omega, by omega⟩ k v (fun i f h1 h2 => by
    have hi : i = 0 := by
      have h3 := h1.1
      by_cases e : i = 0
      · exact e
      · have := h1.2.1 0 (by simp [keysOf]) (by omega)
        exact absurd this (klt_irrefl k)
    subst hi
    have hf : f = true := h2.2 ⟨by simp, rfl⟩
    subst hf
    have e : putL [(k, v0)] 0 true (k, v) = [(k, v)] := rfl
    rw [e]
    refine ⟨fun x hx => by simp at hx; subst hx; exact ⟨hk, hv⟩, ?_⟩
    unfold lsize lsizes kvSize sumN
    simp
    omega) _ HTr8.out HL8.out (World.cell?_alloc_at _ _ _ _ rfl) (World.cell?_alloc_at _ _ _ _ rfl))
  have hmf : ∀ (fn : Fn) (first cap : Array Value) (w : World), (Instr.makeFunc fn first cap).run Tryz.prog w = .ok (.func fn first cap) w := fun _ _ _ _ => rfl
  clear hT7 hT78
  go_wp2_with fail
  refine HCe.out.mono ?_
  rintro e w9 ⟨rfl, hL9, hS9, hT9⟩
  have HL9 := hide hL9
  have HS9 := hide hS9
  have HA9 := hide (HA8.out.turnX hT9 (by
    intro x hx
    simp at hx
    rcases hx with rfl | rfl
    · exact HX.out _ (by simp)
    · exact HXa.out _ (by simp)))
  have HT9 := hide (HT8.out.trans (hT9.mono (by simp)))
  clear hL9 hS9 hT9
  go_wp2_with fail
  go_ret
  exact ⟨rfl, HL9.out, HS9.out, HA9.out, HT9.out⟩
end Go.Proofs.YthgpjkcgccdldaaGreatDoor
