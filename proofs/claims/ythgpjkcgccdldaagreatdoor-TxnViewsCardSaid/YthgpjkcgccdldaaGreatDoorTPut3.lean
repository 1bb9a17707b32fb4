/-
  Put and Del on a tree of one leaf, with what comes of them.
-/
import Derived.Test.YthgpjkcgccdldaaGreatDoorTEdit2
namespace Go.Proofs.YthgpjkcgccdldaaGreatDoor
open Go.RowKit Go.Maps

theorem Spent.base {w w7 w' : World} {pg more top : Nat} {S S' : Stt} (h : Spent w7 w' pg S S' more top) (hb : w.heap.size ≤ w7.heap.size) : Spent w w' pg S S' more top := by
  obtain ⟨h1, h2, h3⟩ := h
  refine ⟨h1, h2, ?_⟩
  rcases h3 with h3 | ⟨h4, h5, h6⟩
  · exact .inl h3
  · refine .inr ⟨h4, h5, ?_, h6.2⟩
    obtain ⟨k1, k2 | ⟨g', c', cur, k3, k4, k5⟩⟩ := h6.1
    · exact ⟨k1, .inl k2⟩
    · exact ⟨k1, .inr ⟨g', c', cur, k3, by omega, k5⟩⟩

/-- A leaf that a key was put into: another leaf. -/
def Fresh (w w' : World) (t p pg : Nat) (D S : Stt) (l : List (ByteArray × ByteArray)) (k v : ByteArray) (n : Nat) : Prop :=
  ∃ i f a' g cap' S', IsPos (keysOf l) k i ∧ (f = true ↔ Stands l k i) ∧ w.heap.size ≤ a' ∧ w.heap.size ≤ g ∧ g < a' ∧ LeafAt w' a' 0 0 g 0 cap' (putL l i f (k, v)) ∧ TreeAt w' t p D S' ∧ S'.root = some a' ∧ Spent w w' pg { S with changed := true, keys := S.keys + n } S' 1 a'

theorem pos_of_stands {l : List (ByteArray × ByteArray)} (hs : Rises (keysOf l)) {k : ByteArray} {i : Nat} (h : Stands l k i) : IsPos (keysOf l) k i := by
  obtain ⟨hi, rfl⟩ := h
  refine ⟨by rw [keysOf_length]; omega, fun m hm hmi => ?_, fun m hm him => ?_⟩
  · have := hs.get hmi (by rw [keysOf_length]; exact hi)
    rwa [keysOf_get hi] at this
  · rw [keysOf_length] at hm
    rw [keysOf_get hm]
    by_cases e : i = m
    · subst e
      exact klt_irrefl _
    · have := hs.get (show i < m by omega) (by rw [keysOf_length]; exact hm)
      rw [keysOf_get hi, keysOf_get hm] at this
      exact klt_asymm this

set_option maxRecDepth 100000 in
set_option maxHeartbeats 6400000 in
theorem put_leaf (t p b m sm rb : Nat) (s : St) (q : Pg) (D S : Stt) (hd : s.dead = false) (hq : q.dead = false) (hO : Off t p b m sm rb) (a pg : Nat) (d : Int) (bb off cap : Nat) (l : List (ByteArray × ByteArray)) (k v : ByteArray) (hr : S.root = some a) (ha : a ≠ 1 ∧ a ≠ p ∧ a ≠ b ∧ a ≠ m ∧ a ≠ sm ∧ a ≠ rb ∧ a ≠ t) (hbb : bb ≠ a ∧ bb ≠ p ∧ bb ≠ t) (hfr : S.fresh ≤ 500) (hks : S.keys ≤ 1000) (hp0 : pg = 0 → 1 ≤ S.fresh) (hp1 : 0 < pg → S.dropped = .slice none 0 0) (hl : S.fresh ≤ q.left s.n) (hk1 : 0 < k.size) (hk : k.size ≤ 48) (hv : v.size ≤ 120) (hs : Rises (keysOf l)) (hlen : l.length ≤ 900)
    (hfit : ∀ i f, IsPos (keysOf l) k i → (f = true ↔ Stands l k i) → Short (putL l i f (k, v)) ∧ lsize (putL l i f (k, v)) ≤ 495) (w : World) (hA : PAt w p b m sm rb s q) (hT : TreeAt w t p D S) (hL : LeafAt w a pg d bb off cap l) :
    Calls Tryz.prog 42 #[.pointer (some ⟨t, 0, none⟩), .string k, .string v] w fun e w' => e = .returned (.int .i64 0) ∧ PAt w' p b m sm rb s { q with rd := true } ∧ Turn [t, a, p] w w' ∧
      (((∃ i, ∃ h : i < l.length, l[i] = (k, v)) ∧ LeafAt w' a pg 1 bb off cap l ∧ TreeAt w' t p D { S with changed := true }) ∨
       ((∃ i, Stands l k i) ∧ Fresh w w' t p pg D S l k v 0) ∨ ((∀ x ∈ l, x.1 ≠ k) ∧ Fresh w w' t p pg D S l k v 1)) := by
  have HC := hide (tdead_any t p b m sm rb s q D S hd hq w hA hT)
  have hk0 : k.toList.isEmpty = false := by rw [toList_empty]; exact decide_eq_false (by omega)
  have HT := hide hT
  have HL := hide hL
  have hlle := left_le q s.n
  have htl := hT.lt
  have HP0 := hide hp0
  have HP1 := hide hp1
  have HS := hide hs
  have HFit := hide hfit
  have hX : ∀ x ∈ [t], x ≠ 1 ∧ x ≠ p ∧ x ≠ b ∧ x ≠ m ∧ x ≠ sm ∧ x ≠ rb := by simp; exact ⟨hO.one, hO.p, hO.b, hO.m, hO.sm, hO.rb⟩
  have hXa : ∀ x ∈ [a], x ≠ 1 ∧ x ≠ p ∧ x ≠ b ∧ x ≠ m ∧ x ≠ sm ∧ x ≠ rb := by simp; exact ⟨ha.1, ha.2.1, ha.2.2.1, ha.2.2.2.1, ha.2.2.2.2.1, ha.2.2.2.2.2.1⟩
  have HX := hide hX
  have HXa := hide hXa
  clear hA hT hL hp0 hp1 hX hXa hs hfit
  go_enter Tryz.func42, Tryz.ntmps42
  go_wp2_with fail
  refine HC.out.mono ?_
  rintro e w1 ⟨rfl, ⟨r, hA1⟩, hT1⟩
  have HTr1 := hide (HT.out.turn hT1 (by simp; exact hO.p))
  have HLf := hide (tleft_any t p b m sm rb s { q with rd := r } D S hd hO.p (by omega) w1 hA1 HTr1.out)
  have HT1 := hide hT1
  change Hid (Calls Tryz.prog 66 _ w1 fun e w' => e = .returned (.int .i64 ((q.left s.n : Nat) - (S.fresh : Nat) : Int)) ∧ PAt w' p b m sm rb s { q with rd := true } ∧ Turn [p] w1 w') at HLf
  generalize q.left s.n = lf at *
  clear hA1 hT1
  go_wp2_with fail
  refine HLf.out.mono ?_
  rintro e w2 ⟨rfl, hA2, hT2⟩
  have HTr2 := hide (HTr1.out.turn hT2 (by simp; exact hO.p))
  have HA2 := hide hA2
  have HT2 := hide (HT1.out.trans hT2)
  have HL2 : Hid (LeafAt w2 a pg d bb off cap l) := ⟨HL.out.place.turn HT2.out (by simp; omega), HL.out.d01, HL.out.kv.turn HT2.out (fun x _ hx => by obtain rfl := Option.some.inj hx; simp; omega), HL.out.cap⟩
  have h8 := HTr2.out.now.c2
  have f8 := HTr2.out.fz 8
  have hnl : ¬ ((lf : Int) - (S.fresh : Int) < 0) := by omega
  clear hA2 hT2
  go_wp2_with fail
  have hTs3 : Turn [t] w2 (w2.setCell ⟨t, 8, none⟩ (.bool true)) := (Turn.refl [t] w2).setCell (List.mem_singleton.2 rfl) 8 _
  have HTr3 := hide (HTr2.out.setChanged true)
  have HT3 : Hid (Turn [t, a, p] w (w2.setCell ⟨t, 8, none⟩ (.bool true))) := (HT2.out.mono (by simp)).trans (hTs3.mono (by simp))
  have HA3 := hide (HA2.out.turnX hTs3 HX.out)
  have HL3 : Hid (LeafAt (w2.setCell ⟨t, 8, none⟩ (.bool true)) a pg d bb off cap l) := ⟨HL2.out.place.turn hTs3 (by simp; omega), HL.out.d01, HL2.out.kv.turn hTs3 (fun x _ hx => by obtain rfl := Option.some.inj hx; simp; omega), HL.out.cap⟩
  generalize w2.setCell ⟨t, 8, none⟩ (.bool true) = w3 at *
  clear hTs3 h8 f8
  refine (get_leaf t p a pg d bb off cap l D { S with changed := true } hr (fun _ => hbb.1) HS.out (by omega) k w3 HTr3.out HL3.out).mono ?_
  rintro e w4 ⟨val, f, rfl, hG, hL4, hT4⟩
  have HTr4 := hide (HTr3.out.turn hT4 (by simp; exact ha.2.2.2.2.2.2.symm))
  have HA4 := hide (HA3.out.turnX hT4 HXa.out)
  have HT4 := hide (HT3.out.trans (hT4.mono (by simp)))
  have HL4 := hide hL4
  clear hT4 hL4
  rcases hG with ⟨rfl, i, hi, e1, e2⟩ | ⟨rfl, rfl, hno⟩
  · have HSt : Hid (∃ i, Stands l k i) := ⟨i, hi, e1⟩
    by_cases hvv : val = v
    · have HAll : Hid (∃ i, ∃ h : i < l.length, l[i] = (k, v)) := ⟨i, hi, by rw [← e1, ← hvv, ← e2]⟩
      have hvb : (val.toList == v.toList) = true := by rw [eq_str]; exact decide_eq_true hvv
      clear e1 e2 hi hvv
      go_wp2_with fail
      go_ret
      exact ⟨rfl, HA4.out, HT4.out, .inl ⟨HAll.out, HL4.out, HTr4.out⟩⟩
    · have hvb : (val.toList == v.toList) = false := by rw [eq_str]; exact decide_eq_false hvv
      have HTr5 : Hid (TreeAt w4 t p D { S with changed := true, keys := S.keys + 0 }) := HTr4.out
      have HA5 := HA4
      have HT5 := HT4
      have HL5 := HL4
      clear e1 e2 hi hvv HTr4 HA4 HT4 HL4
      go_wp2_with fail
      refine (sclone_any k w4 (by omega)).mono ?_
      rintro e w6 ⟨rfl, hT6⟩
      have HTr6 := hide (HTr5.out.turn hT6 (by simp))
      have HA6 := hide (HA5.out.turn0 hT6)
      have HT6 := hide (HT5.out.then hT6 (by simp))
      have HL6 : Hid (LeafAt w6 a pg 1 bb off cap l) := ⟨HL5.out.place.turn hT6 (by simp), .inr rfl, HL5.out.kv.turn0 hT6, HL.out.cap⟩
      clear hT6
      go_wp2_with fail
      refine (sclone_any v w6 (by omega)).mono ?_
      rintro e w7 ⟨rfl, hT7⟩
      have hT78 : Turn [] w6 (w7.alloc (.cells #[.string k, .string v] 55)) := hT7.alloc _
      have HTr8 := hide (HTr6.out.turn hT78 (by simp))
      have HA8 := hide (HA6.out.turn0 hT78)
      have HT8 := hide (HT6.out.then hT78 (by simp))
      have HL8 : Hid (LeafAt (w7.alloc (.cells #[.string k, .string v] 55)) a pg 1 bb off cap l) := ⟨HL6.out.place.turn hT78 (by simp), .inr rfl, HL6.out.kv.turn0 hT78, HL.out.cap⟩
      have hal7 : a < w7.heap.size := Nat.lt_of_lt_of_le HL6.out.place.lt hT7.size
      have htl7 : t < w7.heap.size := Nat.lt_of_lt_of_le HTr6.out.lt hT7.size
      have HCe := hide (edit_put t p w7.heap.size D { S with changed := true, keys := S.keys + 0 } a pg 1 bb off cap l hr ha.2.2.2.2.2.2 ⟨hbb.2.2, hbb.1⟩ hfr HP0.out HP1.out HS.out hlen ⟨by omega, by omega⟩ k v HFit.out _ HTr8.out HL8.out (World.cell?_alloc_at _ _ _ _ rfl) (World.cell?_alloc_at _ _ _ _ rfl))
      have hmf : ∀ (fn : Fn) (first cap : Array Value) (w : World), (Instr.makeFunc fn first cap).run Tryz.prog w = .ok (.func fn first cap) w := fun _ _ _ _ => rfl
      have hw8 := HT8.out.size
      clear hT7 hT78
      go_wp2_with fail
      refine HCe.out.mono ?_
      rintro e w9 ⟨rfl, i, f, a', g, cap', S', g1, g2, g3, g4, g5, g6, g7, g8, g9, hT9⟩
      have HF : Hid (Fresh w w9 t p pg D S l k v 0) := ⟨i, f, a', g, cap', S', g1, g2, by omega, by omega, g5, g6, g7, g8, g9.base hw8⟩
      have HA9 := hide (HA8.out.turnX hT9 (by
        intro x hx
        simp at hx
        rcases hx with rfl | rfl
        · exact HX.out _ (by simp)
        · exact HXa.out _ (by simp)))
      have HT9 := hide (HT8.out.trans (hT9.mono (by simp)))
      clear g1 g2 g3 g4 g5 g6 g7 g8 g9 hT9
      go_wp2_with fail
      go_ret
      exact ⟨rfl, HA9.out, HT9.out, .inr (.inl ⟨HSt.out, HF.out⟩)⟩
  · have HNo := hide hno
    have h7 := HTr4.out.now.c1
    have f7 := HTr4.out.fz 7
    clear hno
    go_wp2_with fail
    have hTs5 : Turn [t] w4 (w4.setCell ⟨t, 7, none⟩ (.int .i64 ((S.keys : Int) + 1))) := (Turn.refl [t] w4).setCell (List.mem_singleton.2 rfl) 7 _
    have hTr5 := HTr4.out.setKeys (S.keys + 1)
    rw [show ((S.keys + 1 : Nat) : Int) = (S.keys : Int) + 1 by omega] at hTr5
    have HTr5 := hide hTr5
    have HT5 : Hid (Turn [t, a, p] w (w4.setCell ⟨t, 7, none⟩ (.int .i64 ((S.keys : Int) + 1)))) := HT4.out.trans (hTs5.mono (by simp))
    have HA5 := hide (HA4.out.turnX hTs5 HX.out)
    have HL5 : Hid (LeafAt (w4.setCell ⟨t, 7, none⟩ (.int .i64 ((S.keys : Int) + 1))) a pg 1 bb off cap l) := ⟨HL4.out.place.turn hTs5 (by simp; omega), .inr rfl, HL4.out.kv.turn hTs5 (fun x _ hx => by obtain rfl := Option.some.inj hx; simp; omega), HL.out.cap⟩
    generalize w4.setCell ⟨t, 7, none⟩ (.int .i64 ((S.keys : Int) + 1)) = w5 at *
    clear hTs5 h7 f7 hTr5
    refine (sclone_any k w5 (by omega)).mono ?_
    rintro e w6 ⟨rfl, hT6⟩
    have HTr6 := hide (HTr5.out.turn hT6 (by simp))
    have HA6 := hide (HA5.out.turn0 hT6)
    have HT6 := hide (HT5.out.then hT6 (by simp))
    have HL6 : Hid (LeafAt w6 a pg 1 bb off cap l) := ⟨HL5.out.place.turn hT6 (by simp), .inr rfl, HL5.out.kv.turn0 hT6, HL.out.cap⟩
    clear hT6
    go_wp2_with fail
    refine (sclone_any v w6 (by omega)).mono ?_
    rintro e w7 ⟨rfl, hT7⟩
    have hT78 : Turn [] w6 (w7.alloc (.cells #[.string k, .string v] 55)) := hT7.alloc _
    have HTr8 := hide (HTr6.out.turn hT78 (by simp))
    have HA8 := hide (HA6.out.turn0 hT78)
    have HT8 := hide (HT6.out.then hT78 (by simp))
    have HL8 : Hid (LeafAt (w7.alloc (.cells #[.string k, .string v] 55)) a pg 1 bb off cap l) := ⟨HL6.out.place.turn hT78 (by simp), .inr rfl, HL6.out.kv.turn0 hT78, HL.out.cap⟩
    have hal7 : a < w7.heap.size := Nat.lt_of_lt_of_le HL6.out.place.lt hT7.size
    have htl7 : t < w7.heap.size := Nat.lt_of_lt_of_le HTr6.out.lt hT7.size
    have HCe := hide (edit_put t p w7.heap.size D { S with changed := true, keys := S.keys + 1 } a pg 1 bb off cap l hr ha.2.2.2.2.2.2 ⟨hbb.2.2, hbb.1⟩ hfr HP0.out HP1.out HS.out hlen ⟨by omega, by omega⟩ k v HFit.out _ HTr8.out HL8.out (World.cell?_alloc_at _ _ _ _ rfl) (World.cell?_alloc_at _ _ _ _ rfl))
    have hmf : ∀ (fn : Fn) (first cap : Array Value) (w : World), (Instr.makeFunc fn first cap).run Tryz.prog w = .ok (.func fn first cap) w := fun _ _ _ _ => rfl
    have hw8 := HT8.out.size
    clear hT7 hT78
    go_wp2_with fail
    refine HCe.out.mono ?_
    rintro e w9 ⟨rfl, i, f, a', g, cap', S', g1, g2, g3, g4, g5, g6, g7, g8, g9, hT9⟩
    have HF : Hid (Fresh w w9 t p pg D S l k v 1) := ⟨i, f, a', g, cap', S', g1, g2, by omega, by omega, g5, g6, g7, g8, g9.base hw8⟩
    have HA9 := hide (HA8.out.turnX hT9 (by
      intro x hx
      simp at hx
      rcases hx with rfl | rfl
      · exact HX.out _ (by simp)
      · exact HXa.out _ (by simp)))
    have HT9 := hide (HT8.out.trans (hT9.mono (by simp)))
    clear g1 g2 g3 g4 g5 g6 g7 g8 g9 hT9
    go_wp2_with fail
    go_ret
    exact ⟨rfl, HA9.out, HT9.out, .inr (.inr ⟨HNo.out, HF.out⟩)⟩

/-- A leaf that a key was taken out of: another leaf, or none. -/
def Gone (w w' : World) (t p pg : Nat) (D S : Stt) (l : List (ByteArray × ByteArray)) (i : Nat) : Prop :=
  ∃ S', TreeAt w' t p D S' ∧ ((l.eraseIdx i = [] ∧ S'.root = none ∧ Spent w w' pg { S with changed := true, keys := S.keys - 1 } S' 0 w'.heap.size) ∨ (∃ a' g cap', l.eraseIdx i ≠ [] ∧ w.heap.size ≤ a' ∧ w.heap.size ≤ g ∧ g < a' ∧ LeafAt w' a' 0 0 g 0 cap' (l.eraseIdx i) ∧ S'.root = some a' ∧ Spent w w' pg { S with changed := true, keys := S.keys - 1 } S' 1 a'))

set_option maxRecDepth 100000 in
set_option maxHeartbeats 6400000 in
theorem del_leaf (t p b m sm rb : Nat) (s : St) (q : Pg) (D S : Stt) (hd : s.dead = false) (hq : q.dead = false) (hO : Off t p b m sm rb) (a pg : Nat) (d : Int) (bb off cap : Nat) (l : List (ByteArray × ByteArray)) (k : ByteArray) (hr : S.root = some a) (ha : a ≠ 1 ∧ a ≠ p ∧ a ≠ b ∧ a ≠ m ∧ a ≠ sm ∧ a ≠ rb ∧ a ≠ t) (hbb : bb ≠ a ∧ bb ≠ p ∧ bb ≠ t) (hfr : S.fresh ≤ 500) (hks : 1 ≤ S.keys ∧ S.keys ≤ 1000) (hp0 : pg = 0 → 1 ≤ S.fresh) (hp1 : 0 < pg → S.dropped = .slice none 0 0) (hs : Rises (keysOf l)) (hlen : l.length ≤ 900) (i : Nat) (hi : i < l.length) (hik : l[i].1 = k)
    (hsh : Short (l.eraseIdx i)) (hsz : lsize (l.eraseIdx i) ≤ 495) (w : World) (hA : PAt w p b m sm rb s q) (hT : TreeAt w t p D S) (hL : LeafAt w a pg d bb off cap l) :
    Calls Tryz.prog 44 #[.pointer (some ⟨t, 0, none⟩), .string k] w fun e w' => e = .returned (.int .i64 0) ∧ (∃ r, PAt w' p b m sm rb s { q with rd := r }) ∧ Turn [t, a, p] w w' ∧ Gone w w' t p pg D S l i := by
  have hTa : Turn [] w (w.alloc (.cells #[.string k] 9)) := (Turn.refl [] w).alloc _
  have HC := hide (tdead_any t p b m sm rb s q D S hd hq (w.alloc (.cells #[.string k] 9)) (hA.turn0 hTa) (hT.turn hTa (by simp)))
  have HTa := hide (hTa.mono (T := [t, a, p]) (by simp))
  have HT := hide (hT.turn hTa (by simp))
  have HL : Hid (LeafAt (w.alloc (.cells #[.string k] 9)) a pg d bb off cap l) := ⟨hL.place.turn hTa (by simp), hL.d01, hL.kv.turn0 hTa, hL.cap⟩
  have htl := hT.lt
  have hal := hL.place.lt
  have hpl := hA.pg.lt
  have hk0 : (w.alloc (.cells #[.string k] 9)).cell? ⟨w.heap.size, 0, none⟩ = some (.string k) := World.cell?_alloc_at _ _ _ _ rfl
  have HD : Hid (∀ (w5 : World) (d5 : Int), TreeAt w5 t p D { S with changed := true, keys := S.keys - 1 } → LeafAt w5 a pg d5 bb off cap l → w5.cell? ⟨w.heap.size, 0, none⟩ = some (.string k) → Calls Tryz.prog 67 #[.pointer (some ⟨t, 0, none⟩), .string k, .func (.func 70) #[] #[.pointer (some ⟨w.heap.size, 0, none⟩)]] w5 fun e w' => e = .returned (.tuple #[]) ∧ (∃ S', TreeAt w' t p D S' ∧ ((l.eraseIdx i = [] ∧ S'.root = none ∧ Spent w5 w' pg { S with changed := true, keys := S.keys - 1 } S' 0 w'.heap.size) ∨ (∃ a' g cap', l.eraseIdx i ≠ [] ∧ w5.heap.size ≤ a' ∧ w5.heap.size ≤ g ∧ g < a' ∧ LeafAt w' a' 0 0 g 0 cap' (l.eraseIdx i) ∧ S'.root = some a' ∧ Spent w5 w' pg { S with changed := true, keys := S.keys - 1 } S' 1 a'))) ∧ Turn [t, a] w5 w') := fun w5 d5 h1 h2 h3 => edit_del t p w.heap.size D { S with changed := true, keys := S.keys - 1 } a pg d5 bb off cap l hr ha.2.2.2.2.2.2 ⟨hbb.2.2, hbb.1⟩ hfr hp0 hp1 hs hlen ⟨by omega, by omega⟩ k i hi hik hsh hsz w5 h1 h2 h3
  have HS := hide hs
  have hX : ∀ x ∈ [t], x ≠ 1 ∧ x ≠ p ∧ x ≠ b ∧ x ≠ m ∧ x ≠ sm ∧ x ≠ rb := by simp; exact ⟨hO.one, hO.p, hO.b, hO.m, hO.sm, hO.rb⟩
  have hXa : ∀ x ∈ [a], x ≠ 1 ∧ x ≠ p ∧ x ≠ b ∧ x ≠ m ∧ x ≠ sm ∧ x ≠ rb := by simp; exact ⟨ha.1, ha.2.1, ha.2.2.1, ha.2.2.2.1, ha.2.2.2.2.1, ha.2.2.2.2.2.1⟩
  have HX := hide hX
  have HXa := hide hXa
  have HSt : Hid (∃ x ∈ l, x.1 = k) := ⟨l[i], List.getElem_mem hi, hik⟩
  have HK := hide hk0
  clear hA hT hL hp0 hp1 hX hXa hs hik hi hsh hsz hTa
  go_enter Tryz.func44, Tryz.ntmps44
  go_wp2_with fail
  refine HC.out.mono ?_
  rintro e w1 ⟨rfl, ⟨r, hA1⟩, hT1⟩
  have HTr1 := hide (HT.out.turn hT1 (by simp; exact hO.p))
  have HA1 := hide hA1
  have HL1 : Hid (LeafAt w1 a pg d bb off cap l) := ⟨HL.out.place.turn hT1 (by simp; omega), HL.out.d01, HL.out.kv.turn hT1 (fun x _ hx => by obtain rfl := Option.some.inj hx; simp; omega), HL.out.cap⟩
  have hk1 : w1.cell? ⟨w.heap.size, 0, none⟩ = some (.string k) := (hT1.cell (p := ⟨w.heap.size, 0, none⟩) (by simp) (by simp; omega)).trans HK.out
  have HT1 := hide (HTa.out.trans (hT1.mono (by simp)))
  have hs1 : w.heap.size < w1.heap.size := lt_of_cell hk1
  clear hA1 hT1
  go_wp2_with fail
  refine (get_leaf t p a pg d bb off cap l D S hr (fun _ => hbb.1) HS.out (by omega) k w1 HTr1.out HL1.out).mono ?_
  rintro e w4 ⟨val, f, rfl, hG, hL4, hT4⟩
  obtain rfl : f = true := by
    rcases hG with ⟨rfl, _⟩ | ⟨_, _, hno⟩
    · rfl
    · obtain ⟨x, hx, he⟩ := HSt.out
      exact absurd he (hno x hx)
  have HTr4 := hide (HTr1.out.turn hT4 (by simp; exact ha.2.2.2.2.2.2.symm))
  have HA4 := hide (HA1.out.turnX hT4 HXa.out)
  have HT4 := hide (HT1.out.trans (hT4.mono (by simp)))
  have HL4 := hide hL4
  have hk4 : w4.cell? ⟨w.heap.size, 0, none⟩ = some (.string k) := (hT4.cell (p := ⟨w.heap.size, 0, none⟩) hs1 (by simp; omega)).trans hk1
  have h8 := HTr4.out.now.c2
  have f8 := HTr4.out.fz 8
  have h7 := HTr4.out.now.c1
  have f7 := HTr4.out.fz 7
  have hs4 := HT4.out.size
  clear hT4 hL4 hG hk1
  have hTs : Turn [t] w4 ((w4.setCell ⟨t, 8, none⟩ (.bool true)).setCell ⟨t, 7, none⟩ (.int .i64 ((S.keys : Int) - 1))) := ((Turn.refl [t] w4).setCell (List.mem_singleton.2 rfl) 8 _).setCell (List.mem_singleton.2 rfl) 7 _
  have hTr5 := (HTr4.out.setChanged true).setKeys (S.keys - 1)
  rw [show ((S.keys - 1 : Nat) : Int) = (S.keys : Int) - 1 by omega] at hTr5
  have HTr5 := hide hTr5
  have HA5 := hide (HA4.out.turnX hTs HX.out)
  have HT5 := hide (HT4.out.trans (hTs.mono (by simp)))
  have HL5 : Hid (LeafAt ((w4.setCell ⟨t, 8, none⟩ (.bool true)).setCell ⟨t, 7, none⟩ (.int .i64 ((S.keys : Int) - 1))) a pg 1 bb off cap l) := ⟨HL4.out.place.turn hTs (by simp; omega), .inr rfl, HL4.out.kv.turn hTs (fun x _ hx => by obtain rfl := Option.some.inj hx; simp; omega), HL.out.cap⟩
  have hk5 : ((w4.setCell ⟨t, 8, none⟩ (.bool true)).setCell ⟨t, 7, none⟩ (.int .i64 ((S.keys : Int) - 1))).cell? ⟨w.heap.size, 0, none⟩ = some (.string k) := (hTs.cell (p := ⟨w.heap.size, 0, none⟩) (lt_of_cell hk4) (by simp; omega)).trans hk4
  have HDe := hide (HD.out _ 1 HTr5.out HL5.out hk5)
  have hmf : ∀ (fn : Fn) (first cap : Array Value) (w : World), (Instr.makeFunc fn first cap).run Tryz.prog w = .ok (.func fn first cap) w := fun _ _ _ _ => rfl
  have hs5 := HT5.out.size
  clear hTs hTr5 HD
  go_wp2_with fail
  refine HDe.out.mono ?_
  rintro e w9 ⟨rfl, hR, hT9⟩
  have HG : Hid (Gone w w9 t p pg D S l i) := by
    obtain ⟨S', h1, h2⟩ := hR
    refine ⟨S', h1, ?_⟩
    rcases h2 with ⟨h2, h3, h4⟩ | ⟨a', g, c', h2, h3, h4, h5, h6, h7, h8⟩
    · exact .inl ⟨h2, h3, h4.base hs5⟩
    · exact .inr ⟨a', g, c', h2, Nat.le_trans hs5 h3, Nat.le_trans hs5 h4, h5, h6, h7, h8.base hs5⟩
  have HA9 := hide (HA5.out.turnX hT9 (by
    intro x hx
    simp at hx
    rcases hx with rfl | rfl
    · exact HX.out _ (by simp)
    · exact HXa.out _ (by simp)))
  have HT9 := hide (HT5.out.trans (hT9.mono (by simp)))
  clear hR hT9
  go_wp2_with fail
  go_ret
  exact ⟨rfl, ⟨r, HA9.out⟩, HT9.out, HG.out⟩

end Go.Proofs.YthgpjkcgccdldaaGreatDoor
