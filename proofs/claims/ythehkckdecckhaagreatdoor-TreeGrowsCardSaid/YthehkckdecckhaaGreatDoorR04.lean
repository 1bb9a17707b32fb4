/-
  Trees that are the same but for pages; what stands at or below a place; no two entries share a place.
-/
import Derived.Test.YthehkckdecckhaaGreatDoorR03

namespace Go.Proofs.YthehkckdecckhaaGreatDoor
open Go.Lib

/-- The same but for pages. -/
def LikeE : (h : Nat) → En h → En h → Prop
  | 0, e, e' => e = e'
  | h + 1, e, e' => e.key = e'.key ∧ Both (LikeE h) (kidsOf e) (kidsOf e')
def LikeN {h : Nat} (l l' : List (En h)) : Prop := Both (LikeE h) l l'
theorem Both.refl {α : Type} {R : α → α → Prop} (h : ∀ a, R a a) : (l : List α) → Both R l l
  | [] => trivial
  | a :: l => ⟨h a, Both.refl h l⟩
theorem LikeE.refl : (h : Nat) → (e : En h) → LikeE h e e
  | 0, _ => rfl
  | h + 1, _e => ⟨rfl, Both.refl (LikeE.refl h) _⟩
theorem LikeN.refl {h : Nat} (l : List (En h)) : LikeN l l := Both.refl (LikeE.refl h) l
theorem LikeE.key : {h : Nat} → {e e' : En h} → LikeE h e e' → e.key = e'.key
  | 0, _, _, h => by rw [show _ = _ from h]
  | _ + 1, _, _, h => h.1
theorem LikeE.size : {h : Nat} → {e e' : En h} → LikeE h e e' → e.size = e'.size
  | 0, _, _, h => by rw [show _ = _ from h]
  | _ + 1, e, e', h => by
    have := h.1
    show 5 + e.key.size = 5 + e'.key.size
    rw [this]
theorem both_sum {α : Type} {R : α → α → Prop} {f : α → Nat} (hf : ∀ a b, R a b → f a = f b) : {l l' : List α} → Both R l l' → (l.map f).sum = (l'.map f).sum
  | [], [], _ => rfl
  | a :: l, b :: l', h => by rw [List.map_cons, List.map_cons, List.sum_cons, List.sum_cons, hf a b h.1, both_sum hf h.2]
  | [], _ :: _, h => h.elim
  | _ :: _, [], h => h.elim
theorem both_flat {α β : Type} {R : α → α → Prop} {f : α → List β} (hf : ∀ a b, R a b → f a = f b) : {l l' : List α} → Both R l l' → l.flatMap f = l'.flatMap f
  | [], [], _ => rfl
  | a :: l, b :: l', h => by rw [List.flatMap_cons, List.flatMap_cons, hf a b h.1, both_flat hf h.2]
  | [], _ :: _, h => h.elim
  | _ :: _, [], h => h.elim
theorem LikeN.size {h : Nat} {l l' : List (En h)} (hl : LikeN l l') : sizeN l = sizeN l' := both_sum (fun _ _ h => h.size) hl
theorem LikeE.flat : {h : Nat} → {e e' : En h} → LikeE h e e' → e.flat = e'.flat
  | 0, _, _, h => by rw [show _ = _ from h]
  | h + 1, e, e', hl => both_flat (fun _ _ h => LikeE.flat h) hl.2
theorem LikeN.flat {h : Nat} {l l' : List (En h)} (hl : LikeN l l') : flatN l = flatN l' := both_flat (fun _ _ h => h.flat) hl
theorem LikeN.top {h : Nat} {l l' : List (En h)} (hi : Option ByteArray) (hl : LikeN l l') : topK hi l = topK hi l' := by
  cases l with
  | nil =>
    cases l' with
    | nil => rfl
    | cons _ _ => exact hl.elim
  | cons e l =>
    cases l' with
    | nil => exact hl.elim
    | cons e' l' =>
      show some e.key = some e'.key
      rw [hl.1.key]
theorem LikeN.starts {h : Nat} {lo : ByteArray} {l l' : List (En h)} (hl : LikeN l l') (hs : Starts lo l) : Starts lo l' := by
  cases l with
  | nil =>
    cases l' with
    | nil => exact hs
    | cons _ _ => exact hl.elim
  | cons e l =>
    cases l' with
    | nil => exact hl.elim
    | cons e' l' =>
      have hk := hl.1.key
      cases h with
      | zero =>
        intro x hx
        obtain rfl : e' = x := Option.some.inj hx
        rw [← hk]
        exact hs e rfl
      | succ h =>
        intro x hx
        obtain rfl : e' = x := Option.some.inj hx
        rw [← hk]
        exact hs e rfl
theorem like_ord {h : Nat} {P : Option ByteArray → En h → Prop} (hP : ∀ hi e e', LikeE h e e' → P hi e → P hi e') : {hi : Option ByteArray} → {l l' : List (En h)} → LikeN l l' → Ord P hi l → Ord P hi l'
  | _, [], [], _, ho => ho
  | hi, e :: l, e' :: l', hl, ho => by
    have ht := LikeN.top (l := l) (l' := l') hi hl.2
    refine ⟨?_, ?_, like_ord hP hl.2 ho.2.2⟩
    · rw [← ht, ← hl.1.key]
      exact ho.1
    · rw [← ht]
      exact hP _ _ _ hl.1 ho.2.1
  | _, [], _ :: _, h, _ => h.elim
  | _, _ :: _, [], h, _ => h.elim
theorem LikeE.ord : {h : Nat} → {hi : Option ByteArray} → {e e' : En h} → LikeE h e e' → OrdE hi e → OrdE hi e'
  | 0, _, _, _, _, _ => trivial
  | h + 1, hi, e, e', hl, ho => ⟨by
      have := hl.1
      show Starts e'.key (kidsOf e')
      rw [← this]
      exact LikeN.starts (l := kidsOf e) hl.2 ho.1, like_ord (P := OrdE) (hi := hi) (l := kidsOf e) (l' := kidsOf e') (fun _ _ _ h k => LikeE.ord h k) hl.2 ho.2⟩
theorem LikeN.ord {h : Nat} {hi : Option ByteArray} {l l' : List (En h)} (hl : LikeN l l') (ho : OrdN hi l) : OrdN hi l' := like_ord (P := OrdE) (fun _ _ _ h k => h.ord k) hl ho
theorem both_all {α : Type} {R : α → α → Prop} {P : α → Prop} (hf : ∀ a b, R a b → P a → P b) : {l l' : List α} → Both R l l' → (∀ x ∈ l, P x) → ∀ x ∈ l', P x
  | [], [], _, _, _, hx => absurd hx (by simp)
  | a :: l, b :: l', h, hp, x, hx => by
    rcases List.mem_cons.1 hx with rfl | hx
    · exact hf a _ h.1 (hp a (List.mem_cons_self ..))
    · exact both_all hf h.2 (fun y hy => hp y (List.mem_cons_of_mem _ hy)) x hx
  | [], _ :: _, h, _, _, _ => h.elim
  | _ :: _, [], h, _, _, _ => h.elim
theorem LikeE.full : {h : Nat} → {e e' : En h} → LikeE h e e' → FullE e → FullE e'
  | 0, _, _, h, hf => by rw [← show _ = _ from h]; exact hf
  | h + 1, e, e', hl, hf => by
    obtain ⟨f1, f2, f3, f4⟩ := full_at hf
    have hk := hl.1
    refine ⟨?_, ?_, ?_, ?_⟩
    · show e'.key.size ≤ 48
      rw [← hk]
      exact f1
    · show minN h ≤ (kidsOf e').length
      rw [← hl.2.length]
      exact f2
    · show sizeN (kidsOf e') ≤ 495
      rw [← LikeN.size hl.2]
      exact f3
    · exact both_all (fun _ _ h k => LikeE.full h k) hl.2 f4

/-- At or below a place. -/
def Und (G : Gh) : Nat → Nat → Nat → Prop
  | 0, a, x => x = a
  | h + 1, a, x => x = a ∨ ∃ P ks, G a = some P ∧ P.nd = some (.inr ks) ∧ ∃ k ∈ ks, Und G h k.2 x
theorem Und.self (G : Gh) : (h a : Nat) → Und G h a a
  | 0, _ => rfl
  | _ + 1, _ => .inl rfl
theorem Und.kid {G : Gh} {h a x : Nat} {P : Pl} {ks : List (ByteArray × Nat)} (hP : G a = some P) (hn : P.nd = some (.inr ks)) {k : ByteArray × Nat} (hk : k ∈ ks) (hu : Und G h k.2 x) : Und G (h + 1) a x := .inr ⟨P, ks, hP, hn, k, hk, hu⟩

theorem en_eq {h : Nat} {e e' : En (h + 1)} (h1 : e.key = e'.key) (h2 : pageOf e = pageOf e') (h3 : kidsOf e = kidsOf e') : e = e' := by
  obtain ⟨a, b, c⟩ := e
  obtain ⟨a', b', c'⟩ := e'
  have h1' : a = a' := h1
  have h2' : b = b' := h2
  have h3' : c = c' := h3
  subst h1' h2' h3'
  rfl
theorem kids_unique {h : Nat} {G : Gh} {M : Nat → List (En h) → Prop} (hM : ∀ a l l', M a l → M a l' → l = l') : {ks : List (ByteArray × Nat)} → {l l' : List (En (h + 1))} → Both (KidIs G M) ks l → Both (KidIs G M) ks l' → l = l'
  | [], [], [], _, _ => rfl
  | k :: ks, e :: l, e' :: l', hb, hb' => by
    rw [kids_unique hM hb.2 hb'.2]
    obtain ⟨k1, ⟨P, k2, k3⟩, k4⟩ := hb.1
    obtain ⟨k1', ⟨P', k2', k3'⟩, k4'⟩ := hb'.1
    obtain rfl : P = P' := by rw [k2] at k2'; exact Option.some.inj k2'
    rw [en_eq (k1.symm.trans k1') (k3.symm.trans k3') (hM _ _ _ k4 k4')]
  | [], _ :: _, _, h, _ => h.elim
  | [], _, _ :: _, _, h => h.elim
  | _ :: _, [], _, h, _ => h.elim
  | _ :: _, _, [], _, h => h.elim
/-- A place comes to one row. -/
theorem Means.unique {G : Gh} {D : Dk} : {h a : Nat} → {l l' : List (En h)} → Means G D h a l → Means G D h a l' → l = l' := by
  intro h
  induction h with
  | zero =>
    intro a l l' hm hm'
    obtain ⟨P, h1, h2, h3, h4, h5⟩ := hm.out
    obtain ⟨P', h1', h2', h3', h4', h5'⟩ := hm'.out
    obtain rfl : P = P' := by rw [h1] at h1'; exact Option.some.inj h1'
    cases hn : P.nd with
    | none => exact (h3 (h4 hn)).unique (h3' (h4 hn))
    | some nd =>
      have e1 : nd = .inl l := h5 nd hn
      have e2 : nd = .inl l' := h5' nd hn
      rw [e1] at e2
      injection e2
  | succ h ih =>
    intro a l l' hm hm'
    obtain ⟨P, h1, h2, h3, h4, h5⟩ := hm.out
    obtain ⟨P', h1', h2', h3', h4', h5'⟩ := hm'.out
    obtain rfl : P = P' := by rw [h1] at h1'; exact Option.some.inj h1'
    cases hn : P.nd with
    | none => exact (h3 (h4 hn)).unique (h3' (h4 hn))
    | some nd =>
      obtain ⟨ks, e1, hb⟩ := h5 nd hn
      obtain ⟨ks', e2, hb'⟩ := h5' nd hn
      rw [e1] at e2
      injection e2 with e2
      subst e2
      exact kids_unique (M := Means G D h) (fun _ _ _ h1 h2 => ih h1 h2) hb hb'

theorem OnDisk.more {D D' : Dk} (hD : ∀ n x, D n = some x → D' n = some x) : {h pg : Nat} → {l : List (En h)} → OnDisk D h pg l → OnDisk D' h pg l
  | 0, _, _, hd => ⟨hd.1, hD _ _ hd.2⟩
  | _ + 1, _, _, hd => ⟨hd.1, hD _ _ hd.2.1, fun e he => (hd.2.2 e he).more hD⟩

/-- What stands below has not changed, the disk has more. -/
theorem Means.frame {G G' : Gh} {D D' : Dk} (hD : ∀ n x, D n = some x → D' n = some x) : {h a : Nat} → {l : List (En h)} → Means G D h a l → (∀ x, Und G h a x → G' x = G x) → Means G' D' h a l := by
  intro h
  induction h with
  | zero =>
    intro a l hm hG
    obtain ⟨P, h1, h2, h3, h4, h5⟩ := hm.out
    exact Means.of P ((hG a rfl).trans h1) h2 (fun h => (h3 h).more hD) h4 h5
  | succ h ih =>
    intro a l hm hG
    obtain ⟨P, h1, h2, h3, h4, h5⟩ := hm.out
    refine Means.of P ((hG a (Und.self _ _ _)).trans h1) h2 (fun h => (h3 h).more hD) h4 fun nd hn => ?_
    obtain ⟨ks, rfl, hb⟩ := h5 nd hn
    refine ⟨ks, rfl, hb.mono fun k hk x _ hx => ?_⟩
    obtain ⟨k1, ⟨Q, k2, k3⟩, k4⟩ := hx
    have hu : ∀ y, Und G h k.2 y → G' y = G y := fun y hy => hG y (Und.kid h1 hn hk hy)
    exact ⟨k1, ⟨Q, (hu _ (Und.self _ _ _)).trans k2, k3⟩, ih k4 hu⟩

theorem kid_has {h : Nat} {l : List (En (h + 1))} (hf : ∀ e ∈ l, FullE e) {e : En (h + 1)} (he : e ∈ l) : (∀ k ∈ kidsOf e, FullE k) ∧ 0 < (kidsOf e).length := by
  obtain ⟨_, f2, _, f4⟩ := full_at (hf e he)
  refine ⟨f4, Nat.lt_of_lt_of_le ?_ f2⟩
  cases h <;> simp [minN]
theorem flat_some : ∀ {h : Nat} {l : List (En h)}, (∀ e ∈ l, FullE e) → 0 < l.length → ∃ y, y ∈ flatN l
  | 0, l, _, h0 => ⟨l[0], by rw [flatN_zero]; exact List.getElem_mem h0⟩
  | h + 1, l, hf, h0 => by
    obtain ⟨k1, k2⟩ := kid_has hf (List.getElem_mem h0)
    obtain ⟨y, hy⟩ := flat_some k1 k2
    exact ⟨y, List.mem_flatMap.2 ⟨l[0], List.getElem_mem h0, hy⟩⟩

/-- What is below has a level, and keys of what it is below. -/
theorem Und.at {G : Gh} {D : Dk} : {h a x : Nat} → {l : List (En h)} → Means G D h a l → (∀ e ∈ l, FullE e) → 0 < l.length → Und G h a x → ∃ hx lx, Means G D hx x lx ∧ (∀ y ∈ flatN lx, y ∈ flatN l) ∧ ∃ y, y ∈ flatN lx := by
  intro h
  induction h with
  | zero =>
    intro a x l hm hf h0 hu
    obtain rfl : x = a := hu
    exact ⟨0, l, hm, fun _ h => h, flat_some hf h0⟩
  | succ h ih =>
    intro a x l hm hf h0 hu
    rcases hu with rfl | ⟨P, ks, hP, hn, k, hk, hu⟩
    · exact ⟨h + 1, l, hm, fun _ h => h, flat_some hf h0⟩
    · obtain ⟨P', h1, h2, h3, h4, h5⟩ := hm.out
      obtain rfl : P = P' := by rw [hP] at h1; exact Option.some.inj h1
      obtain ⟨ks', e, hb⟩ := h5 _ hn
      injection e with e
      subst e
      obtain ⟨e, he, hx⟩ := hb.left k hk
      obtain ⟨k1, k2⟩ := kid_has hf he
      obtain ⟨hx', lx, g1, g2, g3⟩ := ih hx.2.2 k1 k2 hu
      exact ⟨hx', lx, g1, fun y hy => List.mem_flatMap.2 ⟨e, he, g2 y hy⟩, g3⟩

/-- Two entries of a row share nothing. -/
theorem kids_apart {G : Gh} {D : Dk} {h : Nat} {ks : List (ByteArray × Nat)} {l : List (En (h + 1))} (hb : Both (KidIs G (Means G D h)) ks l) (hr : ((flatN l).map Prod.fst).Pairwise klt) (hf : ∀ e ∈ l, FullE e) {i j : Nat} (hi : i < ks.length) (hj : j < ks.length) (hij : i < j) {x : Nat} (h1 : Und G h ks[i].2 x) (h2 : Und G h ks[j].2 x) : False := by
  have hlen := hb.length
  have b1 := hb.get i hi (by omega)
  have b2 := hb.get j hj (by omega)
  obtain ⟨f1, f2⟩ := kid_has hf (List.getElem_mem (show i < l.length by omega))
  obtain ⟨g1, g2⟩ := kid_has hf (List.getElem_mem (show j < l.length by omega))
  obtain ⟨hx, lx, m1, m2, y, hy⟩ := Und.at b1.2.2 f1 f2 h1
  obtain ⟨hx', lx', n1, n2, _⟩ := Und.at b2.2.2 g1 g2 h2
  obtain ⟨P, p1, p2, _⟩ := m1.out
  obtain ⟨P', p1', p2', _⟩ := n1.out
  obtain rfl : P = P' := by rw [p1] at p1'; exact Option.some.inj p1'
  obtain rfl : hx = hx' := by omega
  obtain rfl := m1.unique n1
  have hyi : y ∈ flatN (l.take (i + 1)) := List.mem_flatMap.2 ⟨l[i], by rw [List.mem_take_iff_getElem]; exact ⟨i, by omega, rfl⟩, m2 y hy⟩
  have hyj : y ∈ flatN (l.drop (i + 1)) := List.mem_flatMap.2 ⟨l[j], by
    rw [List.mem_drop_iff_getElem]
    exact ⟨j - (i + 1), by omega, by simp [show i + 1 + (j - (i + 1)) = j by omega]⟩, n2 y hy⟩
  rw [show l = l.take (i + 1) ++ l.drop (i + 1) from (List.take_append_drop _ _).symm, flatN_append, List.map_append, List.pairwise_append] at hr
  exact klt_irrefl _ (hr.2.2 y.1 (List.mem_map.2 ⟨y, hyi, rfl⟩) y.1 (List.mem_map.2 ⟨y, hyj, rfl⟩))

/-- Pages were given to places. -/
structure Wrt (G G' : Gh) (U : Nat → Prop) : Prop where
  none_ : ∀ x, G x = none → G' x = none
  some_ : ∀ x P, G x = some P → ∃ n, G' x = some { P with pg := n }
  same : ∀ x, ¬ U x → G' x = G x
theorem Wrt.refl (G : Gh) (U : Nat → Prop) : Wrt G G U := ⟨fun _ h => h, fun _ P h => ⟨P.pg, h⟩, fun _ _ => rfl⟩
theorem Wrt.trans {G G' G'' : Gh} {U V : Nat → Prop} (h : Wrt G G' U) (k : Wrt G' G'' V) (hV : ∀ x, V x → U x) : Wrt G G'' U :=
  ⟨fun x hx => k.none_ x (h.none_ x hx), fun x P hP => by
    obtain ⟨n, h1⟩ := h.some_ x P hP
    obtain ⟨n2, h2⟩ := k.some_ x _ h1
    exact ⟨n2, h2⟩, fun x hx => (k.same x (fun hv => hx (hV x hv))).trans (h.same x hx)⟩
theorem Wrt.wide {G G' : Gh} {U V : Nat → Prop} (h : Wrt G G' U) (hV : ∀ x, U x → V x) : Wrt G G' V := ⟨h.none_, h.some_, fun x hx => h.same x (fun hu => hx (hV x hu))⟩
theorem Wrt.und {G G' : Gh} {U : Nat → Prop} (h : Wrt G G' U) : {k a x : Nat} → Und G' k a x → Und G k a x
  | 0, _, _, hu => hu
  | k + 1, a, x, hu => by
    rcases hu with e | ⟨P, ks, hP, hn, y, hy, hu⟩
    · exact .inl e
    · cases hg : G a with
      | none => rw [h.none_ a hg] at hP; cases hP
      | some Q =>
        obtain ⟨n, h1⟩ := h.some_ a Q hg
        rw [h1] at hP
        obtain rfl := Option.some.inj hP
        exact .inr ⟨Q, ks, hg, hn, y, hy, h.und hu⟩
end Go.Proofs.YthehkckdecckhaaGreatDoor
