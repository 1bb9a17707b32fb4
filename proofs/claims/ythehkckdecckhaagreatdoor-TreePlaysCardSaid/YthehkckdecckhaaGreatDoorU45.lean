/-
  Get, walked, on any tree with its memory; what a root's node is.
  Put and Del, walked, on any tree with its memory.
  Put and Del, walked, on any tree with its memory: the walks.
  A tree with its pager: what stands between calls; what frees make of a pager; the disk behind a Commit.
  Commit, walked, of any tree.
  Commit of any tree that was changed, and has room.
  Calls of a tree that change nothing of it, or forget it all: Abort, a Put and a Commit that are refused, a Commit of nothing.
-/
import Derived.Test.YthehkckdecckhaaGreatDoorU44
import Derived.Test.YthehkckdecckhaaGreatDoorU43
import Derived.Test.YthehkckdecckhaaGreatDoorU42
import Derived.Test.YthehkckdecckhaaGreatDoorU38

namespace Go.Proofs.YthehkckdecckhaaGreatDoor
open Go.RowKit Go.Maps

/-- A root's node is on each key's way. -/
theorem RootOk.way {h : Nat} {e : En (h + 1)} (hr : RootOk (some ⟨h, e⟩)) (key : ByteArray) : WayIn key ByteArray.empty none (kidsOf e) := by
  obtain ⟨h1, h2, h3⟩ := hr h e rfl
  obtain ⟨_, f2, f3, f4⟩ := h3
  have h1' : e.1 = ByteArray.empty := h1
  refine ⟨?_, h2.2, not_below key, below_none key, f4, f3, fun h0 => ?_⟩
  · have := h2.1
    rw [h1'] at this
    exact this
  · cases h with
    | zero => omega
    | succ h => exact f2

/-- The pager was asked. -/
theorem TD.ask {w w' : World} {O : Nat → Prop} {t p b m sm rb : Nat} {s : St} {q : Pg} {Dn S : Stt} {D : Dk} {G : Gh} {Rw : Nat → Prop} {ds : List Nat} (h : TD w O t p b m sm rb s q Dn S D G Rw ds) (r : Bool) (hA : PAt w' p b m sm rb s { q with rd := r }) (hT : Turn [p] w w') : TD w' O t p b m sm rb s { q with rd := r } Dn S D G Rw ds ∧ TStep p w w' G G Rw Rw := by
  have hp : G p = none ∧ ¬ Rw p := by
    refine ⟨?_, fun hr => (h.tm.own p (.inr hr)).1 (by simp)⟩
    cases hg : G p with
    | none => rfl
    | some P => exact absurd (show p ∈ [1, t, p, b, m, sm, rb] by simp) (h.tm.own p (.inl (by rw [hg]; simp))).1
  refine ⟨⟨⟨hA, h.tm.tr.turn hT (by simp; exact h.tm.off.p), h.tm.off, Nat.lt_of_lt_of_le h.tm.rbl hT.size, h.tm.sd, h.tm.qd, h.tm.mem.turn hT (fun x hx => by rw [List.mem_singleton.1 hx]; exact hp), ⟨fun pg hh l hD => h.tm.dk.at_ pg hh l hD⟩, h.tm.own, h.tm.no, fun x hx => Nat.lt_of_lt_of_le (h.tm.ob x hx) hT.size⟩, own_turn h.drop hT (fun g hg hm => ?_), h.far⟩, ⟨⟨[p], hT, fun x hx => .inl (List.mem_singleton.1 hx)⟩, fun _ h => .inl h, fun _ h => .inl h, fun _ h => h⟩⟩
  rw [List.mem_singleton.1 hm] at hg
  exact (h.far p hg).1 (by simp)

/-- A field of the state is stored. -/
theorem TD.stored {w w' : World} {O : Nat → Prop} {t p b m sm rb : Nat} {s : St} {q : Pg} {Dn S S' : Stt} {D : Dk} {G : Gh} {Rw : Nat → Prop} {ds : List Nat} (h : TD w O t p b m sm rb s q Dn S D G Rw ds) (hT : Turn [t] w w') (hTr : TreeAt w' t p Dn S') (hd : S'.dropped = S.dropped) : TD w' O t p b m sm rb s q Dn S' D G Rw ds ∧ TGo t p w w' G G Rw Rw S.dropped S'.dropped := by
  refine ⟨⟨h.tm.state hT (fun x hx => .inl (List.mem_singleton.1 hx)) hTr, ?_, ?_⟩, ⟨⟨[t], hT, fun x hx => .inl (List.mem_singleton.1 hx)⟩, fun _ h => .inl h, fun _ h => .inl h, fun _ h => h, fun x hx => .inl (by rw [← hd]; exact hx)⟩⟩
  · rw [hd]
    refine own_turn h.drop hT fun g hg hm => ?_
    rw [List.mem_singleton.1 hm] at hg
    exact (h.far t hg).1 (by simp)
  · rw [hd]
    exact h.far

/-- Nothing of it turned. -/
theorem TD.quiet {w w' : World} {O : Nat → Prop} {t p b m sm rb : Nat} {s : St} {q : Pg} {Dn S : Stt} {D : Dk} {G : Gh} {Rw : Nat → Prop} {ds : List Nat} (h : TD w O t p b m sm rb s q Dn S D G Rw ds) (hT : Turn [] w w') : TD w' O t p b m sm rb s q Dn S D G Rw ds := h.read (h.tm.quiet hT) ((TStep.refl p w G Rw).quiet hT)

theorem rtat_none {G : Gh} {D : Dk} {ro : Option Nat} (h : RtAt G D ro none) : ro = none := by
  cases ro with
  | none => rfl
  | some a => exact h.elim
theorem rtat_some {G : Gh} {D : Dk} {ro : Option Nat} {hh : Nat} {e : En (hh + 1)} (h : RtAt G D ro (some ⟨hh, e⟩)) : ∃ a P, ro = some a ∧ G a = some P ∧ P.pg = pageOf e ∧ Means G D hh a (kidsOf e) := by
  cases ro with
  | none => exact h.elim
  | some a =>
    obtain ⟨⟨P, h1, h2⟩, h3⟩ := h
    exact ⟨a, P, rfl, h1, h2, h3⟩
theorem RtAt.grown {D : Dk} {G G' : Gh} (hg : Grown D G G') {ro : Option Nat} {rt : Root?} (h : RtAt G D ro rt) : RtAt G' D ro rt := by
  cases rt with
  | none => rw [rtat_none h]; trivial
  | some x =>
    obtain ⟨hh, e⟩ := x
    obtain ⟨a, P, rfl, h1, h2, h3⟩ := rtat_some h
    obtain ⟨P', g1, g2, _⟩ := hg.at_ a P h1
    exact ⟨⟨P', g1, g2.trans h2⟩, h3.grown hg⟩

/-- Get of any tree. -/
theorem tm_get {w : World} {O : Nat → Prop} {t p b m sm rb : Nat} {s : St} {q : Pg} {Dn S : Stt} {D : Dk} {G : Gh} {Rw : Nat → Prop} {ds : List Nat} (h : TD w O t p b m sm rb s q Dn S D G Rw ds) {rt : Root?} (hR : RtAt G D S.root rt) (hOk : RootOk rt) (key : ByteArray) :
    Calls Tryz.prog 18 #[.pointer (some ⟨t, 0, none⟩), .string key] w fun e w' => e = .returned (gotV (getK (flatR rt) key)) ∧ ∃ G' Rw' r, TD w' O t p b m sm rb s { q with rd := r } Dn S D G' Rw' ds ∧ Grown D G G' ∧ TStep p w w' G G' Rw Rw' := by
  cases rt with
  | none =>
    refine (get_nil t p Dn S (rtat_none hR) key w h.tm.tr).mono ?_
    rintro e w' ⟨rfl, hT⟩
    exact ⟨rfl, G, Rw, q.rd, h.quiet hT, Grown.refl _ _, (TStep.refl p w G Rw).quiet hT⟩
  | some x =>
    obtain ⟨hh, e⟩ := x
    obtain ⟨a, P, hro, _, _, hm⟩ := rtat_some hR
    refine get_gen t key _ w (fun u => ∃ G' Rw' r, TD u O t p b m sm rb s { q with rd := r } Dn S D G' Rw' ds ∧ Grown D G G' ∧ TStep p w u G G' Rw Rw') ?_ ((tm_leafOf h.tm key hro hm (hOk.way key).sub).mono ?_)
    · rintro u v ⟨G', Rw', r, h1, h2, h3⟩ hT
      exact ⟨G', Rw', r, h1.quiet hT, h2, h3.quiet hT⟩
    · rintro e w' ⟨v, L, G', Rw', r, rfl, h1, h2, h3, h4⟩
      exact ⟨v, L, rfl, h1, G', Rw', r, h.read h2 h4, h3, h4⟩

end Go.Proofs.YthehkckdecckhaaGreatDoor

namespace Go.Proofs.YthehkckdecckhaaGreatDoor
open Go.RowKit Go.Maps

/-- What an edit leaves of any tree. -/
structure EdR (w w' : World) (O : Nat → Prop) (t p b m sm rb : Nat) (s : St) (q : Pg) (Dn S : Stt) (D : Dk) (G : Gh) (Rw : Nat → Prop) (ds : List Nat) (fK : List Kv → List Kv) (rt : Root?) : Prop where
  ex : ∃ (rt' : Root?) (G' : Gh) (Rw' : Nat → Prop) (r : Bool) (S' : Stt) (ds' X : List Nat) (y : Nat), RtAt G' D S'.root rt' ∧ RootOk rt' ∧ flatR rt' = fK (flatR rt) ∧ TD w' O t p b m sm rb s { q with rd := r } Dn S' D G' Rw' ds' ∧ Grown D G G' ∧ TGo t p w w' G G' Rw Rw' S.dropped S'.dropped ∧ Mvd X y S { S' with root := S.root } ds ds' ∧ (pagesR rt' ++ X).Perm (pagesR rt ++ List.replicate y 0) ∧ X.length ≤ 2 * heightR rt ∧ y ≤ 2 * max 1 (heightR rt) + 1

theorem edr_some {w w' : World} {O : Nat → Prop} {t p b m sm rb : Nat} {s : St} {q : Pg} {Dn S : Stt} {D : Dk} {G : Gh} {Rw : Nat → Prop} {ds : List Nat} {fK : List Kv → List Kv} {hh pg : Nat} {e : En (hh + 1)} (hpg : pg = pageOf e) (h : EdOut w w' O t p b m sm rb s q Dn S D G Rw ds pg fK (kidsOf e)) : EdR w w' O t p b m sm rb s q Dn S D G Rw ds fK (some ⟨hh, e⟩) := by
  obtain ⟨rt, G', Rw', r, S', ds', X, y, h1, h2, h3, h4, h5, h6, h7, h8, h9, h10⟩ := h.ex
  subst hpg
  have e1 : heightR (some ⟨hh, e⟩) = hh + 1 := rfl
  exact ⟨rt, G', Rw', r, S', ds', X, y, h1, h2, h3, h4, h5, h6, h7, h8, by rw [e1]; omega, by rw [e1]; omega⟩
theorem edr_none {w w' : World} {O : Nat → Prop} {t p b m sm rb : Nat} {s : St} {q : Pg} {Dn S : Stt} {D : Dk} {G : Gh} {Rw : Nat → Prop} {ds : List Nat} {k v : ByteArray} (h : EdNil w w' O t p b m sm rb s q Dn S D G Rw ds k v) : EdR w w' O t p b m sm rb s q Dn S D G Rw ds (fun L => putK L k v) none := by
  obtain ⟨rt, G', Rw', S', y, h1, h2, h3, h4, h5, h6, h7, h8, h9, h10, h11⟩ := h.ex
  refine ⟨rt, G', Rw', q.rd, S', ds, [], y, h1, h2, h3, h4, h5, h6, ⟨rfl, h7, h8, by simpa using h9, by simp⟩, ?_, by simp, by show y ≤ 2 * max 1 0 + 1; omega⟩
  rw [List.append_nil]
  exact h10

/-- edit by Put's closure, on any tree. -/
theorem tm_edit_put {w : World} {kb : Nat} {k v : ByteArray} {O : Nat → Prop} {t p b m sm rb : Nat} {s : St} {Dn : Stt} {D : Dk} {q : Pg} {S : Stt} {G : Gh} {Rw : Nat → Prop} {ds : List Nat} {rt : Root?} (hTD : TD w O t p b m sm rb s q Dn S D G Rw ds) (hR : RtAt G D S.root rt) (hOk : RootOk rt) (hk : 0 < k.size ∧ k.size ≤ 48) (hv : v.size ≤ 120) (hb : ds.length ≤ 30000 ∧ S.fresh ≤ 30000 ∧ heightR rt ≤ 100) (hcnt : (pagesR rt).count 0 ≤ S.fresh) (hkt : kb ≠ t ∧ kb ≠ p) (hkG : G kb = none) (hkD : S.dropped.ownBlock ≠ some kb) (h0 : w.cell? ⟨kb, 0, none⟩ = some (.string k)) (h1 : w.cell? ⟨kb, 1, none⟩ = some (.string v)) :
    Calls Tryz.prog 37 #[.pointer (some ⟨t, 0, none⟩), .string k, .func (.func 38) #[] #[.pointer (some ⟨kb, 0, none⟩)]] w fun e w' => e = .returned (.tuple #[]) ∧ EdR w w' O t p b m sm rb s q Dn S D G Rw ds (fun L => putK L k v) rt := by
  cases rt with
  | none =>
    refine (tm_edit_nil (rtat_none hR) hTD hk hv (by omega) h0 h1).mono ?_
    rintro e w' ⟨rfl, h⟩
    exact ⟨rfl, edr_none h⟩
  | some x =>
    obtain ⟨hh, e⟩ := x
    obtain ⟨a, P, hro, hP, hpg, hm⟩ := rtat_some hR
    have e1 : heightR (some ⟨hh, e⟩) = hh + 1 := rfl
    rw [e1] at hb
    refine (tm_edit (edk_put hk hv) (leafFn_put (want := getK (flatN (kidsOf e)) k) h0 h1) (.inl rfl) hkt hro (lt_of_cell h0) hkG hkD hTD hm hP (hOk.way k) rfl (by omega) (by omega) (by rw [hpg]; exact hcnt) (by omega)).mono ?_
    rintro e' w' ⟨rfl, h⟩
    exact ⟨rfl, edr_some hpg h⟩

/-- edit by Del's closure, where the key is there. -/
theorem tm_edit_del {w : World} {kb : Nat} {k v : ByteArray} {O : Nat → Prop} {t p b m sm rb : Nat} {s : St} {Dn : Stt} {D : Dk} {q : Pg} {S : Stt} {G : Gh} {Rw : Nat → Prop} {ds : List Nat} {rt : Root?} (hTD : TD w O t p b m sm rb s q Dn S D G Rw ds) (hR : RtAt G D S.root rt) (hOk : RootOk rt) (hget : getK (flatR rt) k = some v) (hb : ds.length ≤ 30000 ∧ S.fresh ≤ 30000 ∧ heightR rt ≤ 100) (hcnt : (pagesR rt).count 0 ≤ S.fresh) (hkt : kb ≠ t ∧ kb ≠ p) (hkG : G kb = none) (hkD : S.dropped.ownBlock ≠ some kb) (h0 : w.cell? ⟨kb, 0, none⟩ = some (.string k)) :
    Calls Tryz.prog 37 #[.pointer (some ⟨t, 0, none⟩), .string k, .func (.func 40) #[] #[.pointer (some ⟨kb, 0, none⟩)]] w fun e w' => e = .returned (.tuple #[]) ∧ EdR w w' O t p b m sm rb s q Dn S D G Rw ds (fun L => delK L k) rt := by
  cases rt with
  | none => cases hget
  | some x =>
    obtain ⟨hh, e⟩ := x
    obtain ⟨a, P, hro, hP, hpg, hm⟩ := rtat_some hR
    have e1 : heightR (some ⟨hh, e⟩) = hh + 1 := rfl
    rw [e1] at hb
    refine (tm_edit edk_del (leafFn_del (v := v) h0) (.inr rfl) hkt hro (lt_of_cell h0) hkG hkD hTD hm hP (hOk.way k) hget (by omega) (by omega) (by rw [hpg]; exact hcnt) (by omega)).mono ?_
    rintro e' w' ⟨rfl, h⟩
    exact ⟨rfl, edr_some hpg h⟩

/-- What Put or Del leaves. -/
structure ChOut (w w' : World) (O : Nat → Prop) (t p b m sm rb : Nat) (s : St) (q : Pg) (Dn S : Stt) (D : Dk) (G : Gh) (Rw : Nat → Prop) (ds : List Nat) (rt : Root?) (l' : List Kv) (ks : Nat) : Prop where
  ex : ∃ (rt' : Root?) (G' : Gh) (Rw' : Nat → Prop) (r : Bool) (S' : Stt) (ds' X : List Nat) (y : Nat), RtAt G' D S'.root rt' ∧ RootOk rt' ∧ flatR rt' = l' ∧ TD w' O t p b m sm rb s { q with rd := r } Dn S' D G' Rw' ds' ∧ Grown D G G' ∧ TGo t p w w' G G' Rw Rw' S.dropped S'.dropped ∧ S'.keys = ks ∧ S'.changed = true ∧ S'.fresh + X.count 0 = S.fresh + y ∧ ds' = ds ++ X.filter (fun x => decide (x ≠ 0)) ∧ (pagesR rt' ++ X).Perm (pagesR rt ++ List.replicate y 0) ∧ X.length ≤ 2 * heightR rt ∧ y ≤ 2 * max 1 (heightR rt) + 1

theorem chout_of {w w8 w9 : World} {O : Nat → Prop} {t p b m sm rb : Nat} {s : St} {q : Pg} {Dn S : Stt} {D : Dk} {G G8 : Gh} {Rw Rw8 : Nat → Prop} {ds : List Nat} {rt : Root?} {fK : List Kv → List Kv} {ks : Nat} {r8 : Bool} (hG : Grown D G G8) (hGo : TGo t p w w8 G G8 Rw Rw8 S.dropped S.dropped) (hE : EdR w8 w9 O t p b m sm rb s { q with rd := r8 } Dn { S with changed := true, keys := ks } D G8 Rw8 ds fK rt) : ChOut w w9 O t p b m sm rb s q Dn S D G Rw ds rt (fK (flatR rt)) ks := by
  obtain ⟨rt', G', Rw', r, S', ds', X, y, h1, h2, h3, h4, h5, h6, h7, h8, h9, h10⟩ := hE.ex
  exact ⟨rt', G', Rw', r, S', ds', X, y, h1, h2, h3, h4, hG.trans h5, hGo.trans h6, h7.keys, h7.changed, h7.fresh, h7.drop, h8, h9, h10⟩
theorem chout_same {w w4 : World} {O : Nat → Prop} {t p b m sm rb : Nat} {s : St} {q : Pg} {Dn S : Stt} {D : Dk} {G G4 : Gh} {Rw Rw4 : Nat → Prop} {ds : List Nat} {rt : Root?} {r4 : Bool} (hR : RtAt G D S.root rt) (hOk : RootOk rt) (hG : Grown D G G4) (hGo : TGo t p w w4 G G4 Rw Rw4 S.dropped S.dropped) (hT : TD w4 O t p b m sm rb s { q with rd := r4 } Dn { S with changed := true } D G4 Rw4 ds) : ChOut w w4 O t p b m sm rb s q Dn S D G Rw ds rt (flatR rt) S.keys :=
  ⟨rt, G4, Rw4, r4, { S with changed := true }, ds, [], 0, hR.grown hG, hOk, rfl, hT, hG, hGo, rfl, rfl, rfl, by simp, by simp, by simp, by omega⟩

theorem putK_same {L : List Kv} {k v : ByteArray} (hs : (L.map Prod.fst).Pairwise klt) (h : getK L k = some v) : putK L k v = L := by
  unfold getK at h
  cases hf : L.find? (fun x => decide (x.1 = k)) with
  | none => rw [hf] at h; cases h
  | some x =>
    rw [hf] at h
    have hx : x.2 = v := Option.some.inj h
    obtain ⟨i, hi, e⟩ := List.mem_iff_getElem.1 (List.mem_of_find?_eq_some hf)
    have hk := List.find?_some hf
    have hk' : x.1 = k := by simpa using hk
    have hp := List.pairwise_iff_getElem.1 hs
    have hlt : ∀ m j (hm : m < j) (hj : j < L.length), klt (L[m]'(by omega)).1 L[j].1 := fun m j hm hj => by
      have := hp m j (by rw [List.length_map]; omega) (by rw [List.length_map]; exact hj) hm
      simpa using this
    have e3 : L[i] = (k, v) := by rw [e, ← hk', ← hx]
    unfold putK
    have g1 : ∀ y ∈ L.take i, klt y.1 k := fun y hy => by
      obtain ⟨m, hm, rfl⟩ := List.mem_take_iff_getElem.1 hy
      have := hlt m i (by omega) hi
      rw [e3] at this
      exact this
    have g2 : ∀ y ∈ L.drop i, ¬ klt y.1 k := fun y hy => by
      obtain ⟨m, hm, rfl⟩ := List.mem_drop_iff_getElem.1 hy
      rcases Nat.eq_zero_or_pos m with h0 | h0
      · subst h0
        have : L[i + 0] = (k, v) := e3
        rw [this]
        exact klt_irrefl _
      · have := hlt i (i + m) (by omega) (by omega)
        rw [e3] at this
        exact klt_asymm this
    have g3 : ∀ y ∈ L.drop (i + 1), klt k y.1 := fun y hy => by
      obtain ⟨m, hm, rfl⟩ := List.mem_drop_iff_getElem.1 hy
      have := hlt i (i + 1 + m) (by omega) (by omega)
      rw [e3] at this
      exact this
    have g4 : ∀ y ∈ L.take (i + 1), ¬ klt k y.1 := fun y hy => by
      obtain ⟨m, hm, rfl⟩ := List.mem_take_iff_getElem.1 hy
      by_cases h0 : m = i
      · subst h0
        rw [e3]
        exact klt_irrefl _
      · have := hlt m i (by omega) hi
        rw [e3] at this
        exact klt_asymm this
    have e1 : L.filter (fun x => decide (klt x.1 k)) = L.take i := by
      conv => lhs; rw [← List.take_append_drop i L]
      rw [List.filter_append, filter_all fun y hy => decide_eq_true (g1 y hy), filter_none fun y hy => decide_eq_false (g2 y hy), List.append_nil]
    have e2 : L.filter (fun x => decide (klt k x.1)) = L.drop (i + 1) := by
      conv => lhs; rw [← List.take_append_drop (i + 1) L]
      rw [List.filter_append, filter_none (l := L.take (i + 1)) (p := fun x => decide (klt k x.1)) (fun y hy => decide_eq_false (g4 y hy)), filter_all fun y hy => decide_eq_true (g3 y hy), List.nil_append]
    rw [e1, e2, ← e3, ← List.drop_eq_getElem_cons hi, List.take_append_drop]

end Go.Proofs.YthehkckdecckhaaGreatDoor

namespace Go.Proofs.YthehkckdecckhaaGreatDoor
open Go.RowKit Go.Maps

/-- A block that is new. -/
theorem TD.newBlock {w : World} {O : Nat → Prop} {t p b m sm rb : Nat} {s : St} {q : Pg} {Dn S : Stt} {D : Dk} {G : Gh} {Rw : Nat → Prop} {ds : List Nat} (h : TD w O t p b m sm rb s q Dn S D G Rw ds) {x : Nat} (hx : w.heap.size ≤ x) : (x ≠ t ∧ x ≠ p) ∧ G x = none ∧ S.dropped.ownBlock ≠ some x := by
  have h1 := h.tm.lts t (by simp)
  have h2 := h.tm.lts p (by simp)
  refine ⟨⟨by omega, by omega⟩, ?_, fun e => ?_⟩
  · cases hg : G x with
    | none => rfl
    | some P => have := h.tm.mem.lt (a := x) (by rw [hg]; simp); omega
  · have := (h.drop.lt x e).2
    omega

set_option maxRecDepth 100000 in
set_option maxHeartbeats 6400000 in
theorem tm_put {w : World} {O : Nat → Prop} {t p b m sm rb : Nat} {s : St} {q : Pg} {Dn S : Stt} {D : Dk} {G : Gh} {Rw : Nat → Prop} {ds : List Nat} (h : TD w O t p b m sm rb s q Dn S D G Rw ds) {rt : Root?} (hR : RtAt G D S.root rt) (hOk : RootOk rt) (k v : ByteArray) (hk1 : 0 < k.size) (hk : k.size ≤ 48) (hv : v.size ≤ 120) (hl : S.fresh ≤ q.left s.n) (hks : S.keys ≤ 1000000) (hds : ds.length ≤ 30000) (hcnt : (pagesR rt).count 0 ≤ S.fresh) (hht : heightR rt ≤ 100) (ks : Nat) (hks2 : ks = S.keys + if (getK (flatR rt) k).isSome then 0 else 1) :
    Calls Tryz.prog 12 #[.pointer (some ⟨t, 0, none⟩), .string k, .string v] w fun e w' => e = .returned (.int .i64 0) ∧ ChOut w w' O t p b m sm rb s q Dn S D G Rw ds rt (putK (flatR rt) k v) ks := by
  have HKs := hide hks2
  have HC := hide (tdead_any t p b m sm rb s q Dn S h.tm.sd h.tm.qd w h.tm.pa h.tm.tr)
  have hk0 : k.toList.isEmpty = false := by rw [toList_empty]; exact decide_eq_false (by omega)
  have hlle := left_le q s.n
  have hfr : S.fresh ≤ 30000 := by omega
  have H := hide h
  have HR := hide hR
  have HOk := hide hOk
  have HB : Hid ((ds.length ≤ 30000 ∧ S.fresh ≤ 30000 ∧ heightR rt ≤ 100) ∧ (pagesR rt).count 0 ≤ S.fresh ∧ 0 < k.size ∧ k.size ≤ 48 ∧ v.size ≤ 120) := ⟨⟨hds, hfr, hht⟩, hcnt, hk1, hk, hv⟩
  have hpt := h.tm.off.p
  have HSame : Hid (∀ val, getK (flatR rt) k = some val → val = v → putK (flatR rt) k v = flatR rt) := fun val h1 h2 => putK_same hOk.rises (by rw [h1, h2])
  clear h hR hOk hds hcnt hht hks2
  go_enter Tryz.func12, Tryz.ntmps12
  go_wp2_with fail
  with_reducible refine HC.out.mono ?_
  rintro e w1 ⟨rfl, ⟨r, hA1⟩, hT1⟩
  obtain ⟨hD1, hS1⟩ := H.out.ask r hA1 hT1
  have H1 := hide hD1
  have HLf := hide (tleft_any t p b m sm rb s { q with rd := r } Dn S H.out.tm.sd hpt (by omega) w1 hA1 hD1.tm.tr)
  change Hid (Calls Tryz.prog 31 _ w1 fun e w' => e = .returned (.int .i64 ((q.left s.n : Nat) - (S.fresh : Nat) : Int)) ∧ PAt w' p b m sm rb s { q with rd := true } ∧ Turn [p] w1 w') at HLf
  generalize q.left s.n = lf at *
  have HS1 := hide hS1
  clear hA1 hT1 hD1 hS1
  go_wp2_with fail
  with_reducible refine HLf.out.mono ?_
  rintro e w2 ⟨rfl, hA2, hT2⟩
  obtain ⟨hD2, hS2⟩ := H1.out.ask true hA2 hT2
  have H2 : Hid (TD w2 O t p b m sm rb s { q with rd := true } Dn S D G Rw ds) := hD2
  have HS2 := hide (HS1.out.trans hS2)
  have h8 := hD2.tm.tr.now.c2
  have f8 := hD2.tm.tr.fz 8
  have hnl : ¬ ((lf : Int) - (S.fresh : Int) < 0) := by omega
  clear hA2 hT2 hD2 hS2
  go_wp2_with fail
  have hTs3 : Turn [t] w2 (w2.setCell ⟨t, 8, none⟩ (.bool true)) := (Turn.refl [t] w2).setCell (List.mem_singleton.2 rfl) 8 _
  obtain ⟨hD3, hG3⟩ := H2.out.stored hTs3 (H2.out.tm.tr.setChanged true) rfl
  have H3 : Hid (TD (w2.setCell ⟨t, 8, none⟩ (.bool true)) O t p b m sm rb s { q with rd := true } Dn { S with changed := true } D G Rw ds) := hD3
  have HG3 : Hid (TGo t p w (w2.setCell ⟨t, 8, none⟩ (.bool true)) G G Rw Rw S.dropped S.dropped) := (HS2.out.go S.dropped).trans hG3
  generalize w2.setCell ⟨t, 8, none⟩ (.bool true) = w3 at *
  clear hTs3 h8 f8 hD3 hG3
  have HGt := hide (tm_get (rt := rt) H3.out HR.out HOk.out k)
  rcases hg : getK (flatR rt) k with _ | val
  · rw [hg] at HGt
    change Hid (Calls Tryz.prog 18 _ w3 fun e w' => e = .returned (.tuple #[.string ⟨#[]⟩, .bool false]) ∧ _) at HGt
    have HGk := hide hg
    clear hg
    with_reducible refine HGt.out.mono ?_
    rintro e w4 ⟨rfl, G4, Rw4, r4, hD4, hG4, hS4⟩
    have H4 := hide hD4
    have HG4 := hide hG4
    have HGo4 := hide (HG3.out.trans (hS4.go S.dropped))
    have h7 := hD4.tm.tr.now.c1
    have f7 := hD4.tm.tr.fz 7
    clear hD4 hG4 hS4 HGt
    go_wp2_with fail
    have hTs5 : Turn [t] w4 (w4.setCell ⟨t, 7, none⟩ (.int .i64 ((S.keys : Int) + 1))) := (Turn.refl [t] w4).setCell (List.mem_singleton.2 rfl) 7 _
    have hTr5 := H4.out.tm.tr.setKeys (S.keys + 1)
    rw [show ((S.keys + 1 : Nat) : Int) = (S.keys : Int) + 1 by omega] at hTr5
    obtain ⟨hD5, hG5⟩ := H4.out.stored hTs5 hTr5 rfl
    have H5 : Hid (TD (w4.setCell ⟨t, 7, none⟩ (.int .i64 ((S.keys : Int) + 1))) O t p b m sm rb s { q with rd := r4 } Dn { S with changed := true, keys := S.keys + 1 } D G4 Rw4 ds) := hD5
    have HGo5 : Hid (TGo t p w (w4.setCell ⟨t, 7, none⟩ (.int .i64 ((S.keys : Int) + 1))) G G4 Rw Rw4 S.dropped S.dropped) := HGo4.out.trans hG5
    generalize w4.setCell ⟨t, 7, none⟩ (.int .i64 ((S.keys : Int) + 1)) = w5 at *
    clear hTs5 h7 f7 hTr5 hD5 hG5
    refine (sclone_any k w5 (by omega)).mono ?_
    rintro e w6 ⟨rfl, hT6⟩
    have H6 := hide (H5.out.quiet hT6)
    have HGo6 := hide (HGo5.out.quiet hT6)
    clear hT6
    go_wp2_with fail
    refine (sclone_any v w6 (by omega)).mono ?_
    rintro e w7 ⟨rfl, hT7⟩
    have hT78 : Turn [] w6 (w7.alloc (.cells #[.string k, .string v] 42)) := hT7.alloc _
    have H8 := hide (H6.out.quiet hT78)
    have HGo8 := hide (HGo6.out.quiet hT78)
    obtain ⟨n1, n2, n3⟩ := (H6.out.quiet hT7).newBlock (Nat.le_refl w7.heap.size)
    have HCe := hide (tm_edit_put (kb := w7.heap.size) H8.out (HR.out.grown HG4.out) HOk.out ⟨HB.out.2.2.1, HB.out.2.2.2.1⟩ HB.out.2.2.2.2 HB.out.1 HB.out.2.1 n1 n2 n3 (World.cell?_alloc_at _ _ _ _ rfl) (World.cell?_alloc_at _ _ _ _ rfl))
    have hmf : ∀ (fn : Fn) (first cap : Array Value) (w : World), (Instr.makeFunc fn first cap).run Tryz.prog w = .ok (.func fn first cap) w := fun _ _ _ _ => rfl
    clear hT7 hT78 n1 n2 n3
    go_wp2_with fail
    with_reducible refine HCe.out.mono ?_
    rintro e w9 ⟨rfl, hE⟩
    have HE := hide (chout_of HG4.out HGo8.out hE)
    clear hE
    go_wp2_with fail
    go_ret
    refine ⟨rfl, ?_⟩
    rw [HKs.out, HGk.out]
    exact HE.out
  · rw [hg] at HGt
    change Hid (Calls Tryz.prog 18 _ w3 fun e w' => e = .returned (.tuple #[.string val, .bool true]) ∧ _) at HGt
    have HGk := hide hg
    clear hg
    with_reducible refine HGt.out.mono ?_
    rintro e w4 ⟨rfl, G4, Rw4, r4, hD4, hG4, hS4⟩
    have H4 := hide hD4
    have HG4 := hide hG4
    have HGo4 := hide (HG3.out.trans (hS4.go S.dropped))
    clear hD4 hG4 hS4 HGt
    by_cases hvv : val = v
    · have hvb : (val.toList == v.toList) = true := by rw [eq_str]; exact decide_eq_true hvv
      have HVV := hide hvv
      clear hvv
      go_wp2_with fail
      go_ret
      refine ⟨rfl, ?_⟩
      rw [HSame.out val HGk.out HVV.out, HKs.out, HGk.out]
      exact chout_same HR.out HOk.out HG4.out HGo4.out H4.out
    · have hvb : (val.toList == v.toList) = false := by rw [eq_str]; exact decide_eq_false hvv
      have H5 : Hid (TD w4 O t p b m sm rb s { q with rd := r4 } Dn { S with changed := true, keys := S.keys } D G4 Rw4 ds) := H4.out
      clear hvv H4
      go_wp2_with fail
      refine (sclone_any k w4 (by omega)).mono ?_
      rintro e w6 ⟨rfl, hT6⟩
      have H6 := hide (H5.out.quiet hT6)
      have HGo6 := hide (HGo4.out.quiet hT6)
      clear hT6
      go_wp2_with fail
      refine (sclone_any v w6 (by omega)).mono ?_
      rintro e w7 ⟨rfl, hT7⟩
      have hT78 : Turn [] w6 (w7.alloc (.cells #[.string k, .string v] 42)) := hT7.alloc _
      have H8 := hide (H6.out.quiet hT78)
      have HGo8 := hide (HGo6.out.quiet hT78)
      obtain ⟨n1, n2, n3⟩ := (H6.out.quiet hT7).newBlock (Nat.le_refl w7.heap.size)
      have HCe := hide (tm_edit_put (kb := w7.heap.size) H8.out (HR.out.grown HG4.out) HOk.out ⟨HB.out.2.2.1, HB.out.2.2.2.1⟩ HB.out.2.2.2.2 HB.out.1 HB.out.2.1 n1 n2 n3 (World.cell?_alloc_at _ _ _ _ rfl) (World.cell?_alloc_at _ _ _ _ rfl))
      have hmf : ∀ (fn : Fn) (first cap : Array Value) (w : World), (Instr.makeFunc fn first cap).run Tryz.prog w = .ok (.func fn first cap) w := fun _ _ _ _ => rfl
      clear hT7 hT78 n1 n2 n3
      go_wp2_with fail
      with_reducible refine HCe.out.mono ?_
      rintro e w9 ⟨rfl, hE⟩
      have HE := hide (chout_of HG4.out HGo8.out hE)
      clear hE
      go_wp2_with fail
      go_ret
      refine ⟨rfl, ?_⟩
      rw [HKs.out, HGk.out]
      exact HE.out

set_option maxRecDepth 100000 in
set_option maxHeartbeats 6400000 in
theorem tm_del {w : World} {O : Nat → Prop} {t p b m sm rb : Nat} {s : St} {q : Pg} {Dn S : Stt} {D : Dk} {G : Gh} {Rw : Nat → Prop} {ds : List Nat} (h : TD w O t p b m sm rb s q Dn S D G Rw ds) {rt : Root?} (hR : RtAt G D S.root rt) (hOk : RootOk rt) (k val : ByteArray) (hg : getK (flatR rt) k = some val) (hks : 1 ≤ S.keys ∧ S.keys ≤ 1000000) (hds : ds.length ≤ 30000) (hfr : S.fresh ≤ 30000) (hcnt : (pagesR rt).count 0 ≤ S.fresh) (hht : heightR rt ≤ 100) :
    Calls Tryz.prog 15 #[.pointer (some ⟨t, 0, none⟩), .string k] w fun e w' => e = .returned (.int .i64 0) ∧ ChOut w w' O t p b m sm rb s q Dn S D G Rw ds rt (delK (flatR rt) k) (S.keys - 1) := by
  have hTa : Turn [] w (w.alloc (.cells #[.string k] 9)) := (Turn.refl [] w).alloc _
  have H := hide (h.quiet hTa)
  have HC := hide (tdead_any t p b m sm rb s q Dn S h.tm.sd h.tm.qd _ H.out.tm.pa H.out.tm.tr)
  have HG0 := hide ((TGo.refl t p w G Rw S.dropped).quiet hTa)
  have HR := hide hR
  have HOk := hide hOk
  have HB : Hid ((ds.length ≤ 30000 ∧ S.fresh ≤ 30000 ∧ heightR rt ≤ 100) ∧ (pagesR rt).count 0 ≤ S.fresh) := ⟨⟨hds, hfr, hht⟩, hcnt⟩
  have HGk := hide hg
  have hpt := h.tm.off.p
  have HNb := hide (h.newBlock (Nat.le_refl w.heap.size))
  have hk0 : (w.alloc (.cells #[.string k] 9)).cell? ⟨w.heap.size, 0, none⟩ = some (.string k) := World.cell?_alloc_at _ _ _ _ rfl
  have HK := hide hk0
  clear h hR hOk hds hcnt hht hg hTa hfr
  go_enter Tryz.func15, Tryz.ntmps15
  go_wp2_with fail
  with_reducible refine HC.out.mono ?_
  rintro e w1 ⟨rfl, ⟨r, hA1⟩, hT1⟩
  obtain ⟨hD1, hS1⟩ := H.out.ask r hA1 hT1
  have H1 := hide hD1
  have HG1 := hide (HG0.out.trans (hS1.go S.dropped))
  have HGt := hide (tm_get (rt := rt) hD1 HR.out HOk.out k)
  rw [HGk.out] at HGt
  change Hid (Calls Tryz.prog 18 _ w1 fun e w' => e = .returned (.tuple #[.string val, .bool true]) ∧ _) at HGt
  have HKb1 := hide ((hS1.go S.dropped).keep (lt_of_cell HK.out) HNb.out.1.1 HNb.out.1.2 HNb.out.2.1 HNb.out.2.2)
  have hk1 : w1.cell? ⟨w.heap.size, 0, none⟩ = some (.string k) := (World.cell?_of_block (a := ⟨w.heap.size, 0, none⟩) HKb1.out.1).trans HK.out
  clear hA1 hT1 hD1 hS1
  go_wp2_with fail
  with_reducible refine HGt.out.mono ?_
  rintro e w4 ⟨rfl, G4, Rw4, r4, hD4, hG4, hS4⟩
  have H4 := hide hD4
  have HG4 := hide hG4
  have HGo4 := hide (HG1.out.trans (hS4.go S.dropped))
  have HKb4 := hide ((hS4.go S.dropped).keep HKb1.out.2.1 HNb.out.1.1 HNb.out.1.2 HKb1.out.2.2.1 HKb1.out.2.2.2)
  have h8 := hD4.tm.tr.now.c2
  have f8 := hD4.tm.tr.fz 8
  have h7 := hD4.tm.tr.now.c1
  have f7 := hD4.tm.tr.fz 7
  have hk4 : w4.cell? ⟨w.heap.size, 0, none⟩ = some (.string k) := (World.cell?_of_block (a := ⟨w.heap.size, 0, none⟩) HKb4.out.1).trans hk1
  clear hD4 hG4 hS4 HGt
  have hTs : Turn [t] w4 ((w4.setCell ⟨t, 8, none⟩ (.bool true)).setCell ⟨t, 7, none⟩ (.int .i64 ((S.keys : Int) - 1))) := ((Turn.refl [t] w4).setCell (List.mem_singleton.2 rfl) 8 _).setCell (List.mem_singleton.2 rfl) 7 _
  have hTr5 := (H4.out.tm.tr.setChanged true).setKeys (S.keys - 1)
  rw [show ((S.keys - 1 : Nat) : Int) = (S.keys : Int) - 1 by omega] at hTr5
  obtain ⟨hD5, hG5⟩ := H4.out.stored hTs hTr5 rfl
  have H5 : Hid (TD ((w4.setCell ⟨t, 8, none⟩ (.bool true)).setCell ⟨t, 7, none⟩ (.int .i64 ((S.keys : Int) - 1))) O t p b m sm rb s { q with rd := r4 } Dn { S with changed := true, keys := S.keys - 1 } D G4 Rw4 ds) := hD5
  have HGo5 : Hid (TGo t p w ((w4.setCell ⟨t, 8, none⟩ (.bool true)).setCell ⟨t, 7, none⟩ (.int .i64 ((S.keys : Int) - 1))) G G4 Rw Rw4 S.dropped S.dropped) := HGo4.out.trans hG5
  have hb5 := hTs.block w.heap.size HKb4.out.2.1 (by simp; exact HNb.out.1.1)
  have hk5 : ((w4.setCell ⟨t, 8, none⟩ (.bool true)).setCell ⟨t, 7, none⟩ (.int .i64 ((S.keys : Int) - 1))).cell? ⟨w.heap.size, 0, none⟩ = some (.string k) := (World.cell?_of_block (a := ⟨w.heap.size, 0, none⟩) (hb5.trans (HKb4.out.1.trans HKb1.out.1))).trans HK.out
  have HDe := hide (tm_edit_del (kb := w.heap.size) (v := val) H5.out (HR.out.grown HG4.out) HOk.out HGk.out HB.out.1 HB.out.2 HNb.out.1 HKb4.out.2.2.1 HKb4.out.2.2.2 hk5)
  have hmf : ∀ (fn : Fn) (first cap : Array Value) (w : World), (Instr.makeFunc fn first cap).run Tryz.prog w = .ok (.func fn first cap) w := fun _ _ _ _ => rfl
  clear hTs hTr5 hD5 hG5 hb5
  go_wp2_with fail
  with_reducible refine HDe.out.mono ?_
  rintro e w9 ⟨rfl, hE⟩
  have HE := hide (chout_of HG4.out HGo5.out hE)
  clear hE
  go_wp2_with fail
  go_ret
  exact ⟨rfl, HE.out⟩

set_option maxRecDepth 100000 in
set_option maxHeartbeats 3200000 in
/-- Del of a key that is not there. -/
theorem tm_del_no {w : World} {O : Nat → Prop} {t p b m sm rb : Nat} {s : St} {q : Pg} {Dn S : Stt} {D : Dk} {G : Gh} {Rw : Nat → Prop} {ds : List Nat} (h : TD w O t p b m sm rb s q Dn S D G Rw ds) {rt : Root?} (hR : RtAt G D S.root rt) (hOk : RootOk rt) (k : ByteArray) (hg : getK (flatR rt) k = none) :
    Calls Tryz.prog 15 #[.pointer (some ⟨t, 0, none⟩), .string k] w fun e w' => e = .returned (.int .i64 2) ∧ ∃ G' Rw' r, TD w' O t p b m sm rb s { q with rd := r } Dn S D G' Rw' ds ∧ Grown D G G' ∧ TStep p w w' G G' Rw Rw' := by
  have hTa : Turn [] w (w.alloc (.cells #[.string k] 9)) := (Turn.refl [] w).alloc _
  have H := hide (h.quiet hTa)
  have HC := hide (tdead_any t p b m sm rb s q Dn S h.tm.sd h.tm.qd _ H.out.tm.pa H.out.tm.tr)
  have HG0 := hide ((TStep.refl p w G Rw).quiet hTa)
  have HR := hide hR
  have HOk := hide hOk
  have HGk := hide hg
  have HNb := hide (h.newBlock (Nat.le_refl w.heap.size))
  have hk0 : (w.alloc (.cells #[.string k] 9)).cell? ⟨w.heap.size, 0, none⟩ = some (.string k) := World.cell?_alloc_at _ _ _ _ rfl
  have HK := hide hk0
  clear h hR hOk hg hTa
  go_enter Tryz.func15, Tryz.ntmps15
  go_wp2_with fail
  with_reducible refine HC.out.mono ?_
  rintro e w1 ⟨rfl, ⟨r, hA1⟩, hT1⟩
  obtain ⟨hD1, hS1⟩ := H.out.ask r hA1 hT1
  have HG1 := hide (HG0.out.trans hS1)
  have HKb1 := hide ((hS1.go S.dropped).keep (lt_of_cell HK.out) HNb.out.1.1 HNb.out.1.2 HNb.out.2.1 HNb.out.2.2)
  have hk1 : w1.cell? ⟨w.heap.size, 0, none⟩ = some (.string k) := (World.cell?_of_block (a := ⟨w.heap.size, 0, none⟩) HKb1.out.1).trans HK.out
  have HGt := hide (tm_get (rt := rt) hD1 HR.out HOk.out k)
  rw [HGk.out] at HGt
  change Hid (Calls Tryz.prog 18 _ w1 fun e w' => e = .returned (.tuple #[.string ⟨#[]⟩, .bool false]) ∧ _) at HGt
  clear hA1 hT1 hD1 hS1
  go_wp2_with fail
  with_reducible refine HGt.out.mono ?_
  rintro e w4 ⟨rfl, G4, Rw4, r4, hD4, hG4, hS4⟩
  have HD := hide (show ∃ G' Rw' r, TD w4 O t p b m sm rb s { q with rd := r } Dn S D G' Rw' ds ∧ Grown D G G' ∧ TStep p w w4 G G' Rw Rw' from ⟨G4, Rw4, r4, hD4, hG4, HG1.out.trans hS4⟩)
  clear hD4 hG4 hS4 HGt
  go_wp2_with fail
  go_ret
  exact ⟨rfl, HD.out⟩

end Go.Proofs.YthehkckdecckhaaGreatDoor

namespace Go.Proofs.YthehkckdecckhaaGreatDoor
open Go.RowKit Go.Maps

/-- The root's bytes. -/
def rootB (rt : Root?) : List Nat :=
  match rt with
  | none => []
  | some ⟨h, e⟩ => rootBytes (pageOf e) (h + 1) (flatN (kidsOf e)).length
/-- All of a tree is on the disk. -/
def RtDisk (D : Dk) (rt : Root?) : Prop := ∀ h e, rt = some ⟨h, e⟩ → OnDisk D h (pageOf e) (kidsOf e)

/-- A tree with all that it stands on, between calls: rd what is committed, rt what it has. -/
structure TG (w : World) (O : Nat → Prop) (t p b m sm rb : Nat) (s : St) (q : Pg) (Dn S : Stt) (D : Dk) (G : Gh) (Rw : Nat → Prop) (ds : List Nat) (rd rt : Root?) : Prop where
  td : TD w O t p b m sm rb s q Dn S D G Rw ds
  done : RtAt G D Dn.root rd
  now : RtAt G D S.root rt
  okd : RootOk rd
  ok : RootOk rt
  dkeys : Dn.keys = (flatR rd).length
  dch : Dn.changed = false
  dfr : Dn.fresh = 0
  ddr : Dn.dropped = .slice none 0 0
  keys : S.keys = (flatR rt).length
  fresh : S.fresh = (pagesR rt).count 0
  pages : ((pagesR rt).filter (fun x => decide (x ≠ 0)) ++ ds).Perm (pagesR rd)
  nodup : (pagesR rd).Nodup
  disk : RtDisk D rd
  sl : s.left < 0
  qu : q.u = 0
  qs : ∀ k, q.si k = 0
  qK : ∀ k, q.K k = true ↔ k ∈ pagesR rd
  root : q.root = rootB rd

theorem freed_same {x y : Nat} {q : Pg} (h : x ≠ y) : (q.freed x).si y = q.si y ∧ (q.freed x).K = q.K := by
  unfold Pg.freed
  split
  · exact ⟨by show setB q.si x 0 y = q.si y; unfold setB; rw [if_neg (Ne.symm h)], rfl⟩
  · exact ⟨by show setB q.si x 2 y = q.si y; unfold setB; rw [if_neg (Ne.symm h)], rfl⟩
theorem freed_K (q : Pg) (x : Nat) : (q.freed x).K = q.K := by unfold Pg.freed; split <;> rfl
theorem freed_root (q : Pg) (x : Nat) : (q.freed x).c = q.c := by unfold Pg.freed; split <;> rfl
theorem freeds_K (dr : List Nat) : ∀ (q : Pg), (dr.foldl Pg.freed q).K = q.K := by
  induction dr with
  | nil => intro q; rfl
  | cons x xs ih => intro q; rw [List.foldl_cons, ih, freed_K]
theorem freeds_si (dr : List Nat) : ∀ (q : Pg) (y : Nat), y ∉ dr → (dr.foldl Pg.freed q).si y = q.si y := by
  induction dr with
  | nil => intro q y _; rfl
  | cons x xs ih =>
    intro q y hy
    rw [List.mem_cons, not_or] at hy
    rw [List.foldl_cons, ih _ y hy.2, (freed_same (Ne.symm hy.1)).1]
theorem freeds_gone (dr : List Nat) : ∀ (q : Pg), dr.Nodup → (∀ x ∈ dr, q.si x = 0) → ∀ y ∈ dr, (dr.foldl Pg.freed q).si y = 2 := by
  induction dr with
  | nil => intro q _ _ y hy; cases hy
  | cons x xs ih =>
    intro q hn hs y hy
    obtain ⟨n1, n2⟩ := List.nodup_cons.1 hn
    rw [List.foldl_cons]
    rcases List.mem_cons.1 hy with rfl | hy
    · rw [freeds_si xs _ y n1]
      unfold Pg.freed
      rw [if_neg (by rw [hs y (List.mem_cons_self ..)]; omega)]
      show setB q.si y 2 y = 2
      unfold setB
      rw [if_pos rfl]
    · refine ih _ n2 (fun z hz => ?_) y hy
      rw [(freed_same (fun e => n1 (by rw [e]; exact hz))).1]
      exact hs z (List.mem_cons_of_mem _ hz)

/-- The disk has less, but all of a tree. -/
theorem Means.restrict {G : Gh} {D D' : Dk} : {h a pg : Nat} → {l : List (En h)} → Means G D h a l → (∃ P, G a = some P ∧ P.pg = pg) → OnDisk D h pg l → (∀ n ∈ pagesAt pg l, D' n = D n) → Means G D' h a l := by
  intro h
  induction h with
  | zero =>
    intro a pg l hm hp hd hk
    obtain ⟨P, h1, h2, h3, h4, h5⟩ := hm.out
    obtain ⟨P', g1, g2⟩ := hp
    obtain rfl : P = P' := by rw [h1] at g1; exact Option.some.inj g1
    rw [← g2] at hd hk
    exact Means.of P h1 h2 (fun _ => hd.keep hk) h4 h5
  | succ h ih =>
    intro a pg l hm hp hd hk
    obtain ⟨P, h1, h2, h3, h4, h5⟩ := hm.out
    obtain ⟨P', g1, g2⟩ := hp
    obtain rfl : P = P' := by rw [h1] at g1; exact Option.some.inj g1
    rw [← g2] at hd hk
    refine Means.of P h1 h2 (fun _ => hd.keep hk) h4 fun nd hn => ?_
    obtain ⟨ks, rfl, hb⟩ := h5 nd hn
    refine ⟨ks, rfl, hb.mono fun k _ x hx hkx => ?_⟩
    obtain ⟨k1, k2, k3⟩ := hkx
    refine ⟨k1, k2, ih k3 k2 (hd.below x hx) fun n hn2 => hk n (List.mem_cons_of_mem _ ?_)⟩
    rw [pagesN_succ]
    exact List.mem_flatMap.2 ⟨x, hx, hn2⟩

/-- A row of pages, cell by cell. -/
theorem drop_cells {w : World} {v : Value} {l : List Nat} (h : DropAt w v l) : ∃ da dc, v = .slice da l.length dc ∧ ∀ i (hi : i < l.length), ∃ g, da = some ⟨g, 0, none⟩ ∧ w.cell? ⟨g, 0 + i, none⟩ = some (.int .i64 (l[i] : Nat)) ∧ v.ownBlock = some g := by
  obtain ⟨_, ⟨h1, h2⟩ | ⟨g, cap, cur, rfl, hb, hg, hnc, hm, hsz, htk⟩⟩ := h
  · have hl : l = [] := List.eq_nil_of_length_eq_zero (by omega)
    subst hl
    exact ⟨none, 0, h1, fun i hi => by cases hi⟩
  · refine ⟨some ⟨g, 0, none⟩, cap, rfl, fun i hi => ⟨g, rfl, ?_, rfl⟩⟩
    have h1 : cur.toList[i]? = some (.int .i64 (l[i] : Nat)) := by
      have := congrArg (fun l : List Value => l[i]?) htk
      unfold pgV at this
      rw [List.getElem?_take] at this
      simp [hi] at this
      simpa using this
    unfold World.cell?
    simp only [hg]
    simpa using h1

/-- Nothing of O has turned, nor the table. -/
def KeepO (O : Nat → Prop) (w w' : World) : Prop := ∃ X, Turn X w w' ∧ ∀ x ∈ X, ¬ O x ∧ x ≠ 1
theorem KeepO.refl (O : Nat → Prop) (w : World) : KeepO O w w := ⟨[], Turn.refl _ _, by simp⟩
theorem KeepO.trans {O : Nat → Prop} {u v w : World} (h : KeepO O u v) (k : KeepO O v w) : KeepO O u w := by
  obtain ⟨X, h1, h2⟩ := h
  obtain ⟨Y, k1, k2⟩ := k
  refine ⟨X ++ Y, (h1.mono (by intro x hx; simp [hx])).trans (k1.mono (by intro x hx; simp [hx])), fun x hx => ?_⟩
  rcases List.mem_append.1 hx with h | h
  · exact h2 x h
  · exact k2 x h
theorem KeepO.size {O : Nat → Prop} {w w' : World} (h : KeepO O w w') : w.heap.size ≤ w'.heap.size := by obtain ⟨_, h, _⟩ := h; exact h.size
theorem KeepO.of0 {O : Nat → Prop} {w w' : World} (h : Turn [] w w') : KeepO O w w' := ⟨[], h, by simp⟩
theorem TGo.keepO {w w' : World} {O : Nat → Prop} {t p b m sm rb : Nat} {s : St} {q : Pg} {Dn S : Stt} {D : Dk} {G G' : Gh} {Rw Rw' : Nat → Prop} {ds : List Nat} {dv' : Value} (hg : TGo t p w w' G G' Rw Rw' S.dropped dv') (h : TD w O t p b m sm rb s q Dn S D G Rw ds) : KeepO O w w' := by
  obtain ⟨X, hT, hX⟩ := hg.turn
  refine ⟨X, hT, fun x hx => ?_⟩
  rcases hX x hx with rfl | rfl | e | e
  · exact ⟨h.tm.no _ (by simp), h.tm.off.one⟩
  · exact ⟨h.tm.no _ (by simp), by have := h.tm.pa.pos; omega⟩
  · have := h.tm.own x (.inl e)
    exact ⟨this.2, (not7 this.1).1⟩
  · have := h.far x e
    exact ⟨this.2.1, (not7 this.1).1⟩

/-- How high a tree can be. -/
theorem RootOk.height {rt : Root?} (h : RootOk rt) (hk : (flatR rt).length ≤ 1000000) : heightR rt ≤ 20 := by
  rcases h.low with ⟨h1, _⟩ | ⟨h1, h2⟩
  · omega
  · refine Classical.byContradiction fun hc => ?_
    have : 2 ^ 20 ≤ 2 ^ (heightR rt - 1) := Nat.pow_le_pow_right (by omega) (by omega)
    omega

end Go.Proofs.YthehkckdecckhaaGreatDoor

namespace Go.Proofs.YthehkckdecckhaaGreatDoor
open Go.RowKit Go.Maps

/-- What write leaves of the root. -/
structure WrR (w3 : World) (O : Nat → Prop) (t p b m sm rb : Nat) (s : St) (q : Pg) (Dn S : Stt) (D : Dk) (G : Gh) (Rw : Nat → Prop) (ds : List Nat) (rt : Root?) (s3 : St) (q3 : Pg) (rt' : Root?) (D' : Dk) (G' : Gh) (ns : List Nat) : Prop where
  at_ : RtAt G' D' S.root rt'
  ok : RootOk rt'
  flat : flatR rt' = flatR rt
  ht : heightR rt' = heightR rt
  disk : RtDisk D' rt'
  more : ∀ n x, D n = some x → D' n = some x
  pages : (pagesR rt').Perm ((pagesR rt).filter (fun x => decide (x ≠ 0)) ++ ns)
  cnt : ns.length = (pagesR rt).count 0
  als : Als s.n q ns q3
  k : s3.k = s.k + ns.length
  n : s3.n = s.n
  left : s3.left < 0
  tm : TM w3 O t p b m sm rb s3 q3 Dn S D' G' Rw
  drop : DropAt w3 S.dropped ds
  newG : ∀ x, G x = none → G' x = none

theorem pagesR_some {h : Nat} (e : En (h + 1)) : pagesR (some ⟨h, e⟩) = pagesAt (pageOf e) (kidsOf e) := rfl

theorem tm_write_root {w2 : World} {O : Nat → Prop} {t p b m sm rb : Nat} {s : St} {q : Pg} {Dn S : Stt} {D : Dk} {G : Gh} {Rw : Nat → Prop} {ds : List Nat} (h : TD w2 O t p b m sm rb s q Dn S D G Rw ds) {rt : Root?} (hR : RtAt G D S.root rt) (hOk : RootOk rt) (hkeys : (flatR rt).length ≤ 1000000) (hroom : (pagesR rt).count 0 ≤ q.left s.n) (hu : q.u + (pagesR rt).count 0 ≤ 900000) (hk : s.k + (pagesR rt).count 0 ≤ 900000) (hl : s.left < 0) :
    Calls Tryz.prog 46 #[.pointer (some ⟨t, 0, none⟩), rootV S.root] w2 fun e w3 => e = .returned (.int .i64 0) ∧ ∃ s3 q3 rt' D' G' ns, WrR w3 O t p b m sm rb s q Dn S D G Rw ds rt s3 q3 rt' D' G' ns ∧ ∃ X, Turn X w2 w3 ∧ ∀ x ∈ X, x = p ∨ x = b ∨ x = m ∨ x = sm ∨ G x ≠ none := by
  cases rt with
  | none =>
    have hr := rtat_none hR
    rw [hr]
    refine (write_nil t w2).mono ?_
    rintro e w3 ⟨rfl, rfl⟩
    exact ⟨rfl, s, q, none, D, G, [], ⟨by rw [hr]; trivial, hOk, rfl, rfl, (fun _ _ h1 => by cases h1), fun _ _ h => h, List.Perm.refl _, rfl, rfl, rfl, rfl, hl, h.tm, h.drop, fun _ h => h⟩, [], Turn.refl _ _, by simp⟩
  | some x =>
    obtain ⟨hh, e⟩ := x
    obtain ⟨a, P, hro, hP, hpg, hm⟩ := rtat_some hR
    obtain ⟨h1, h2, h3⟩ := hOk hh e rfl
    obtain ⟨_, f2, f3, f4⟩ := full_at h3
    have hht := hOk.height hkeys
    have e1 : heightR (some ⟨hh, e⟩) = hh + 1 := rfl
    rw [e1] at hht
    rw [pagesR_some] at hroom hu hk
    have hw : WIn s q (kidsOf e) P.pg := by
      rw [hpg]
      exact ⟨f4, Nat.lt_of_lt_of_le (by cases hh <;> simp [minN]) f2, f3, hOk.rises, by omega, hroom, hu, hk, hl⟩
    rw [hro]
    refine (tm_write hh w2 s q D G a (kidsOf e) P h.tm hm hP hw).mono ?_
    rintro e' w3 ⟨rfl, ho⟩
    rw [hpg] at ho
    obtain ⟨l', pg', ns, s3, q3, D', G', o1, o2, ⟨P', o3, o3'⟩, o4, o5, o6, o7, o8, o9, o10, o11, o12, o13, X, hX, hX1⟩ := ho.ex
    obtain ⟨e2, he2⟩ : ∃ e2 : En (hh + 1), e2 = ((e.key, pg', l') : ByteArray × Nat × List (En hh)) := ⟨_, rfl⟩
    have ek : e2.key = e.key := by rw [he2]; rfl
    have ep : pageOf e2 = pg' := by rw [he2]; rfl
    have ed : kidsOf e2 = l' := by rw [he2]; rfl
    have hlike : LikeE (hh + 1) e e2 := ⟨ek.symm, by rw [ed]; exact o1⟩
    refine ⟨rfl, s3, q3, some ⟨hh, e2⟩, D', G', ns, ⟨?_, fun h' e' he => ?_, ?_, rfl, fun h' e' he => ?_, o6, ?_, ?_, o9, o10, o11, o12, o13, ?_, fun x hx => o5.none_ x hx⟩, X, hX, hX1⟩
    · rw [hro]
      exact ⟨⟨P', o3, by rw [ep]; exact o3'⟩, by rw [ed]; exact o2⟩
    · cases he
      exact ⟨ek.trans h1, hlike.ord h2, hlike.full h3⟩
    · show flatN (kidsOf e2) = flatN (kidsOf e)
      rw [ed]
      exact (LikeN.flat o1).symm
    · cases he
      rw [ep, ed]
      exact o4
    · rw [pagesR_some, pagesR_some, ep, ed]
      exact o7
    · rw [pagesR_some]
      exact o8
    · refine own_turn h.drop hX fun g hg hm => ?_
      obtain ⟨g1, _, g3, _⟩ := h.far g hg
      have := not7 g1
      rcases hX1 g hm with e | e | e | e | e
      · exact this.2.1 e
      · exact this.2.2.1 e
      · exact this.2.2.2.1 e
      · exact this.2.2.2.2.1 e
      · exact e g3

/-- What a Commit leaves. -/
theorem tg_of_commit {w w3 w' : World} {O : Nat → Prop} {t p b m sm rb sm' rb' : Nat} {s s3 s' : St} {q q3 : Pg} {Dn S : Stt} {D D' : Dk} {G G' : Gh} {Rw : Nat → Prop} {ds ns : List Nat} {rd rt rt' : Root?} (h : TG w O t p b m sm rb s q Dn S D G Rw ds rd rt) (hW : WrR w3 O t p b m sm rb s { q with rd := true } Dn S D G Rw ds rt s3 q3 rt' D' G' ns) (hsd : s'.dead = false) (hn : s'.n = s.n) (hl : s'.left < 0) (hf : ∀ k, fp s.n ≤ k → s'.f k = s3.f k) (hsm : w.heap.size ≤ sm') (hrb : w.heap.size ≤ rb') (hrl : rb' < w'.heap.size) (hTr : TreeAt w' t p ⟨S.root, S.keys, false, 0, .slice none 0 0⟩ ⟨S.root, S.keys, false, 0, .slice none 0 0⟩) (hA : PAt w' p b m sm' rb' s' ((ds.foldl Pg.freed q3).committed (rootB rt'))) (hT : Turn [t, p, b, m, sm] w3 w') (hs3 : w.heap.size ≤ w3.heap.size) :
    ∃ D2, TG w' O t p b m sm' rb' s' ((ds.foldl Pg.freed q3).committed (rootB rt')) ⟨S.root, S.keys, false, 0, .slice none 0 0⟩ ⟨S.root, S.keys, false, 0, .slice none 0 0⟩ D2 G' Rw [] rt' rt' := by
  have hA3 := hW.als.is
  have hsi3 : ∀ x, x ∉ ns → q3.si x = 0 := fun x hx => (hA3.old x hx).trans (h.qs x)
  have hnd := h.pages.nodup_iff.2 h.nodup
  obtain ⟨nd1, nd2, nd3⟩ := List.nodup_append.1 hnd
  have hnew : ∀ x ∈ ns, x ∉ pagesR rd := fun x hx hm => by
    have h1 := (hA3.new x hx).2.2.2.1
    have h2 := (h.qK x).2 hm
    rw [show ({ q with rd := true } : Pg).K x = q.K x from rfl, h2] at h1
    cases h1
  have hold : ∀ x, x ∈ (pagesR rt).filter (fun x => decide (x ≠ 0)) ++ ds ↔ x ∈ pagesR rd := fun x => h.pages.mem_iff
  have hdn : ∀ x ∈ ds, x ∉ ns := fun x hx hm => hnew x hm ((hold x).1 (List.mem_append_right _ hx))
  have hrt : ∀ x, x ∈ pagesR rt' ↔ x ∈ (pagesR rt).filter (fun x => decide (x ≠ 0)) ∨ x ∈ ns := fun x => by rw [hW.pages.mem_iff, List.mem_append]
  have hdr : ∀ x ∈ pagesR rt', x ∉ ds := fun x hx hm => by
    rcases (hrt x).1 hx with h1 | h1
    · exact nd3 x h1 x hm rfl
    · exact hdn x hm h1
  have hK : ∀ x, (ds.foldl Pg.freed q3).there x = true ↔ x ∈ pagesR rt' := fun x => by
    by_cases hx : x ∈ ds
    · have h1 := freeds_gone ds q3 nd2 (fun y hy => hsi3 y (hdn y hy)) x hx
      unfold Pg.there
      rw [h1]
      simp
      exact fun h2 => hdr x h2 hx
    · have e : (ds.foldl Pg.freed q3).there x = q3.there x := by
        unfold Pg.there
        rw [freeds_K, freeds_si ds q3 x hx]
      rw [e, hrt]
      by_cases hm : x ∈ ns
      · exact ⟨fun _ => .inr hm, fun _ => (hA3.there_new hm).1⟩
      · rw [hA3.there_old hm]
        have e2 : ({ q with rd := true } : Pg).there x = q.K x := by
          unfold Pg.there
          rw [show ({ q with rd := true } : Pg).si x = q.si x from rfl, h.qs x]
          simp
        rw [e2, h.qK x, ← hold x, List.mem_append]
        exact ⟨fun h => h.elim .inl (fun h => absurd h hx), fun h => h.elim .inl (fun h => absurd h hm)⟩
  have hthere : ∀ x ∈ pagesR rt', (ds.foldl Pg.freed q3).there x = q3.there x := fun x hx => by
    unfold Pg.there
    rw [freeds_K, freeds_si ds q3 x (hdr x hx)]
  have hndr : (pagesR rt').Nodup := by
    rw [hW.pages.nodup_iff, List.nodup_append]
    refine ⟨nd1, hA3.nodup, fun x hx y hy e => ?_⟩
    rw [← e] at hy
    exact hnew x hy ((hold x).1 (List.mem_append_left _ hx))
  obtain ⟨D2, hD2⟩ : ∃ D2 : Dk, D2 = fun n => if n ∈ pagesR rt' then D' n else none := ⟨_, rfl⟩
  have hDi : ∀ n ∈ pagesR rt', D2 n = D' n := fun n hn => by rw [hD2]; exact if_pos hn
  have hdisk : RtDisk D2 rt' := fun h' e he => (hW.disk h' e he).keep fun n hn => hDi n (by rw [he, pagesR_some]; exact hn)
  have hat : RtAt G' D2 S.root rt' := by
    cases hr : rt' with
    | none =>
      have := hW.at_
      rw [hr] at this
      rw [rtat_none this]
      trivial
    | some x =>
      obtain ⟨hh, e⟩ := x
      have := hW.at_
      rw [hr] at this
      obtain ⟨a, P, hro, hP, hpg, hm⟩ := rtat_some this
      rw [hro]
      exact ⟨⟨P, hP, hpg⟩, hm.restrict ⟨P, hP, hpg⟩ (hW.disk hh e hr) fun n hn => hDi n (by rw [hr, pagesR_some]; exact hn)⟩
  have hcount : (pagesR rt').count 0 = 0 ∧ (pagesR rt').filter (fun x => decide (x ≠ 0)) = pagesR rt' := by
    cases hr : rt' with
    | none => exact ⟨rfl, rfl⟩
    | some x =>
      obtain ⟨hh, e⟩ := x
      exact ondisk_count (hW.disk hh e hr)
  have hlt := h.td.tm.lts
  have hGlt : ∀ x, (G' x ≠ none ∨ Rw x) → (G x ≠ none ∨ Rw x) := fun x hx => hx.imp (fun h1 h2 => h1 (hW.newG x h2)) id
  have hxlt : ∀ x, (G x ≠ none ∨ Rw x) → x < w.heap.size := fun x hx => hx.elim h.td.tm.mem.lt (h.td.tm.mem.rows x)
  have hoff := h.td.tm.off
  have e1 := hlt 1 (by simp)
  have e2 := hlt t (by simp)
  have e3 := hlt p (by simp)
  have e4 := hlt b (by simp)
  have e5 := hlt m (by simp)
  have hsz := hT.size
  have hkl : S.keys = (flatR rt').length := by rw [hW.flat]; exact h.keys
  refine ⟨D2, ⟨⟨⟨hA, hTr, ⟨hoff.one, hoff.p, hoff.b, hoff.m, by omega, by omega⟩, hrl, hsd, ?_, ?_, ⟨fun pg h' l' hD => ?_⟩, fun x hx => ?_, fun x hx ho => ?_, fun x hx => Nat.lt_of_lt_of_le (h.td.tm.ob x hx) (Nat.le_trans hs3 hsz)⟩, ?_, fun g hg => by cases hg⟩, hat, hat, hW.ok, hW.ok, hkl, rfl, rfl, rfl, hkl, hcount.1.symm, ?_, hndr, hdisk, hl, rfl, fun _ => rfl, hK, rfl⟩⟩
  · show (ds.foldl Pg.freed q3).dead = false
    rw [freeds_dead]
    exact hW.tm.qd
  · refine hW.tm.mem.turn hT fun x hx => ?_
    have hx7 : x ∈ [1, t, p, b, m, sm, rb] := by simp at hx ⊢; omega
    refine ⟨?_, fun hr => (hW.tm.own x (.inr hr)).1 hx7⟩
    cases hg : G' x with
    | none => rfl
    | some P => exact absurd hx7 (hW.tm.own x (.inl (by rw [hg]; simp))).1
  · have hm : pg ∈ pagesR rt' := by
      refine Classical.byContradiction fun hc => ?_
      rw [hD2] at hD
      simp [hc] at hD
    rw [hDi pg hm] at hD
    obtain ⟨g1, g2, g3⟩ := hW.tm.dk.at_ pg h' l' hD
    obtain ⟨n, e, r1, r2, r3⟩ := Pg.there_range g1
    obtain rfl : pg = n := by omega
    rw [hW.n] at r1
    have r1' := r1
    rw [← hn] at r1'
    refine ⟨?_, (hf pg (by omega)).trans g2, g3⟩
    unfold Pg.thereI
    rw [Int.toNat_natCast]
    have hKm : ((ds.foldl Pg.freed q3).committed (rootB rt')).there pg = true := by
      show ((ds.foldl Pg.freed q3).there pg || (0 == 1)) && !(0 == 2) = true
      rw [(hK pg).2 hm]
      rfl
    rw [hKm]
    rw [hW.n] at r2
    simp
    omega
  · obtain ⟨g1, g2⟩ := h.td.tm.own x (hGlt x hx)
    have := hxlt x (hGlt x hx)
    refine ⟨fun hm => ?_, g2⟩
    simp at hm g1
    omega
  · have hno : x < w.heap.size := h.td.tm.ob x ho
    refine h.td.tm.no x ?_ ho
    simp at hx ⊢
    omega
  · exact World.ownsRow_nil _ _ _ _
  · rw [hcount.2, List.append_nil]

end Go.Proofs.YthehkckdecckhaaGreatDoor

namespace Go.Proofs.YthehkckdecckhaaGreatDoor
open Go.RowKit Go.Maps

theorem pages_row {h : Nat} (hE : ∀ e : En (h + 1), FullE e → (pagesAt (pageOf e) (kidsOf e)).length + 1 ≤ 2 * (flatN (kidsOf e)).length) : ∀ {l : List (En (h + 1))}, (∀ e ∈ l, FullE e) → (pagesN l).length + l.length ≤ 2 * (flatN l).length
  | [], _ => by simp [pagesN, flatN]
  | e :: l, hf => by
    have h1 := hE e (hf e (List.mem_cons_self ..))
    have h2 := pages_row hE (l := l) fun x hx => hf x (List.mem_cons_of_mem _ hx)
    have e1 : pagesN (e :: l) = pagesAt (pageOf e) (kidsOf e) ++ pagesN l := rfl
    have e2 : flatN (e :: l) = flatN (kidsOf e) ++ flatN l := rfl
    rw [e1, e2, List.length_append, List.length_append, List.length_cons]
    omega
theorem pages_len : ∀ {h : Nat} (e : En (h + 1)), FullE e → (pagesAt (pageOf e) (kidsOf e)).length + 1 ≤ 2 * (flatN (kidsOf e)).length
  | 0, e, hf => by
    obtain ⟨_, f2, _, _⟩ := full_at hf
    have e1 : pagesN (kidsOf e) = [] := by
      generalize kidsOf e = l
      induction l with
      | nil => rfl
      | cons x l ih => exact ih
    have e2 : (flatN (kidsOf e)).length = (kidsOf e).length := by rw [flatN_zero]; rfl
    have f2' : 1 ≤ (kidsOf e).length := f2
    unfold pagesAt
    rw [List.length_cons, e1, e2]
    simp
    omega
  | h + 1, e, hf => by
    obtain ⟨_, f2, _, f4⟩ := full_at hf
    have f2' : 2 ≤ (kidsOf e).length := f2
    have := pages_row (fun e => pages_len e) f4
    unfold pagesAt
    rw [List.length_cons]
    omega
theorem RootOk.pages {rt : Root?} (h : RootOk rt) : (pagesR rt).length ≤ 2 * (flatR rt).length := by
  cases rt with
  | none => exact Nat.zero_le _
  | some x =>
    obtain ⟨hh, e⟩ := x
    have := pages_len e (h hh e rfl).2.2
    rw [pagesR_some]
    show _ ≤ 2 * (flatN (kidsOf e)).length
    omega
theorem count_le (l : List Nat) : l.count 0 ≤ l.length := List.count_le_length

theorem rootB_lt {rt : Root?} {D : Dk} {s : St} {q : Pg} (hD : DkOk s q D) (hn : s.n ≤ 16384) (hd : RtDisk D rt) (hh : heightR rt ≤ 20) (hk : (flatR rt).length ≤ 1000000) : (rootB rt).length ≤ 64 ∧ ∀ x ∈ rootB rt, x < 256 := by
  cases rt with
  | none => exact ⟨by simp [rootB], by simp [rootB]⟩
  | some x =>
    obtain ⟨h, e⟩ := x
    have h1 := hD.pages (hd h e rfl)
    have h2 : h + 1 ≤ 20 := hh
    have h3 : (flatN (kidsOf e)).length ≤ 1000000 := hk
    refine ⟨by simp [rootB, rootBytes, be4], fun x hx => ?_⟩
    unfold rootB rootBytes at hx
    rcases List.mem_append.1 hx with h | h
    · rcases List.mem_append.1 h with h | h
      · exact be4_lt _ (by omega) x h
      · rw [List.mem_singleton.1 h]
        omega
    · exact be4_lt _ (by omega) x h

/-- What is asked of the writes of a tree, ahead of what is let go. -/
theorem wrote_of {w w3 : World} {O : Nat → Prop} {t p b m sm rb : Nat} {s s3 : St} {q q3 : Pg} {Dn S : Stt} {D D' : Dk} {G G' : Gh} {Rw : Nat → Prop} {ds ns : List Nat} {rd rt rt' : Root?} (h : TG w O t p b m sm rb s q Dn S D G Rw ds rd rt) (hW : WrR w3 O t p b m sm rb s { q with rd := true } Dn S D G Rw ds rt s3 q3 rt' D' G' ns) (_hch : S.changed = true) (hkeys : (flatR rt).length ≤ 100000) (hkd : (flatR rd).length ≤ 100000) (hk : s.k ≤ 600000) (hfar : ∀ g, S.dropped.ownBlock = some g → g ≠ p ∧ g ≠ sm) {da : Option Addr} {dc : Nat} (hdr : S.dropped = .slice da ds.length dc) : Wrote w3 p sm s.n s3 q3 (rootB rt') ds da S := by
  have hA3 := hW.als.is
  have hnd := h.pages.nodup_iff.2 h.nodup
  obtain ⟨nd1, nd2, nd3⟩ := List.nodup_append.1 hnd
  have hp1 := h.ok.pages
  have hp2 := h.okd.pages
  have hdl : ds.length ≤ 200000 := by
    have := h.pages.length_eq
    rw [List.length_append] at this
    omega
  have hnl : ns.length ≤ 200000 := by
    rw [hW.cnt]
    have := count_le (pagesR rt)
    omega
  have hht := hW.ok.height (by rw [hW.flat]; omega)
  have hn16 := hW.tm.pa.laid.n16
  obtain ⟨r1, r2⟩ := rootB_lt hW.tm.dk (by omega) hW.disk hht (by rw [hW.flat]; omega)
  refine ⟨hW.tm.sd, hW.tm.qd, by have := hW.k; omega, hW.left, hW.n, r1, r2, ?_, fun i hi => ?_, fun i hi => ?_, fun w4 hT4 => ?_⟩
  · have := hA3.u
    rw [show ({ q with rd := true } : Pg).u = q.u from rfl, h.qu] at this
    omega
  · obtain ⟨da', dc', e, hc⟩ := drop_cells hW.drop
    obtain ⟨g, g1, g2, g3⟩ := hc i hi
    rw [hdr] at e
    injection e with e1 e2 e3
    refine ⟨g, 0, by rw [e1]; exact g1, g2, hfar g g3⟩
  · have hx : ds[i] ∈ ds := List.getElem_mem hi
    have hxr : ds[i] ∈ pagesR rd := h.pages.mem_iff.1 (List.mem_append_right _ hx)
    have hKx := (h.qK _).2 hxr
    obtain ⟨k1, k2⟩ := h.td.tm.pa.laid.kr _ hKx
    have hns : ds[i] ∉ ns := fun hm => by
      have := (hA3.new _ hm).2.2.2.1
      rw [show ({ q with rd := true } : Pg).K ds[i] = q.K ds[i] from rfl, hKx] at this
      cases this
    have hnt : ds[i] ∉ ds.take i := fun hm => by
      obtain ⟨j, hj, e⟩ := List.mem_take_iff_getElem.1 hm
      have hp := List.pairwise_iff_getElem.1 nd2 j i (by omega) hi (by omega)
      exact hp e
    unfold Pg.thereI
    rw [Int.toNat_natCast]
    have ht : ((ds.take i).foldl Pg.freed q3).there ds[i] = true := by
      unfold Pg.there
      rw [freeds_K, freeds_si _ _ _ hnt, hA3.K, hA3.old _ hns, show ({ q with rd := true } : Pg).K ds[i] = q.K ds[i] from rfl, show ({ q with rd := true } : Pg).si ds[i] = q.si ds[i] from rfl, hKx, h.qs]
      rfl
    rw [ht]
    simp
    omega
  · have hone : S.dropped.oneCell' = true := by rw [hdr]; rfl
    have hka : S.keys = (flatR rt').length := by rw [hW.flat]; exact h.keys
    have hkb : S.keys ≤ 1000000 := by rw [h.keys]; omega
    cases hr : rt' with
    | none =>
      have hat := hW.at_
      rw [hr] at hat
      rw [rtat_none hat]
      refine (bytes_none S.keys _ _ _ rfl rfl hone w4).mono ?_
      rintro e w' ⟨rfl, hT⟩
      exact ⟨none, 0, rfl, fun _ => rfl, .inl rfl, by simp, hT⟩
    | some x =>
      obtain ⟨hh, e⟩ := x
      have hat := hW.at_
      rw [hr] at hat hht hka
      obtain ⟨a, P, hro, hP, hpg, hm⟩ := rtat_some hat
      obtain ⟨P', h1, hlv, _⟩ := hm.out
      obtain rfl : P = P' := by rw [hP] at h1; exact Option.some.inj h1
      have hna := not7 (hW.tm.own a (.inl (by rw [hP]; simp))).1
      have hcell : ∀ o v, w3.cell? ⟨a, o, none⟩ = some v → w4.cell? ⟨a, o, none⟩ = some v := fun o v hc => (hT4.cb (lt_of_cell hc) (by simp; exact ⟨hna.2.1, hna.2.2.2.2.1⟩)).trans hc
      have hpl : w3.cell? ⟨a, 0, none⟩ = some (.int .i64 (pageOf e : Nat)) ∧ w3.cell? ⟨a, 1, none⟩ = some (.int .i64 ((hh + 1 : Nat) : Int)) := by
        have := hW.tm.mem.at_ a P hP
        rw [← hpg, ← hlv]
        unfold PlOk at this
        split at this
        · exact ⟨this.c0, this.c1⟩
        · obtain ⟨_, _, _, _, hp, _⟩ := this
          exact ⟨hp.c0, hp.c1⟩
      rw [hro]
      have h20 : hh + 1 ≤ 20 := hht
      have hpn := hW.tm.dk.pages (hW.disk hh e hr)
      refine (bytes_some a (pageOf e) (hh + 1) S.keys _ _ _ rfl rfl hone (by omega) (by omega) hkb w4 (hcell 0 _ hpl.1) (hcell 1 _ hpl.2)).mono ?_
      rintro e' w' ⟨v, rfl, hO, hT⟩
      obtain ⟨a2, c2, rfl, hn0, hB, hx⟩ := OwnB.bytes hO
      have ek : rootBytes (pageOf e) (hh + 1) S.keys = rootB (some ⟨hh, e⟩) := by rw [hka]; rfl
      rw [ek] at hB
      exact ⟨a2, c2, by rw [ek], hn0, hB, fun x hx' => (hx x hx').1, hT⟩

set_option maxRecDepth 100000 in
theorem tg_commit {w : World} {O : Nat → Prop} {t p b m sm rb : Nat} {s : St} {q : Pg} {Dn S : Stt} {D : Dk} {G : Gh} {Rw : Nat → Prop} {ds : List Nat} {rd rt : Root?} (h : TG w O t p b m sm rb s q Dn S D G Rw ds rd rt) (hch : S.changed = true) (hroom : S.fresh ≤ q.left s.n) (hkeys : (flatR rt).length ≤ 40000) (hkd : (flatR rd).length ≤ 40000) (hk : s.k ≤ 600000) :
    Calls Tryz.prog 23 #[.pointer (some ⟨t, 0, none⟩)] w fun e w' => e = .returned (.int .i64 0) ∧ ∃ sm' rb' s' q' D' G' rt', TG w' O t p b m sm' rb' s' q' ⟨S.root, S.keys, false, 0, .slice none 0 0⟩ ⟨S.root, S.keys, false, 0, .slice none 0 0⟩ D' G' Rw [] rt' rt' ∧ flatR rt' = flatR rt ∧ heightR rt' = heightR rt ∧ s'.k = s.k + S.fresh + mbs s.n + 1 ∧ s'.n = s.n ∧ q'.c = q.c + 1 ∧ KeepO O w w' := by
  have hlle := left_le q s.n
  obtain ⟨da, dc, hdr, _⟩ := drop_cells h.td.drop
  have hp2 := h.okd.pages
  have hp1 := h.ok.pages
  have hcl := count_le (pagesR rt)
  have hdl : ds.length ≤ 100000 := by
    have := h.pages.length_eq
    rw [List.length_append] at this
    omega
  have hGt : ∀ x ∈ [1, t, p, b, m, sm, rb], G x = none ∧ ¬ Rw x := fun x hx => by
    refine ⟨?_, fun hr => (h.td.tm.own x (.inr hr)).1 hx⟩
    cases hg : G x with
    | none => rfl
    | some P => exact absurd hx (h.td.tm.own x (.inl (by rw [hg]; simp))).1
  have hfar : ∀ g, S.dropped.ownBlock = some g → g ≠ p ∧ g ≠ sm := fun g hg => by
    have := not7 (h.td.far g hg).1
    exact ⟨this.2.1, this.2.2.2.2.1⟩
  have hfk : S.fresh ≤ 80000 := by rw [h.fresh]; omega
  have hks : S.keys ≤ 1000000 := by rw [h.keys]; omega
  refine (commit_genF t p b m sm rb s q Dn S h.td.tm.sd h.td.tm.qd h.td.tm.off (by omega) hks hroom hch ([p, b, m, sm] ++ (List.range w.heap.size).filter (fun x => (G x).isSome)) ds da dc hdl hdr (fun hm => ?_) (fun w3 s3 q3 root => ∃ rt' D' G' ns, WrR w3 O t p b m sm rb s { q with rd := true } Dn S D G Rw ds rt s3 q3 rt' D' G' ns ∧ root = rootB rt') w h.td.tm.rbl h.td.tm.pa h.td.tm.tr (fun w2 hA2 hT2 hT => ?_)).mono ?_
  · rcases List.mem_append.1 hm with hm | hm
    · have := h.td.tm.off
      simp at hm
      rcases hm with e | e | e | e
      · exact this.p e
      · exact this.b e
      · exact this.m e
      · exact this.sm e
    · have := (List.mem_filter.1 hm).2
      rw [(hGt t (by simp)).1] at this
      cases this
  · obtain ⟨hD2, hS2⟩ := h.td.ask true hA2 hT
    refine (tm_write_root hD2 h.now h.ok (by omega) (by rw [← h.fresh]; exact hroom) (by show q.u + _ ≤ _; rw [h.qu]; omega) (by omega) h.sl).mono ?_
    rintro e w3 ⟨rfl, s3, q3, rt', D', G', ns, hW, X, hX, hX1⟩
    refine ⟨rfl, s3, q3, rootB rt', wrote_of h hW hch (by omega) (by omega) hk hfar hdr, ⟨rt', D', G', ns, hW, rfl⟩, hW.tm.tr, hW.tm.pa, hX.mono fun x hx => ?_⟩
    rcases hX1 x hx with e | e | e | e | e
    · simp [e]
    · simp [e]
    · simp [e]
    · simp [e]
    · refine List.mem_append_right _ (List.mem_filter.2 ⟨List.mem_range.2 (h.td.tm.mem.lt e), ?_⟩)
      exact Option.isSome_iff_ne_none.2 e
  · rintro e w' ⟨rfl, w3, s3, q3, root, s', sm', rb', ⟨rt', D', G', ns, hW, rfl⟩, k1, k2, k3, k4, k5, k6, k7, k8, k9, k10, k11, k12, k13⟩
    obtain ⟨D2, hTG⟩ := tg_of_commit h hW k2 k3 k5 k6 k7 k8 k9 k10 k11 k12 k1
    refine ⟨rfl, sm', rb', s', _, D2, G', rt', hTG, hW.flat, hW.ht, ?_, k3, ?_, _, k13, fun x hx => ?_⟩
    · rw [k4, hW.k, hW.cnt, ← h.fresh]
    · show (ds.foldl Pg.freed q3).c + 1 = q.c + 1
      have : ∀ (dr : List Nat) (q : Pg), (dr.foldl Pg.freed q).c = q.c := by
        intro dr
        induction dr with
        | nil => intro q; rfl
        | cons x xs ih => intro q; rw [List.foldl_cons, ih, freed_root]
      rw [this, hW.als.is.c]
    · have hno := h.td.tm.no
      have hpos := h.td.tm.pa.pos
      have hoff := h.td.tm.off
      have h5 : x ∈ [t, p, b, m, sm] → ¬ O x ∧ x ≠ 1 := fun hx => ⟨hno x (by simp at hx ⊢; omega), by
        have := hoff.one
        simp at hx
        omega⟩
      rcases List.mem_append.1 hx with hx | hx
      · rcases List.mem_append.1 hx with hx | hx
        · exact h5 (List.mem_cons_of_mem _ hx)
        · have := (List.mem_filter.1 hx).2
          have hg := h.td.tm.own x (.inl (Option.isSome_iff_ne_none.1 this))
          exact ⟨hg.2, (not7 hg.1).1⟩
      · exact h5 hx

end Go.Proofs.YthehkckdecckhaaGreatDoor

namespace Go.Proofs.YthehkckdecckhaaGreatDoor
open Go.RowKit Go.Maps

set_option maxRecDepth 100000 in
set_option maxHeartbeats 1600000 in
theorem abort_any (t p keys : Nat) (ro : Option Nat) (S : Stt) (w : World) (hT : TreeAt w t p ⟨ro, keys, false, 0, .slice none 0 0⟩ S) : Calls Tryz.prog 24 #[.pointer (some ⟨t, 0, none⟩)] w fun e w' => e = .returned (.tuple #[]) ∧ TreeAt w' t p ⟨ro, keys, false, 0, .slice none 0 0⟩ ⟨ro, keys, false, 0, .slice none 0 0⟩ ∧ Turn [t] w w' := by
  obtain ⟨ra, hrv⟩ : ∃ ra, Value.pointer ra = rootV ro := ⟨_, rfl⟩
  have hd1 : w.cell? ⟨t, 1, none⟩ = some (.pointer ra) := by rw [hrv]; exact hT.done.c0
  have hd2 : w.cell? ⟨t, 2, none⟩ = some (.int .i64 (keys : Nat)) := hT.done.c1
  have hd3 : w.cell? ⟨t, 3, none⟩ = some (.bool false) := hT.done.c2
  have hd4 : w.cell? ⟨t, 4, none⟩ = some (.int .i64 0) := hT.done.c3
  have hd5 : w.cell? ⟨t, 5, none⟩ = some (.slice none 0 0) := hT.done.c4
  have hd6 : w.cell? ⟨t, 6, none⟩ = some (rootV S.root) := hT.now.c0
  have hd7 : w.cell? ⟨t, 7, none⟩ = some (.int .i64 (S.keys : Nat)) := hT.now.c1
  have hd8 : w.cell? ⟨t, 8, none⟩ = some (.bool S.changed) := hT.now.c2
  have hd9 : w.cell? ⟨t, 9, none⟩ = some (.int .i64 (S.fresh : Nat)) := hT.now.c3
  have hd10 : w.cell? ⟨t, 10, none⟩ = some S.dropped := hT.now.c4
  have hf6 := hT.fz 6
  have hf7 := hT.fz 7
  have hf8 := hT.fz 8
  have hf9 := hT.fz 9
  have hf10 := hT.fz 10
  have HT := hide hT
  have HRV := hide hrv
  clear hT hrv
  go_enter Tryz.func24, Tryz.ntmps24
  go_wp2_with fail
  go_end0
  have ht : t ∈ [t] := List.mem_singleton.2 rfl
  rw [HRV.out]
  exact ⟨rfl, ((((HT.out.setRoot ro).setKeys keys).setChanged false).setFresh 0).setDropped (.slice none 0 0), (((((Turn.refl [t] w).setCell ht _ _).setCell ht _ _).setCell ht _ _).setCell ht _ _).setCell ht _ _⟩

set_option maxRecDepth 100000 in
set_option maxHeartbeats 1600000 in
theorem put_full (t p b m sm rb : Nat) (s : St) (q : Pg) (D S : Stt) (hd : s.dead = false) (hq : q.dead = false) (hO : Off t p b m sm rb) (k v : ByteArray) (hk1 : 0 < k.size) (hk : k.size ≤ 48) (hv : v.size ≤ 120) (hfr : S.fresh ≤ 1000000) (hl : q.left s.n < S.fresh) (w : World) (hA : PAt w p b m sm rb s q) (hT : TreeAt w t p D S) :
    Calls Tryz.prog 12 #[.pointer (some ⟨t, 0, none⟩), .string k, .string v] w fun e w' => e = .returned (.int .i64 13) ∧ PAt w' p b m sm rb s { q with rd := true } ∧ Turn [p] w w' := by
  have HC := hide (tdead_any t p b m sm rb s q D S hd hq w hA hT)
  have hk0 : k.toList.isEmpty = false := by rw [toList_empty]; exact decide_eq_false (by omega)
  have HT := hide hT
  clear hA hT
  go_enter Tryz.func12, Tryz.ntmps12
  go_wp2_with fail
  with_reducible refine HC.out.mono ?_
  rintro e w1 ⟨rfl, ⟨r, hA1⟩, hT1⟩
  have HTr1 := hide (HT.out.turn hT1 (by simp; exact hO.p))
  have HLf := hide (tleft_any t p b m sm rb s { q with rd := r } D S hd hO.p hfr w1 hA1 HTr1.out)
  have HT1 := hide hT1
  change Hid (Calls Tryz.prog 31 _ w1 fun e w' => e = .returned (.int .i64 ((q.left s.n : Nat) - (S.fresh : Nat) : Int)) ∧ PAt w' p b m sm rb s { q with rd := true } ∧ Turn [p] w1 w') at HLf
  generalize q.left s.n = lf at *
  have hnl : ((lf : Int) - (S.fresh : Int) < 0) := by omega
  clear hA1 hT1
  go_wp2_with fail
  with_reducible refine HLf.out.mono ?_
  rintro e w2 ⟨rfl, hA2, hT2⟩
  have HA2 := hide hA2
  have HT2 := hide (HT1.out.trans hT2)
  clear hA2 hT2
  go_wp2_with fail
  go_ret
  exact ⟨rfl, HA2.out, HT2.out⟩

set_option maxRecDepth 100000 in
set_option maxHeartbeats 1600000 in
theorem commit_full (t p b m sm rb : Nat) (s : St) (q : Pg) (D S : Stt) (hd : s.dead = false) (hq : q.dead = false) (hO : Off t p b m sm rb) (hch : S.changed = true) (hfr : S.fresh ≤ 1000000) (hl : q.left s.n < S.fresh) (w : World) (hA : PAt w p b m sm rb s q) (hT : TreeAt w t p D S) :
    Calls Tryz.prog 23 #[.pointer (some ⟨t, 0, none⟩)] w fun e w' => e = .returned (.int .i64 13) ∧ PAt w' p b m sm rb s { q with rd := true } ∧ Turn [p] w w' := by
  have HC := hide (tdead_any t p b m sm rb s q D S hd hq w hA hT)
  have HT := hide hT
  clear hA hT
  go_enter Tryz.func23, Tryz.ntmps23
  go_wp2_with fail
  with_reducible refine HC.out.mono ?_
  rintro e w1 ⟨rfl, ⟨r, hA1⟩, hT1⟩
  have HTr1 := hide (HT.out.turn hT1 (by simp; exact hO.p))
  have HLf := hide (tleft_any t p b m sm rb s { q with rd := r } D S hd hO.p hfr w1 hA1 HTr1.out)
  have HT1 := hide hT1
  have h8 := HTr1.out.now.c2
  rw [hch] at h8
  change Hid (Calls Tryz.prog 31 _ w1 fun e w' => e = .returned (.int .i64 ((q.left s.n : Nat) - (S.fresh : Nat) : Int)) ∧ PAt w' p b m sm rb s { q with rd := true } ∧ Turn [p] w1 w') at HLf
  generalize q.left s.n = lf at *
  have hnl : ((lf : Int) - (S.fresh : Int) < 0) := by omega
  clear hA1 hT1
  go_wp2_with fail
  with_reducible refine HLf.out.mono ?_
  rintro e w2 ⟨rfl, hA2, hT2⟩
  have HA2 := hide hA2
  have HT2 := hide (HT1.out.trans hT2)
  clear hA2 hT2
  go_wp2_with fail
  go_ret
  exact ⟨rfl, HA2.out, HT2.out⟩

set_option maxRecDepth 100000 in
set_option maxHeartbeats 1600000 in
theorem commit_clean (t p b m sm rb : Nat) (s : St) (q : Pg) (D S : Stt) (hd : s.dead = false) (hq : q.dead = false) (hO : Off t p b m sm rb) (hch : S.changed = false) (w : World) (hA : PAt w p b m sm rb s q) (hT : TreeAt w t p D S) :
    Calls Tryz.prog 23 #[.pointer (some ⟨t, 0, none⟩)] w fun e w' => e = .returned (.int .i64 0) ∧ (∃ r, PAt w' p b m sm rb s { q with rd := r }) ∧ Turn [p] w w' := by
  have HC := hide (tdead_any t p b m sm rb s q D S hd hq w hA hT)
  have HT := hide hT
  clear hA hT
  go_enter Tryz.func23, Tryz.ntmps23
  go_wp2_with fail
  with_reducible refine HC.out.mono ?_
  rintro e w1 ⟨rfl, hA1, hT1⟩
  have h8 := (HT.out.turn hT1 (by simp; exact hO.p)).now.c2
  rw [hch] at h8
  have HA1 := hide hA1
  have HT1 := hide hT1
  clear hA1 hT1
  go_wp2_with fail
  go_ret
  exact ⟨rfl, HA1.out, HT1.out⟩

end Go.Proofs.YthehkckdecckhaaGreatDoor
