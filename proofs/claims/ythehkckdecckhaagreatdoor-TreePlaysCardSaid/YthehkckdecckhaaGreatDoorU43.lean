/-
  settled: what it joins, and what it works on behind that.
  settled: its calls, at the branch that it works on.
  settled: its node gets its places, and the branch is laid anew.
  Get, walked, on any tree.
-/
import Derived.Test.YthehkckdecckhaaGreatDoorU42
import Derived.Test.YthehkckdecckhaaGreatDoorU41

namespace Go.Proofs.YthehkckdecckhaaGreatDoor
open Go.RowKit Go.Maps

/-- What is left of a state when places of pages X were taken and y made. -/
structure Mvd (X : List Nat) (y : Nat) (S S' : Stt) (ds ds' : List Nat) : Prop where
  root : S'.root = S.root
  keys : S'.keys = S.keys
  changed : S'.changed = S.changed
  fresh : S'.fresh + X.count 0 = S.fresh + y
  drop : ds' = ds ++ X.filter (fun x => decide (x ≠ 0))
theorem Mvd.nil (S : Stt) (ds : List Nat) : Mvd [] 0 S S ds ds := ⟨rfl, rfl, rfl, rfl, by simp⟩
theorem Mvd.trans {X X' : List Nat} {y y' : Nat} {S S1 S2 : Stt} {ds ds1 ds2 : List Nat} (h : Mvd X y S S1 ds ds1) (k : Mvd X' y' S1 S2 ds1 ds2) : Mvd (X ++ X') (y + y') S S2 ds ds2 := by
  refine ⟨k.root.trans h.root, k.keys.trans h.keys, k.changed.trans h.changed, ?_, ?_⟩
  · have h1 := h.fresh
    have h2 := k.fresh
    rw [List.count_append]
    omega
  · rw [k.drop, h.drop, List.filter_append, List.append_assoc]
theorem Took.mvd {pg : Nat} {S S' : Stt} {ds ds' : List Nat} (h : Took pg S S' ds ds') : Mvd [pg] 0 S S' ds ds' := by
  refine ⟨h.root, h.keys, h.changed, ?_, ?_⟩
  · have := h.fresh
    by_cases h0 : pg = 0
    · subst h0
      simpa using this
    · rw [if_neg h0] at this
      simp [h0]
      exact this
  · rw [h.drop]
    by_cases h0 : pg = 0
    · simp [h0]
    · simp [h0]

/-- The row that a node lies in. -/
def rowOf (v : Value) (x : Nat) : Prop := ∃ ad m c, v = .slice (some ad) m c ∧ x = ad.block

/-- Entries f to f2 of a branch are to be put by a node's places: what joining the node of the i-th with a neighbour comes to. -/
structure Pick {h : Nat} (bl : List (En (h + 1))) (a z : List (En (h + 1))) (c : En (h + 1)) (n : List (En h)) (f f2 : Nat) (n2 : List (En h)) (X : List Nat) : Prop where
  lt : f < f2
  le : f2 ≤ bl.length
  is_ : ∀ lo, (∃ hf : f < bl.length, lo = bl[f].key) → settleN a c.key n z = bl.take f ++ (placedN n2 lo ++ bl.drop f2)
  pages : (pagesN (bl.take f) ++ (pagesN n2 ++ (pagesN (bl.drop f2) ++ X))).Perm (pagesN a ++ (pagesN n ++ pagesN z))
  full : ∀ e ∈ n2, FullE e
  size : sizeN n2 ≤ 1900
  some : 0 < n2.length
  few : X.length ≤ 1

theorem pages_one {h : Nat} (j : En (h + 1)) : pagesN [j] = pageOf j :: pagesN (kidsOf j) := by
  unfold pagesN
  rw [List.flatMap_cons, List.flatMap_nil, List.append_nil]
  rfl

theorem drop_two {α : Type} (a z : List α) (x y : α) : (a ++ x :: y :: z).drop (a.length + 1 + 1) = z := by
  rw [show a ++ x :: y :: z = (a ++ [x, y]) ++ z by simp]
  exact List.drop_left' (by simp)
theorem drop_one {α : Type} (a z : List α) (x : α) : (a ++ x :: z).drop (a.length + 1) = z := by
  rw [show a ++ x :: z = (a ++ [x]) ++ z by simp]
  exact List.drop_left' (by simp)
theorem minN_pos (h : Nat) : 0 < minN h := by cases h <;> simp [minN]

/-- With the left one. -/
theorem pick_left {h : Nat} {bl a1 z : List (En (h + 1))} {j c : En (h + 1)} {n : List (En h)} (hbl : bl = a1 ++ j :: c :: z) (hs : shortN n (kidsOf j) = true) (hf : ∀ e ∈ bl, FullE e) (hn : ∀ e ∈ n, FullE e) (hz : sizeN n ≤ 1000) : Pick bl (a1 ++ [j]) z c n a1.length (a1.length + 1 + 1) (kidsOf j ++ n) [pageOf j] := by
  subst hbl
  have hj := full_at (hf j (by simp))
  have e0 : (a1 ++ [j]).getLast? = some j := by simp
  have ht : (a1 ++ j :: c :: z).take a1.length = a1 := by simp
  have hd : (a1 ++ j :: c :: z).drop (a1.length + 1 + 1) = z := drop_two _ _ _ _
  have hm : 0 < (kidsOf j).length := by
    have h1 := hj.2.1
    have h2 := minN_pos h
    omega
  refine ⟨by omega, by simp <;> omega, fun lo ⟨_, e⟩ => ?_, ?_, fun e he => ?_, ?_, ?_, by simp⟩
  · rw [ht, hd, e]
    unfold settleN
    rw [e0]
    simp [hs]
  · rw [ht, hd, pagesN_append, pagesN_append, pages_one]
    simp only [List.append_assoc]
    refine List.Perm.append_left _ ?_
    have h1 : (pagesN (kidsOf j) ++ (pagesN n ++ (pagesN z ++ [pageOf j]))).Perm ([pageOf j] ++ (pagesN (kidsOf j) ++ (pagesN n ++ pagesN z))) := by
      have e : pagesN (kidsOf j) ++ (pagesN n ++ (pagesN z ++ [pageOf j])) = (pagesN (kidsOf j) ++ (pagesN n ++ pagesN z)) ++ [pageOf j] := by simp
      rw [e]
      exact List.perm_append_comm
    exact h1
  · rcases List.mem_append.1 he with he | he
    · exact hj.2.2.2 e he
    · exact hn e he
  · rw [sizeN_append]
    have := hj.2.2.1
    omega
  · rw [List.length_append]
    omega

/-- With the right one. -/
theorem pick_right {h : Nat} {bl a z : List (En (h + 1))} {m c : En (h + 1)} {n : List (En h)} (hbl : bl = a ++ c :: m :: z) (hl : ∀ j, a.getLast? = some j → shortN n (kidsOf j) = false) (hs : shortN n (kidsOf m) = true) (hf : ∀ e ∈ bl, FullE e) (hn : ∀ e ∈ n, FullE e) (hz : sizeN n ≤ 1000) : Pick bl a (m :: z) c n a.length (a.length + 1 + 1) (n ++ kidsOf m) [pageOf m] := by
  subst hbl
  have hj := full_at (hf m (by simp))
  have ht : (a ++ c :: m :: z).take a.length = a := by simp
  have hd : (a ++ c :: m :: z).drop (a.length + 1 + 1) = z := drop_two _ _ _ _
  have hm : 0 < (kidsOf m).length := by
    have h1 := hj.2.1
    have h2 := minN_pos h
    omega
  refine ⟨by omega, by simp <;> omega, fun lo ⟨_, e⟩ => ?_, ?_, fun e he => ?_, ?_, ?_, by simp⟩
  · rw [ht, hd, e]
    have e1 : settleN a c.key n (m :: z) = settleR a c.key n (m :: z) := by
      unfold settleN
      cases hg : a.getLast? with
      | none => rfl
      | some j => simp [hl j hg]
    rw [e1]
    unfold settleR
    simp [hs]
  · rw [ht, hd]
    have e : pagesN (m :: z) = pageOf m :: (pagesN (kidsOf m) ++ pagesN z) := by
      have := pages_one m
      unfold pagesN at *
      rw [List.flatMap_cons]
      rw [List.flatMap_cons, List.flatMap_nil, List.append_nil] at this
      rw [this]
      rfl
    rw [pagesN_append, e]
    simp only [List.append_assoc]
    refine List.Perm.append_left _ (List.Perm.append_left _ ?_)
    have e2 : pagesN (kidsOf m) ++ (pagesN z ++ [pageOf m]) = (pagesN (kidsOf m) ++ pagesN z) ++ [pageOf m] := by simp
    rw [e2]
    exact List.perm_append_comm
  · rcases List.mem_append.1 he with he | he
    · exact hn e he
    · exact hj.2.2.2 e he
  · rw [sizeN_append]
    have := hj.2.2.1
    omega
  · rw [List.length_append]
    omega

/-- Alone. -/
theorem pick_none {h : Nat} {bl a z : List (En (h + 1))} {c : En (h + 1)} {n : List (En h)} (hbl : bl = a ++ c :: z) (hl : ∀ j, a.getLast? = some j → shortN n (kidsOf j) = false) (hr : ∀ m z', z = m :: z' → shortN n (kidsOf m) = false) (htwo : 2 ≤ bl.length) (hn : ∀ e ∈ n, FullE e) (hz : sizeN n ≤ 1000) : Pick bl a z c n a.length (a.length + 1) n [] := by
  subst hbl
  have ht : (a ++ c :: z).take a.length = a := by simp
  have hd : (a ++ c :: z).drop (a.length + 1) = z := drop_one _ _ _
  have h123 : 123 ≤ sizeN n := by
    cases hg : a.getLast? with
    | some j => exact short_not (hl j hg)
    | none =>
      cases z with
      | cons m z' => exact short_not (hr m z' rfl)
      | nil =>
        rw [List.getLast?_eq_none_iff] at hg
        subst hg
        simp at htwo
  refine ⟨by omega, by simp <;> omega, fun lo ⟨_, e⟩ => ?_, ?_, hn, by omega, ?_, by simp⟩
  · rw [ht, hd, e]
    have e1 : settleN a c.key n z = settleR a c.key n z := by
      unfold settleN
      cases hg : a.getLast? with
      | none => rfl
      | some j => simp [hl j hg]
    rw [e1]
    unfold settleR
    cases z with
    | nil => simp
    | cons m z' => simp [hr m z' rfl]
  · rw [ht, hd]
    simp
  · cases n with
    | nil => simp [sizeN] at h123
    | cons => simp

/-- Behind the joining. -/
structure SMid (w wx : World) (O : Nat → Prop) (t p b m sm rb : Nat) (s : St) (q : Pg) (Dn S : Stt) (D : Dk) (G : Gh) (Rw : Nat → Prop) (ds : List Nat) (hh b0 off : Nat) (ks : List (ByteArray × Nat)) (bl a z : List (En (hh + 1))) (c : En (hh + 1)) (n : List (En hh)) (v : Value) (nv fv tv : Value) : Prop where
  ex : ∃ T2 v2 nd2 n2 f f2 S' ds' G' Rw' r X, nv = .iface T2 v2 ∧ fv = .int .i64 ((f : Nat) : Int) ∧ tv = .int .i64 ((f2 : Nat) : Int) ∧ Pick bl a z c n f f2 n2 X ∧ SIn wx O t p b m sm rb s { q with rd := r } Dn S' D G' Rw' ds' hh b0 off ks bl nd2 T2 v2 n2 ∧ Grown D G G' ∧ TGo t p w wx G G' Rw Rw' S.dropped S'.dropped ∧ Mvd X 0 S S' ds ds' ∧ ∀ x, rowOf v2 x → rowOf v x ∨ Rw' x ∨ w.heap.size ≤ x

/-- What settled leaves: a new row of kids. -/
structure SOut (w w' : World) (O : Nat → Prop) (t p b m sm rb : Nat) (s : St) (q : Pg) (Dn S : Stt) (D : Dk) (G : Gh) (Rw : Nat → Prop) (ds : List Nat) (hh : Nat) (a z : List (En (hh + 1))) (c : En (hh + 1)) (n : List (En hh)) (v e : Value) : Prop where
  ex : ∃ G' Rw0 Rw' r S' ds' ks' g cap X y, e = .slice (some ⟨g, 0, none⟩) ks'.length cap ∧ w.heap.size ≤ g ∧ ks'.length ≤ cap ∧ cap ≤ 9223372036854775807 ∧ KidsAt w' (some ⟨g, 0, none⟩) ks' ∧ Both (KidIs G' (Means G' D hh)) ks' (settleN a c.key n z) ∧ TD w' O t p b m sm rb s { q with rd := r } Dn S' D G' Rw' ds' ∧ Grown D G G'
    ∧ (∀ x, Rw x → Rw0 x) ∧ (∀ x, Rw0 x → Rw x ∨ rowOf v x ∨ w.heap.size ≤ x) ∧ TGo t p w w' G G' Rw0 Rw' S.dropped S'.dropped ∧ Mvd X y S S' ds ds' ∧ (pagesN (settleN a c.key n z) ++ X).Perm (pagesN a ++ (pagesN n ++ pagesN z) ++ List.replicate y 0) ∧ Able O t p b m sm rb G' Rw' S'.dropped g ∧ ¬ Rw' g ∧ g < w'.heap.size ∧ X.length ≤ 1 ∧ y ≤ 2

end Go.Proofs.YthehkckdecckhaaGreatDoor

namespace Go.Proofs.YthehkckdecckhaaGreatDoor
open Go.RowKit Go.Maps

/-- Behind calls that only read. -/
structure SRd (w wx : World) (O : Nat → Prop) (t p b m sm rb : Nat) (s : St) (q : Pg) (Dn S : Stt) (D : Dk) (G : Gh) (Rw : Nat → Prop) (ds : List Nat) (hh b0 off : Nat) (ks : List (ByteArray × Nat)) (bl : List (En (hh + 1))) (nd : Nd) (T : TypeId) (v : Value) (n : List (En hh)) : Prop where
  ex : ∃ G' Rw' r, SIn wx O t p b m sm rb s { q with rd := r } Dn S D G' Rw' ds hh b0 off ks bl nd T v n ∧ Grown D G G' ∧ TGo t p w wx G G' Rw Rw' S.dropped S.dropped
theorem SIn.rd {w w' : World} {O : Nat → Prop} {t p b m sm rb : Nat} {s : St} {q : Pg} {Dn S : Stt} {D : Dk} {G : Gh} {Rw : Nat → Prop} {ds : List Nat} {hh b0 off : Nat} {ks : List (ByteArray × Nat)} {bl : List (En (hh + 1))} {nd : Nd} {T : TypeId} {v : Value} {n : List (En hh)} (h : SIn w O t p b m sm rb s q Dn S D G Rw ds hh b0 off ks bl nd T v n) (hR : TRd w w' O t p b m sm rb s q Dn S D G Rw) : SRd w w' O t p b m sm rb s q Dn S D G Rw ds hh b0 off ks bl nd T v n := by
  obtain ⟨G', Rw', r, hTM, hGr, hS⟩ := hR.ex
  exact ⟨G', Rw', r, h.go (h.td.read hTM hS) hGr (hS.go _), hGr, hS.go _⟩
theorem SRd.then_ {u w w' : World} {O : Nat → Prop} {t p b m sm rb : Nat} {s : St} {q q' : Pg} {Dn S : Stt} {D : Dk} {G G1 : Gh} {Rw Rw1 : Nat → Prop} {ds : List Nat} {hh b0 off : Nat} {ks : List (ByteArray × Nat)} {bl : List (En (hh + 1))} {nd : Nd} {T : TypeId} {v : Value} {n : List (En hh)} {r : Bool} (hq : q' = { q with rd := r }) (hGr : Grown D G G1) (hS : TGo t p u w G G1 Rw Rw1 S.dropped S.dropped) (k : SRd w w' O t p b m sm rb s q' Dn S D G1 Rw1 ds hh b0 off ks bl nd T v n) : SRd u w' O t p b m sm rb s q Dn S D G Rw ds hh b0 off ks bl nd T v n := by
  subst hq
  obtain ⟨G', Rw', r', h1, h2, h3⟩ := k.ex
  exact ⟨G', Rw', r', h1, hGr.trans h2, hS.trans h3⟩

/-- What stands at a number of the branch. -/
theorem SIn.at_ {w : World} {O : Nat → Prop} {t p b m sm rb : Nat} {s : St} {q : Pg} {Dn S : Stt} {D : Dk} {G : Gh} {Rw : Nat → Prop} {ds : List Nat} {hh b0 off : Nat} {ks : List (ByteArray × Nat)} {bl : List (En (hh + 1))} {nd : Nd} {T : TypeId} {v : Value} {n : List (En hh)} (h : SIn w O t p b m sm rb s q Dn S D G Rw ds hh b0 off ks bl nd T v n) {i : Nat} (hi : i < ks.length) (hi' : i < bl.length) :
    w.cell? ⟨b0, off + i * 2, none⟩ = some (.string bl[i].key) ∧ w.cell? ⟨b0, off + i * 2 + 1, none⟩ = some (.pointer (some ⟨ks[i].2, 0, none⟩)) ∧ w.cell? ⟨ks[i].2, 1, none⟩ = some (.int .i64 ((hh + 1 : Nat) : Int)) ∧ Means G D hh ks[i].2 (kidsOf bl[i]) ∧ ∃ P, G ks[i].2 = some P ∧ P.pg = pageOf bl[i] := by
  obtain ⟨b', off', e, h0, h1⟩ := h.kids.at hi
  injection e with e
  injection e with e1 e2
  subst e1 e2
  obtain ⟨k1, k2, k3⟩ := h.both.get i hi hi'
  rw [k1] at h0
  refine ⟨h0, h1, ?_, k3, k2⟩
  obtain ⟨P, hP, hlv, _⟩ := k3.out
  have := h.td.tm.mem.at_ _ P hP
  unfold PlOk at this
  split at this
  · rw [this.c1, hlv]
  · obtain ⟨_, _, _, _, hp, _⟩ := this
    rw [hp.c1, hlv]

/-- isShort beside a place of the branch. -/
theorem short_at {w : World} {O : Nat → Prop} {t p b m sm rb : Nat} {s : St} {q : Pg} {Dn S : Stt} {D : Dk} {G : Gh} {Rw : Nat → Prop} {ds : List Nat} {hh b0 off : Nat} {ks : List (ByteArray × Nat)} {bl : List (En (hh + 1))} {nd : Nd} {T : TypeId} {v : Value} {n : List (En hh)} (h : SIn w O t p b m sm rb s q Dn S D G Rw ds hh b0 off ks bl nd T v n) (hf : ∀ e ∈ bl, FullE e) (hn : ∀ e ∈ n, FullE e) (hz : sizeN n ≤ 1000) {i : Nat} (hi : i < ks.length) (hi' : i < bl.length) :
    Calls Tryz.prog 120 #[.pointer (some ⟨t, 0, none⟩), .iface T v, .pointer (some ⟨ks[i].2, 0, none⟩)] w fun e w' => e = .returned (.bool (shortN n (kidsOf bl[i]))) ∧ SRd w w' O t p b m sm rb s q Dn S D G Rw ds hh b0 off ks bl nd T v n := by
  obtain ⟨_, _, _, hm, _⟩ := h.at_ hi hi'
  have hb := full_at (hf bl[i] (List.getElem_mem hi'))
  refine (tm_short h.td.tm h.nv (size_is h.nis) (fine_is h.nis hn (by omega)) hm hb.2.2.2 hb.2.2.1 (by omega)).mono ?_
  rintro e w' ⟨rfl, hR⟩
  exact ⟨rfl, h.rd hR⟩

/-- take of a place of the branch. -/
theorem take_at {w : World} {O : Nat → Prop} {t p b m sm rb : Nat} {s : St} {q : Pg} {Dn S : Stt} {D : Dk} {G : Gh} {Rw : Nat → Prop} {ds : List Nat} {hh b0 off : Nat} {ks : List (ByteArray × Nat)} {bl : List (En (hh + 1))} {nd : Nd} {T : TypeId} {v : Value} {n : List (En hh)} (h : SIn w O t p b m sm rb s q Dn S D G Rw ds hh b0 off ks bl nd T v n) (hds : ds.length ≤ 100000) {i : Nat} (hi : i < ks.length) (hi' : i < bl.length) (hfr : S.fresh ≤ 100000 ∧ (pageOf bl[i] = 0 → 1 ≤ S.fresh)) :
    Calls Tryz.prog 88 #[.pointer (some ⟨t, 0, none⟩), .pointer (some ⟨ks[i].2, 0, none⟩)] w fun e w' => ∃ T3 v3 nd3 G' Rw' r S' ds', e = .returned (.iface T3 v3) ∧ NdV w' nd3 T3 v3 ∧ NodeIs G' D hh nd3 (kidsOf bl[i]) ∧ SIn w' O t p b m sm rb s { q with rd := r } Dn S' D G' Rw' ds' hh b0 off ks bl nd T v n ∧ Grown D G G' ∧ TGo t p w w' G G' Rw Rw' S.dropped S'.dropped ∧ Mvd [pageOf bl[i]] 0 S S' ds ds' := by
  obtain ⟨_, _, _, hm, P, hP, hpg⟩ := h.at_ hi hi'
  refine (tm_take h.td hm hP hds ⟨hfr.1, fun e => hfr.2 (hpg ▸ e)⟩).mono ?_
  rintro e w' ⟨T3, v3, nd3, G', Rw', r, S', ds', rfl, hN, hNode, hTD, hGr, hS, hTk⟩
  rw [hpg] at hTk
  exact ⟨T3, v3, nd3, G', Rw', r, S', ds', rfl, hN.v, hNode, h.go hTD hGr hS, hGr, hS, hTk.mvd⟩

/-- A new block may become a row of the tree's. -/
theorem TD.able {w : World} {O : Nat → Prop} {t p b m sm rb : Nat} {s : St} {q : Pg} {Dn S : Stt} {D : Dk} {G : Gh} {Rw : Nat → Prop} {ds : List Nat} (h : TD w O t p b m sm rb s q Dn S D G Rw ds) {x : Nat} (hx : w.heap.size ≤ x) : Able O t p b m sm rb G Rw S.dropped x := by
  refine .inr ⟨fun hm => by have := h.tm.lts x hm; omega, fun ho => by have := h.tm.ob x ho; omega, ?_, fun e => by have := (h.drop.lt x e).2; omega⟩
  cases hg : G x with
  | none => rfl
  | some Q => have := h.tm.mem.lt (a := x) (by rw [hg]; simp); omega

/-- Another node beside the branch. -/
theorem SIn.node {w w' : World} {O : Nat → Prop} {t p b m sm rb : Nat} {s : St} {q : Pg} {Dn S : Stt} {D : Dk} {G : Gh} {Rw : Nat → Prop} {ds : List Nat} {hh b0 off : Nat} {ks : List (ByteArray × Nat)} {bl : List (En (hh + 1))} {nd nd2 : Nd} {T T2 : TypeId} {v v2 : Value} {n n2 : List (En hh)} {bb : Nat} (h : SIn w O t p b m sm rb s q Dn S D G Rw ds hh b0 off ks bl nd T v n) (hT : Turn [] w w') (hin : NdIn w' bb nd2 T2 v2) (hbb : w.heap.size ≤ bb) (hn : NodeIs G D hh nd2 n2) : SIn w' O t p b m sm rb s q Dn S D G Rw ds hh b0 off ks bl nd2 T2 v2 n2 ∧ ∀ x, rowOf v2 x → x = bb := by
  have h' := h.quiet hT
  have hrow : ∀ ad c' c, v2 = .slice (some ad) c' c → ad.block = bb := fun ad c' c e => by
    cases nd2 with
    | inl l =>
      obtain ⟨_, _, off, c2, h3, _⟩ := hin
      rw [e] at h3
      injection h3 with h3
      injection h3 with h3
      rw [h3]
    | inr l =>
      obtain ⟨_, _, off, c2, h3, _⟩ := hin
      rw [e] at h3
      injection h3 with h3
      injection h3 with h3
      rw [h3]
  refine ⟨⟨h'.td, h'.kids, h'.row, h'.both, h'.lvls, hin.v, hn, fun ad c' c e => ?_⟩, fun x hx => ?_⟩
  · rw [hrow ad c' c e]
    exact ⟨h.td.able hbb, hin.lt⟩
  · obtain ⟨ad, c', c, e, rfl⟩ := hx
    exact hrow ad c' c e

/-- What settled does beside a place. -/
structure Beside (w : World) (O : Nat → Prop) (t p b m sm rb : Nat) (s : St) (q : Pg) (Dn S : Stt) (D : Dk) (G : Gh) (Rw : Nat → Prop) (ds : List Nat) (hh b0 off : Nat) (ks : List (ByteArray × Nat)) (bl : List (En (hh + 1))) (nd : Nd) (T : TypeId) (v : Value) (n : List (En hh)) (x : En (hh + 1)) (ai : Nat) : Prop where
  short : Calls Tryz.prog 120 #[.pointer (some ⟨t, 0, none⟩), .iface T v, .pointer (some ⟨ai, 0, none⟩)] w fun e w' => e = .returned (.bool (shortN n (kidsOf x))) ∧ SRd w w' O t p b m sm rb s q Dn S D G Rw ds hh b0 off ks bl nd T v n
  take : ds.length ≤ 100000 → S.fresh ≤ 100000 ∧ (pageOf x = 0 → 1 ≤ S.fresh) → Calls Tryz.prog 88 #[.pointer (some ⟨t, 0, none⟩), .pointer (some ⟨ai, 0, none⟩)] w fun e w' => ∃ T3 v3 nd3 G' Rw' r S' ds', e = .returned (.iface T3 v3) ∧ NdV w' nd3 T3 v3 ∧ NodeIs G' D hh nd3 (kidsOf x) ∧ SIn w' O t p b m sm rb s { q with rd := r } Dn S' D G' Rw' ds' hh b0 off ks bl nd T v n ∧ Grown D G G' ∧ TGo t p w w' G G' Rw Rw' S.dropped S'.dropped ∧ Mvd [pageOf x] 0 S S' ds ds'
theorem SIn.beside {w : World} {O : Nat → Prop} {t p b m sm rb : Nat} {s : St} {q : Pg} {Dn S : Stt} {D : Dk} {G : Gh} {Rw : Nat → Prop} {ds : List Nat} {hh b0 off : Nat} {ks : List (ByteArray × Nat)} {bl : List (En (hh + 1))} {nd : Nd} {T : TypeId} {v : Value} {n : List (En hh)} (h : SIn w O t p b m sm rb s q Dn S D G Rw ds hh b0 off ks bl nd T v n) (hf : ∀ e ∈ bl, FullE e) (hn : ∀ e ∈ n, FullE e) (hz : sizeN n ≤ 1000) {i : Nat} {x : En (hh + 1)} (hx : bl[i]? = some x) : ∃ ai, w.cell? ⟨b0, off + i * 2, none⟩ = some (.string x.key) ∧ w.cell? ⟨b0, off + i * 2 + 1, none⟩ = some (.pointer (some ⟨ai, 0, none⟩)) ∧ Beside w O t p b m sm rb s q Dn S D G Rw ds hh b0 off ks bl nd T v n x ai := by
  obtain ⟨hi, rfl⟩ := List.getElem?_eq_some_iff.1 hx
  have hi' : i < ks.length := by rw [h.both.length]; exact hi
  obtain ⟨h0, h1, _⟩ := h.at_ hi' hi
  exact ⟨ks[i].2, h0, h1, short_at h hf hn hz hi' hi, fun hds hfr => take_at h hds hi' hi hfr⟩

end Go.Proofs.YthehkckdecckhaaGreatDoor

namespace Go.Proofs.YthehkckdecckhaaGreatDoor
open Go.RowKit Go.Maps

/-- How many entries a node has. -/
def lenNd : Nd → Nat
  | .inl l => l.length
  | .inr ks => ks.length
theorem nd_some {G : Gh} {D : Dk} {hh : Nat} {nd : Nd} {n : List (En hh)} (hn : NodeIs G D hh nd n) : lenNd nd = n.length := by
  cases hh with
  | zero =>
    obtain rfl : nd = .inl n := hn
    rfl
  | succ hh =>
    obtain ⟨ks, rfl, hb⟩ := hn
    exact hb.length

/-- placed, of the node beside the branch. -/
theorem SIn.placed {w : World} {O : Nat → Prop} {t p b m sm rb : Nat} {s : St} {q : Pg} {Dn S : Stt} {D : Dk} {G : Gh} {Rw : Nat → Prop} {ds : List Nat} {hh b0 off : Nat} {ks : List (ByteArray × Nat)} {bl : List (En (hh + 1))} {nd : Nd} {T : TypeId} {v : Value} {n : List (En hh)} (h : SIn w O t p b m sm rb s q Dn S D G Rw ds hh b0 off ks bl nd T v n) (hfe : ∀ e ∈ n, FullE e) (hz : sizeN n ≤ 1900) (h0 : 0 < n.length) (hfr : S.fresh ≤ 100000) (low : ByteArray) :
    Calls Tryz.prog 86 #[.pointer (some ⟨t, 0, none⟩), .iface T v, .int .i64 ((hh + 1 : Nat) : Int), .string low] w fun e w' => ∃ v' bb, e = .returned v' ∧ rowOf v bb ∧ NewPl w O t p b m sm rb s q Dn S D G Rw ds bb hh (placedN n low) w' v' := by
  obtain ⟨bb, off2, m2, c2, hv, hin⟩ := h.nv.in_ (by rw [← nd_some h.nis] at h0; cases nd <;> exact h0)
  refine (tm_placed h.td hin h.nis hfe hz (h.able _ _ _ hv).1 hfr low).mono ?_
  rintro e w' ⟨v', rfl, hN⟩
  exact ⟨v', bb, rfl, ⟨_, _, _, hv, rfl⟩, hN⟩

/-- The pages of new places. -/
theorem placed_pages {h : Nat} (n : List (En h)) (lo : ByteArray) : (pagesN (placedN n lo)).Perm (pagesN n ++ List.replicate (placedN n lo).length 0) := by
  have hmk : ∀ (lo : ByteArray) (l : List (En h)), pagesN [mkE lo 0 l] = 0 :: pagesN l := fun lo l => pages_one _
  by_cases hz : sizeN n ≤ 495
  · rw [placedN_one hz, hmk]
    show ([0] ++ pagesN n).Perm (pagesN n ++ [0])
    exact List.perm_append_comm
  · rw [placedN_two hz rfl]
    have e : ∀ (x y : En (h + 1)), pagesN [x, y] = pagesN [x] ++ pagesN [y] := fun x y => pagesN_append [x] [y]
    rw [e, hmk, hmk]
    have e2 : pagesN n = pagesN (n.take (middleN (n.map En.size))) ++ pagesN (n.drop (middleN (n.map En.size))) := by
      rw [← pagesN_append, List.take_append_drop]
    rw [e2]
    generalize pagesN (n.take (middleN (n.map En.size))) = A
    generalize pagesN (n.drop (middleN (n.map En.size))) = B
    show ((0 :: A) ++ (0 :: B)).Perm ((A ++ B) ++ [0, 0])
    have h1 : ((0 :: A) ++ (0 :: B)).Perm ([0, 0] ++ (A ++ B)) := by
      show (0 :: (A ++ 0 :: B)).Perm (0 :: 0 :: (A ++ B))
      exact List.Perm.cons _ List.perm_middle
    exact h1.trans List.perm_append_comm

/-- The branch's row where the state's object turns. -/
theorem SIn.kids_t {w w' : World} {O : Nat → Prop} {t p b m sm rb : Nat} {s : St} {q : Pg} {Dn S : Stt} {D : Dk} {G : Gh} {Rw : Nat → Prop} {ds : List Nat} {hh b0 off : Nat} {ks : List (ByteArray × Nat)} {bl : List (En (hh + 1))} {nd : Nd} {T : TypeId} {v : Value} {n : List (En hh)} (h : SIn w O t p b m sm rb s q Dn S D G Rw ds hh b0 off ks bl nd T v n) (hT : Turn [t] w w') : KidsAt w' (some ⟨b0, off, none⟩) ks :=
  h.kids.turn hT fun x _ hx => by
    obtain rfl := Option.some.inj hx
    simp
    rintro rfl
    exact (h.td.tm.own b0 (.inr h.row)).1 (by simp)

theorem placed_len {h : Nat} (n : List (En h)) (lo : ByteArray) : 1 ≤ (placedN n lo).length ∧ (placedN n lo).length ≤ 2 := by
  by_cases hz : sizeN n ≤ 495
  · rw [placedN_one hz]
    simp
  · rw [placedN_two hz rfl]
    simp

/-- Its parts and the new places, behind one another. -/
theorem SIn.cat {w1 w3 : World} {O : Nat → Prop} {t p b m sm rb : Nat} {s : St} {q : Pg} {Dn S : Stt} {D : Dk} {G : Gh} {Rw : Nat → Prop} {ds : List Nat} {hh b0 off : Nat} {ks : List (ByteArray × Nat)} {bl : List (En (hh + 1))} {nd : Nd} {T : TypeId} {v : Value} {n : List (En hh)} (h : SIn w1 O t p b m sm rb s q Dn S D G Rw ds hh b0 off ks bl nd T v n) (hT : Turn [t] w1 w3) {f f2 cap g2 c3 n3 : Nat} {ks2 : List (ByteArray × Nat)} {a3 : Option Addr} (hf : f ≤ ks.length) (hk : ks.length ≤ 1000) (hK2 : KidsAt w3 (some ⟨g2, 0, none⟩) ks2) (h2 : ks2.length ≤ 2) (hn3 : n3 = ks.length - f2) (z3 : a3 = none → c3 = 0) (k3 : KidsAt w3 a3 (ks.drop f2)) (e : TypeId) (cc : Nat) :
    Calls Tryz.prog 122 #[.slice (some ⟨w3.heap.size, 0, none⟩) 3 cc] (w3.alloc (.cells #[.slice (some ⟨b0, off, none⟩) f cap, .slice (some ⟨g2, 0, none⟩) ks2.length ks2.length, .slice a3 n3 c3] e)) fun e w' => ∃ v base, e = .returned v ∧ w3.heap.size ≤ base ∧ w'.ownsRow base 122 2 v ((ks.take f).length + ks2.length + (ks.drop f2).length) (flat (kidCells (ks.take f ++ (ks2 ++ ks.drop f2)))) ∧ Turn [] w3 w' := by
  have hA : ∀ o, Turn [] w3 (w3.alloc o) := fun o => (Turn.refl [] w3).alloc o
  refine (kcat3 w3.heap.size cc f ks2.length n3 cap ks2.length c3 (some ⟨b0, off, none⟩) (some ⟨g2, 0, none⟩) a3 (ks.take f) ks2 (ks.drop f2) (by rw [List.length_take]; omega) rfl (by rw [List.length_drop]; omega) (by rw [List.length_take, List.length_drop]; omega) _ (World.cell?_alloc_at _ _ _ _ rfl) (World.cell?_alloc_at _ _ _ _ rfl) (World.cell?_alloc_at _ _ _ _ rfl) (by simp) (by simp) z3 (((h.kids_t hT).part f).1.turn0 (hA _)) (hK2.turn0 (hA _)) (k3.turn0 (hA _))).mono ?_
  rintro e w' ⟨v, rfl, hO, hT'⟩
  exact ⟨v, _, rfl, (hA _).size, hO, (hA _).trans hT'⟩

/-- What settled leaves. -/
theorem sout_of {w w1 w3 w5 : World} {O : Nat → Prop} {t p b m sm rb : Nat} {s : St} {q : Pg} {Dn S S2 : Stt} {D : Dk} {G G2 G3 : Gh} {Rw Rw2 : Nat → Prop} {ds ds2 : List Nat} {hh b0 off f f2 bb base L : Nat} {ks ks2 : List (ByteArray × Nat)} {bl a z : List (En (hh + 1))} {c : En (hh + 1)} {nd2 : Nd} {T2 : TypeId} {v v2 v5 : Value} {n n2 : List (En hh)} {X : List Nat} {r2 : Bool} {lo : ByteArray}
    (hS : SIn w1 O t p b m sm rb s { q with rd := r2 } Dn S2 D G2 Rw2 ds2 hh b0 off ks bl nd2 T2 v2 n2) (hP : Pick bl a z c n f f2 n2 X) (hlo : ∃ hf : f < bl.length, lo = bl[f].key) (hGr : Grown D G G2) (hGo : TGo t p w w1 G G2 Rw Rw2 S.dropped S2.dropped) (hMv : Mvd X 0 S S2 ds ds2) (hRow : ∀ x, rowOf v2 x → rowOf v x ∨ Rw2 x ∨ w.heap.size ≤ x) (hbb : rowOf v2 bb)
    (hB2 : Both (KidIs G3 (Means G3 D hh)) ks2 (placedN n2 lo)) (hTD3 : TD w3 O t p b m sm rb s { q with rd := r2 } Dn { S2 with fresh := S2.fresh + (placedN n2 lo).length } D G3 (fun y => Rw2 y ∨ y = bb) ds2) (hGr3 : Grown D G2 G3) (hT3 : Turn [t] w1 w3) (hnew : ∀ x, G3 x ≠ none → G2 x ≠ none ∨ w1.heap.size ≤ x)
    (hO : w5.ownsRow base 122 2 v5 L (flat (kidCells (ks.take f ++ (ks2 ++ ks.drop f2))))) (hL : 0 < L) (h35 : Turn [] w3 w5) (hsz : w3.heap.size ≤ base) : SOut w w5 O t p b m sm rb s q Dn S D G Rw ds hh a z c n v v5 := by
  obtain ⟨g, c5, rfl, hg, hgl, hpr, h1, h2, h3⟩ := own_in hO hL
  have hs01 := hGo.size
  have hs13 := hT3.size
  have hcomp := hGo.trans (⟨⟨[t], hT3, fun x hx => .inl (List.mem_singleton.1 hx)⟩, hnew, fun _ h => .inl h, fun _ h => h, fun _ h => .inl h⟩ : TGo t p w1 w3 G2 G3 Rw2 Rw2 S2.dropped S2.dropped)
  have hcomp := hcomp.quiet h35
  have hTD5 := hTD3.read (hTD3.tm.quiet h35) ((TStep.refl p w3 G3 _).quiet h35)
  have hkey : settleN a c.key n z = bl.take f ++ (placedN n2 lo ++ bl.drop f2) := hP.is_ lo hlo
  have hold : ∀ k ∈ ks, ∀ e ∈ bl, KidIs G2 (Means G2 D hh) k e → KidIs G3 (Means G3 D hh) k e := fun k _ e _ hk => by
    obtain ⟨h1, ⟨Q, h2, h3⟩, h4⟩ := hk
    obtain ⟨Q', q1, q2, _⟩ := hGr3.at_ _ Q h2
    exact ⟨h1, ⟨Q', q1, q2.trans h3⟩, h4.grown hGr3⟩
  have hboth := hS.both.mono hold
  have hlen : (ks.take f ++ (ks2 ++ ks.drop f2)).length = L := by
    have : (kidCells (ks.take f ++ (ks2 ++ ks.drop f2))).length = (ks.take f ++ (ks2 ++ ks.drop f2)).length := List.length_map _
    omega
  subst hlen
  refine ⟨G3, fun x => Rw x ∨ x = bb, fun y => Rw2 y ∨ y = bb, r2, _, ds2, ks.take f ++ (ks2 ++ ks.drop f2), g, c5, X, (placedN n2 lo).length, rfl, by omega, h1, h2, hpr.kids, ?_, hTD5, hGr.trans hGr3, fun _ h => .inl h, fun x hx => ?_, ⟨hcomp.turn, hcomp.newG, fun x hx => ?_, fun x hx => ?_, hcomp.newD⟩, ⟨hMv.root, hMv.keys, hMv.changed, ?_, hMv.drop⟩, ?_, ?_, fun hr => ?_, hgl, hP.few, (placed_len n2 lo).2⟩
  · rw [hkey]
    exact (hboth.take f).append (hB2.append (hboth.drop f2))
  · rcases hx with hx | rfl
    · exact .inl hx
    · rcases hRow x hbb with h4 | h4 | h4
      · exact .inr (.inl h4)
      · rcases hGo.newR x h4 with h5 | h5
        · exact .inl h5
        · exact .inr (.inr h5)
      · exact .inr (.inr h4)
  · rcases hx with hx | rfl
    · rcases hGo.newR x hx with h5 | h5
      · exact .inl (.inl h5)
      · exact .inr h5
    · exact .inl (.inr rfl)
  · rcases hx with hx | rfl
    · exact .inl (hGo.oldR x hx)
    · exact .inr rfl
  · have := hMv.fresh
    show S2.fresh + (placedN n2 lo).length + X.count 0 = S.fresh + (placedN n2 lo).length
    omega
  · rw [hkey]
    have h6 := placed_pages n2 lo
    rw [pagesN_append, pagesN_append]
    generalize List.replicate (placedN n2 lo).length 0 = Z at *
    have h7 : (pagesN (bl.take f) ++ (pagesN (placedN n2 lo) ++ pagesN (bl.drop f2)) ++ X).Perm ((pagesN (bl.take f) ++ (pagesN n2 ++ (pagesN (bl.drop f2) ++ X))) ++ Z) := by
      simp only [List.append_assoc]
      refine List.Perm.append_left _ ?_
      refine (h6.append_right _).trans ?_
      simp only [List.append_assoc]
      refine List.Perm.append_left _ ?_
      have : (Z ++ ((pagesN (bl.drop f2)) ++ X)).Perm ((pagesN (bl.drop f2) ++ X) ++ Z) := List.perm_append_comm
      simpa only [List.append_assoc] using this
    exact h7.trans (hP.pages.append_right Z)
  · exact (hTD3.able (by omega)).imp id (fun h => h)
  · have := hTD3.tm.mem.rows g hr
    omega

end Go.Proofs.YthehkckdecckhaaGreatDoor

namespace Go.Proofs.YthehkckdecckhaaGreatDoor
open Go.RowKit Go.Maps

theorem getK_stands {l : List (ByteArray × ByteArray)} {key : ByteArray} (hs : Rises (keysOf l)) {i : Nat} (h : Stands l key i) : ∃ hi : i < l.length, getK l key = some l[i].2 := by
  obtain ⟨hi, hk⟩ := h
  refine ⟨hi, ?_⟩
  unfold getK
  have hf : l.find? (fun x => decide (x.1 = key)) = some l[i] := by
    rw [List.find?_eq_some_iff_getElem]
    refine ⟨by simp [hk], i, hi, rfl, fun j hj => ?_⟩
    have hjl : j < l.length := by omega
    have h1 := hs.get hj (by rw [keysOf_length]; exact hi)
    rw [keysOf_get hjl, keysOf_get hi, hk] at h1
    simp
    exact klt_ne h1
  rw [hf]
  rfl
theorem getK_none {l : List (ByteArray × ByteArray)} {key : ByteArray} (hs : Rises (keysOf l)) {i : Nat} (hp : IsPos (keysOf l) key i) (h : ¬ Stands l key i) : getK l key = none := by
  unfold getK
  have hf : l.find? (fun x => decide (x.1 = key)) = none := by
    rw [List.find?_eq_none]
    intro x hx
    obtain ⟨j, hj, rfl⟩ := List.getElem_of_mem hx
    simp
    intro e
    have hjk : j < (keysOf l).length := by rw [keysOf_length]; exact hj
    by_cases h1 : j < i
    · have h2 := hp.2.1 j hjk h1
      rw [keysOf_get hj, e] at h2
      exact klt_irrefl _ h2
    · by_cases h3 : j = i
      · subst h3
        exact h ⟨hj, e⟩
      · have hil : i < l.length := by omega
        have h4 := hs.get (show i < j by omega) hjk
        rw [keysOf_get hj, keysOf_get hil, e] at h4
        have h5 := hp.2.2 i (by rw [keysOf_length]; exact hil) (Nat.le_refl _)
        rw [keysOf_get hil] at h5
        exact h5 h4
  rw [hf]
  rfl

/-- What Get answers of what a plain row has. -/
def gotV (x : Option ByteArray) : Value := .tuple #[.string (x.getD ⟨#[]⟩), .bool x.isSome]

set_option maxRecDepth 100000 in
set_option maxHeartbeats 3200000 in
theorem get_gen (t : Nat) (key : ByteArray) (want : Option ByteArray) (w : World) (R : World → Prop) (hR : ∀ u v, R u → Turn [] u v → R v)
    (hL : Calls Tryz.prog 42 #[.pointer (some ⟨t, 0, none⟩), .string key] w fun e w' => ∃ v L, e = .returned v ∧ LeafFor w' key want v L ∧ R w') :
    Calls Tryz.prog 18 #[.pointer (some ⟨t, 0, none⟩), .string key] w fun e w' => e = .returned (gotV want) ∧ R w' := by
  have HL := hide hL
  have HR := hide hR
  clear hL hR
  go_enter Tryz.func18, Tryz.ntmps18
  go_wp2_with fail
  refine HL.out.mono ?_
  rintro e w1 ⟨v, L, rfl, hF, hr⟩
  obtain ⟨b, off, c, rfl, hK, hc⟩ := hF.ex
  have HF := hide (lfind_any (some ⟨b, off, none⟩) c L key hF.rises (by have := hF.len; omega) w1 hK)
  have HK := hide hK
  have HLf := hide hF
  have Hr := hide hr
  have hlen := hF.len
  clear hK hF hr hc HL
  go_wp2_with fail
  refine HF.out.mono ?_
  rintro e w2 ⟨i, f, rfl, hi, hf, hT⟩
  have Hr2 := hide (HR.out _ _ Hr.out hT)
  have HK2 := hide (HK.out.turn0 hT)
  have HI := hide hi
  have HFs := hide hf
  clear hi hf hT Hr HK
  cases f with
  | true =>
    obtain ⟨hil, hg⟩ := getK_stands HLf.out.rises (HFs.out.1 rfl)
    obtain ⟨b', off', e', _, hc2⟩ := HK2.out.at hil
    injection e' with e'
    injection e' with e1 e2
    subst e1 e2
    have HG := hide (hg.symm.trans HLf.out.get)
    clear hg
    generalize L[i].2 = x at *
    go_wp2_with fail
    go_ret2
    refine ⟨?_, Hr2.out⟩
    rw [← HG.out]
    rfl
  | false =>
    have HG := hide ((getK_none HLf.out.rises HI.out (fun h => by have := HFs.out.2 h; cases this)).symm.trans HLf.out.get)
    go_wp2_with fail
    go_ret2
    refine ⟨?_, Hr2.out⟩
    rw [← HG.out]
    rfl

end Go.Proofs.YthehkckdecckhaaGreatDoor
