/-
  take, walked: the node of a place that is the tree's no more, whatever it is.
  take, as a tree with its memory and what it drops has it.
  isShort, walked: whether a node is to be joined with its neighbour.
  placed, as a tree with its memory has it: one new place, or two.
  placed, where the node is longer than a page: both halves have places.
  join, whatever the nodes are: their entries behind one another in a new row.
  What settled works on: a branch of the tree's and a node that stands in one entry's stead.
  placed, of any node that is not empty.
  settled: what it joins, and what it works on behind that.
  settled: its calls, at the branch that it works on.
  settled: its node gets its places, and the branch is laid anew.
  Get, walked, on any tree.
-/
import Derived.Test.YthgpjkcgccdldaaGreatDoorV38
import Derived.Deep.RegionLawGrows
import Derived.Test.YthgpjkcgccdldaaGreatDoorV31
import Derived.Test.YthgpjkcgccdldaaGreatDoorV03

namespace Go.Proofs.YthgpjkcgccdldaaGreatDoor
open Go.RowKit Go.Maps

/-- An append to a row of the call's own, in a region that draws. -/
theorem step_append_own {P : Program} {ops : Array Oper} {o : Oper} {a : Act} {w : World} {K : Act → World → Prop} {Q : Exit → Act → World → Prop} {E : Prop}
    (hg : o.guard = none) (s x : Operand) (t : TypeId) (ho : o.op = .call { callee := .builtin .append, args := #[s, x], argTypes := #[t, t] })
    (base : Nat) (e : TypeId) (i : TypeInfo) (z : Value) (size bytes : Nat) (ht : P.underlying t = some (.slice e)) (hi : P.info? e = some i) (hz : i.zero = some z) (hsize : i.size = size) (hby : i.bytes = bytes) (hzs : z.cells.size = size) (hsz : 0 < size)
    (v : Value) (n : Nat) (xs : List Value) (hs : a.eval s = v) (hown : w.ownsRow base e size v n xs)
    (ad : Addr) (m c : Nat) (news : List Value) (hx : a.eval x = .slice (some ad) m c) (hl : news.length = m * size) (hnews : ∀ j u, news[j]? = some u → w.cell? (ad.add j) = some u) (h1 : ∀ u ∈ news, u.oneCell' = true)
    (h63 : n + m ≤ maxLen) (hbytes : (n + m) * bytes ≤ 140737488355328) (hbase : base ≤ w.heap.size)
    (hK : ∀ v' w', w'.ownsRow base e size v' (n + m) (xs ++ news) → w.grownBy w' v.ownBlock → (v'.ownBlock = v.ownBlock ∨ v'.ownBlock = some w.heap.size) → K (a.put o.dst v') w') :
    if Region.wanted o (yielded ops a.tmps) = true then Oper.wp P o a w K Q else E := by
  have hw : Region.wanted o (yielded ops a.tmps) = true := by simp [Region.wanted, hg]
  rw [if_pos hw]
  obtain ⟨v', w', hr, h2, h3, h4, h5⟩ := run_append_own_at (P := P) w base t o.type e i z size bytes ht hi hz hsize hby hzs hsz v n xs hown ad m c news hl hnews h1 h63 hbytes hbase
  unfold Oper.wp execOp
  simp only [ho, resolve, invoke, builtin, Sem.run_bind, Sem.run_pure, Result.andThen_ok, List.map_toArray, List.map_cons, List.map_nil, hs, hx, hr]
  exact hK _ _ h2 h3 h5

/-- Numbers of pages, as cells. -/
def pgV (l : List Nat) : List Value := l.map fun x => .int .i64 (x : Nat)
/-- The row of pages that are dropped. -/
def DropAt (w : World) (v : Value) (l : List Nat) : Prop := w.ownsRow 0 3 1 v l.length (pgV l)

set_option maxRecDepth 100000 in
set_option maxHeartbeats 4000000 in
theorem take_gen (t p a pg : Nat) (Dn S : Stt) (ds : List Nat) (w : World) (R : TypeId → Value → World → Prop) (hds : ds.length ≤ 100000) (hfr : S.fresh ≤ 100000 ∧ (pg = 0 → 1 ≤ S.fresh))
    (hN : Calls Tryz.prog 105 #[.pointer (some ⟨t, 0, none⟩), .pointer (some ⟨a, 0, none⟩)] w fun e w1 => ∃ T v, e = .returned (.iface T v) ∧ R T v w1 ∧ TreeAt w1 t p Dn S ∧ w1.cell? ⟨a, 0, none⟩ = some (.int .i64 (pg : Nat)) ∧ DropAt w1 S.dropped ds ∧ S.dropped.ownBlock ≠ some t) :
    Calls Tryz.prog 131 #[.pointer (some ⟨t, 0, none⟩), .pointer (some ⟨a, 0, none⟩)] w fun e w' => ∃ T v w1, e = .returned (.iface T v) ∧ R T v w1 ∧
      ((pg = 0 ∧ TreeAt w' t p Dn { S with fresh := S.fresh - 1 } ∧ DropAt w' S.dropped ds ∧ Turn [t] w1 w') ∨
       (pg ≠ 0 ∧ ∃ dv, TreeAt w' t p Dn { S with dropped := dv } ∧ DropAt w' dv (ds ++ [pg]) ∧ (dv.ownBlock = S.dropped.ownBlock ∨ ∃ g, dv.ownBlock = some g ∧ w1.heap.size ≤ g) ∧ ∃ X, Turn X w1 w' ∧ ∀ x ∈ X, x = t ∨ S.dropped.ownBlock = some x)) := by
  have HN := hide hN
  clear hN
  by_cases hpg : pg = 0
  · subst hpg
    have hf1 := hfr.2 rfl
    have hf2 := hfr.1
    clear hfr
    go_enter Tryz.func131, Tryz.ntmps131
    go_wp2_with fail
    refine HN.out.mono ?_
    rintro e w1 ⟨T, v, rfl, hR, hTr, h0, hD, hdt⟩
    have HR := hide hR
    have HTr := hide hTr
    have HD := hide hD
    have h9 := hTr.now.c3
    have f9 := hTr.fz 9
    have HDt := hide hdt
    clear hR hTr hD hdt HN
    go_wp2_with fail
    go_ret
    have hT2 := HTr.out.setFresh (S.fresh - 1)
    rw [show ((S.fresh - 1 : Nat) : Int) = (S.fresh : Int) - 1 by omega] at hT2
    have hTt : Turn [t] w1 (w1.setCell ⟨t, 9, none⟩ (.int .i64 ((S.fresh : Int) - 1))) := (Turn.refl [t] w1).setCell (List.mem_singleton.2 rfl) 9 _
    exact ⟨T, v, w1, rfl, HR.out, .inl ⟨(by first | trivial | rfl), hT2, own_turn HD.out hTt (fun g hg hm => HDt.out (by rw [hg, List.mem_singleton.1 hm])), hTt⟩⟩
  · have hpz : ((pg : Int) == 0) = false := by rw [beq_eq_false_iff_ne]; omega
    clear hfr
    go_enter Tryz.func131, Tryz.ntmps131
    go_wp2_with fail
    refine HN.out.mono ?_
    rintro e w1 ⟨T, v, rfl, hR, hTr, h0, hD, hdt⟩
    have HR := hide hR
    have HTr := hide hTr
    have h10 := hTr.now.c4
    have f10 := hTr.fz 10
    have htl := hTr.lt
    obtain ⟨da, dc, hdv⟩ := own_form hD
    rw [hdv] at h10
    have HD := hide hD
    have HDt := hide hdt
    have HDv := hide hdv
    clear hR hTr hD hdt HN hdv
    obtain ⟨i0, hi, hz0, hz1, hz2⟩ := info_parts info3
    have HD2 : Hid ((w1.alloc (.cells #[.int .i64 (pg : Nat)] 3)).drew.ownsRow 0 3 1 (.slice da ds.length dc) ds.length (pgV ds)) := by
      have h := own_turn HD.out (((Turn.refl [] w1).alloc (.cells #[.int .i64 (pg : Nat)] 3)).drew) (by simp)
      rw [HDv.out] at h
      exact h
    go_wp2_with fail
    go_region_law (refine step_append_own rfl (.tmp 14) (.tmp 19) 60 rfl 0 3 i0 (.int .i64 0) 1 8 Tryz.underlying60 hi hz0 hz1 hz2 rfl (by decide) (.slice da ds.length dc) ds.length (pgV ds) (by simp [Act.eval]) HD2.out ⟨w1.heap.size, 0, none⟩ 1 1 [.int .i64 (pg : Nat)] (by simp [Act.eval]) rfl (by exact one_src w1 _ _) (by simp [Value.oneCell']) (by unfold maxLen; omega) (by omega) (by omega) ?_; intro v' w6 h1 h2 h3; obtain ⟨av, cv, rfl⟩ := own_form h1; have hb6 : w6.heap[t]? = w1.heap[t]? := (h2.block t (by simp; omega) (fun e => HDt.out (by rw [HDv.out]; exact e.symm))).trans (((Turn.refl [] w1).alloc (.cells #[.int .i64 (pg : Nat)] 3)).block t htl (by simp)); have h106 := (World.cell?_of_block (a := ⟨t, 10, none⟩) hb6).trans h10; have f106 := (World.frozen?_of_block (a := ⟨t, 10, none⟩) hb6).trans f10; have Hb6 := hide hb6; have HR6 := hide h1; have HG6 := hide h2; have HB6 := hide h3; clear h1 h2 h3 hb6)
    all_goals
      go_wp2_with fail
      go_ret
      have hW : Turn [] w1 ((w1.alloc (.cells #[.int .i64 (pg : Nat)] 3)).drew) := ((Turn.refl [] w1).alloc _).drew
      have hTX : ∃ X, Turn X w1 w6 ∧ ∀ x ∈ X, S.dropped.ownBlock = some x := by
        rw [HDv.out]
        cases hb : (Value.slice da ds.length dc).ownBlock with
        | none => exact ⟨[], hW.grown HG6.out (by rw [hb]; intro k hk; cases hk), by simp⟩
        | some g => exact ⟨[g], (hW.mono (by simp)).grown HG6.out (by rw [hb]; intro k hk; cases hk; exact .inl (by simp)), fun x hx => by rw [List.mem_singleton.1 hx]⟩
      obtain ⟨X, hT6, hX⟩ := hTX
      have htX : t ∉ X := fun hm => HDt.out (hX t hm)
      have hTr6 := HTr.out.turn hT6 htX
      have hTs : Turn [t] w6 (w6.setCell ⟨t, 10, none⟩ (.slice av (ds.length + 1) cv)) := (Turn.refl [t] w6).setCell (List.mem_singleton.2 rfl) 10 _
      have hnt : ∀ g, (Value.slice av (ds.length + 1) cv).ownBlock = some g → g ∉ [t] := fun g hg hm => by
        have hgt := List.mem_singleton.1 hm
        rcases HB6.out with e | e
        · exact HDt.out (by rw [HDv.out, ← e, hg, hgt])
        · rw [hg] at e
          have h1 := Option.some.inj e
          simp at h1
          omega
      refine ⟨T, v, w1, rfl, HR.out, .inr ⟨(by first | trivial | exact hpg), .slice av (ds.length + 1) cv, hTr6.setDropped _, ?_, ?_, ⟨t :: X, (hT6.mono (by intro x hx; simp [hx])).trans (hTs.mono (by simp)), fun x hx => ?_⟩⟩⟩
      · have h := own_turn HR6.out hTs hnt
        unfold DropAt pgV
        rw [List.length_append, List.map_append]
        exact h
      · rcases HB6.out with e | e
        · exact .inl (by rw [HDv.out]; exact e)
        · exact .inr ⟨_, e, by simp⟩
      · rcases List.mem_cons.1 hx with hx | hx
        · exact .inl hx
        · exact .inr (hX x hx)

end Go.Proofs.YthgpjkcgccdldaaGreatDoor

namespace Go.Proofs.YthgpjkcgccdldaaGreatDoor
open Go.RowKit Go.Maps

/-- What a change of a tree makes of its memory. -/
structure TGo (t p : Nat) (w w' : World) (G G' : Gh) (Rw Rw' : Nat → Prop) (dv dv' : Value) : Prop where
  turn : ∃ X, Turn X w w' ∧ ∀ x ∈ X, x = t ∨ x = p ∨ G x ≠ none ∨ dv.ownBlock = some x
  newG : ∀ x, G' x ≠ none → G x ≠ none ∨ w.heap.size ≤ x
  newR : ∀ x, Rw' x → Rw x ∨ w.heap.size ≤ x
  oldR : ∀ x, Rw x → Rw' x
  newD : ∀ x, dv'.ownBlock = some x → dv.ownBlock = some x ∨ w.heap.size ≤ x
theorem TGo.size {t p : Nat} {w w' : World} {G G' : Gh} {Rw Rw' : Nat → Prop} {dv dv' : Value} (h : TGo t p w w' G G' Rw Rw' dv dv') : w.heap.size ≤ w'.heap.size := by
  obtain ⟨_, h, _⟩ := h.turn
  exact h.size
theorem TStep.go {t p : Nat} {w w' : World} {G G' : Gh} {Rw Rw' : Nat → Prop} (h : TStep p w w' G G' Rw Rw') (dv : Value) : TGo t p w w' G G' Rw Rw' dv dv := by
  obtain ⟨X, hT, hX⟩ := h.turn
  exact ⟨⟨X, hT, fun x hx => (hX x hx).elim (fun e => .inr (.inl e)) (fun e => .inr (.inr (.inl e)))⟩, h.newG, h.newR, h.oldR, fun _ h => .inl h⟩
theorem TGo.refl (t p : Nat) (w : World) (G : Gh) (Rw : Nat → Prop) (dv : Value) : TGo t p w w G G Rw Rw dv dv := (TStep.refl p w G Rw).go dv
theorem TGo.trans {t p : Nat} {u v w : World} {G G' G'' : Gh} {R R' R'' : Nat → Prop} {d d' d'' : Value} (h : TGo t p u v G G' R R' d d') (k : TGo t p v w G' G'' R' R'' d' d'') : TGo t p u w G G'' R R'' d d'' := by
  have hs := h.size
  refine ⟨?_, fun x hx => ?_, fun x hx => ?_, fun x hx => k.oldR x (h.oldR x hx), fun x hx => ?_⟩
  · obtain ⟨X, hX, h1⟩ := h.turn
    obtain ⟨Y, hY, k1⟩ := k.turn
    refine ⟨X ++ Y.filter (fun x => decide (x < u.heap.size)), (hX.mono (by intro x hx; simp [hx])).then hY (fun x hx => ?_), fun x hx => ?_⟩
    · by_cases hl : x < u.heap.size
      · exact .inl (List.mem_append_right _ (List.mem_filter.2 ⟨hx, by simpa using hl⟩))
      · exact .inr (Nat.le_of_not_lt hl)
    · rcases List.mem_append.1 hx with hx | hx
      · exact h1 x hx
      · obtain ⟨hy, hl⟩ := List.mem_filter.1 hx
        have hl' : x < u.heap.size := by simpa using hl
        rcases k1 x hy with e | e | hg | hd
        · exact .inl e
        · exact .inr (.inl e)
        · rcases h.newG x hg with hg | hg
          · exact .inr (.inr (.inl hg))
          · omega
        · rcases h.newD x hd with hd | hd
          · exact .inr (.inr (.inr hd))
          · omega
  · rcases k.newG x hx with hx | hx
    · exact h.newG x hx
    · exact .inr (Nat.le_trans hs hx)
  · rcases k.newR x hx with hx | hx
    · exact h.newR x hx
    · exact .inr (Nat.le_trans hs hx)
  · rcases k.newD x hx with hx | hx
    · exact h.newD x hx
    · exact .inr (Nat.le_trans hs hx)
theorem TGo.quiet {t p : Nat} {u w w' : World} {G G' : Gh} {Rw Rw' : Nat → Prop} {d d' : Value} (h : TGo t p u w G G' Rw Rw' d d') (hT : Turn [] w w') : TGo t p u w' G G' Rw Rw' d d' :=
  h.trans ⟨⟨[], hT, by simp⟩, fun _ h => .inl h, fun _ h => .inl h, fun _ h => h, fun _ h => .inl h⟩

/-- A tree with the pages that it drops. -/
structure TD (w : World) (O : Nat → Prop) (t p b m sm rb : Nat) (s : St) (q : Pg) (Dn S : Stt) (D : Dk) (G : Gh) (Rw : Nat → Prop) (ds : List Nat) : Prop where
  tm : TM w O t p b m sm rb s q Dn S D G Rw
  drop : DropAt w S.dropped ds
  far : ∀ g, S.dropped.ownBlock = some g → g ∉ [1, t, p, b, m, sm, rb] ∧ ¬ O g ∧ G g = none ∧ ¬ Rw g

/-- What is left of a state when a place of page pg was taken. -/
structure Took (pg : Nat) (S S' : Stt) (ds ds' : List Nat) : Prop where
  root : S'.root = S.root
  keys : S'.keys = S.keys
  changed : S'.changed = S.changed
  fresh : S'.fresh + (if pg = 0 then 1 else 0) = S.fresh
  drop : ds' = ds ++ (if pg = 0 then [] else [pg])

/-- The state's object turns, or rows that are nobody's. -/
theorem TM.state {X : List Nat} {w w' : World} {O : Nat → Prop} {t p b m sm rb : Nat} {s : St} {q : Pg} {Dn S S' : Stt} {D : Dk} {G : Gh} {Rw : Nat → Prop} (h : TM w O t p b m sm rb s q Dn S D G Rw) (hT : Turn X w w') (hX : ∀ x ∈ X, x = t ∨ x ∉ [1, t, p, b, m, sm, rb] ∧ G x = none ∧ ¬ Rw x) (hTr : TreeAt w' t p Dn S') : TM w' O t p b m sm rb s q Dn S' D G Rw := by
  have ht := h.off
  have hn : ∀ x ∈ [1, p, b, m, sm, rb], x ∉ X := fun x hx hm => by
    rcases hX x hm with rfl | h2
    · simp at hx
      rcases hx with e | e | e | e | e | e
      · exact ht.one e
      · exact ht.p e
      · exact ht.b e
      · exact ht.m e
      · exact ht.sm e
      · exact ht.rb e
    · refine h2.1 ?_
      simp at hx ⊢
      omega
  have hG : ∀ x ∈ X, G x = none ∧ ¬ Rw x := fun x hx => by
    rcases hX x hx with rfl | h2
    · refine ⟨?_, fun hr => (h.own x (.inr hr)).1 (by simp)⟩
      cases hg : G x with
      | none => rfl
      | some Q => exact absurd (by simp) (h.own x (.inl (by rw [hg]; simp))).1
    · exact h2.2
  exact ⟨h.pa.turn hT (hn 1 (by simp)) (hn p (by simp)) (hn b (by simp)) (hn m (by simp)) (hn sm (by simp)) (hn rb (by simp)), hTr, h.off, Nat.lt_of_lt_of_le h.rbl hT.size, h.sd, h.qd, h.mem.turn hT hG, h.dk, h.own, h.no, fun x hx => Nat.lt_of_lt_of_le (h.ob x hx) hT.size⟩

/-- Reading leaves the row of dropped pages. -/
theorem TD.read {w w' : World} {O : Nat → Prop} {t p b m sm rb : Nat} {s : St} {q q' : Pg} {Dn S : Stt} {D : Dk} {G G' : Gh} {Rw Rw' : Nat → Prop} {ds : List Nat} (h : TD w O t p b m sm rb s q Dn S D G Rw ds) (hM : TM w' O t p b m sm rb s q' Dn S D G' Rw') (hS : TStep p w w' G G' Rw Rw') : TD w' O t p b m sm rb s q' Dn S D G' Rw' ds := by
  refine ⟨hM, ?_, fun g hg => ?_⟩
  · obtain ⟨X, hT, hX⟩ := hS.turn
    refine own_turn h.drop hT (fun g hg hm => ?_)
    obtain ⟨h1, _, h3, _⟩ := h.far g hg
    rcases hX g hm with rfl | h4
    · exact h1 (by simp)
    · exact h4 h3
  · obtain ⟨h1, h2, h3, h4⟩ := h.far g hg
    have hl := (h.drop.lt g hg).2
    refine ⟨h1, h2, ?_, fun hr => ?_⟩
    · cases hg' : G' g with
      | none => rfl
      | some Q =>
        rcases hS.newG g (by rw [hg']; simp) with h5 | h5
        · exact absurd h3 h5
        · omega
    · rcases hS.newR g hr with h5 | h5
      · exact h4 h5
      · omega

/-- take. -/
theorem tm_take {w : World} {O : Nat → Prop} {t p b m sm rb : Nat} {s : St} {q : Pg} {Dn S : Stt} {D : Dk} {G : Gh} {Rw : Nat → Prop} {ds : List Nat} (h : TD w O t p b m sm rb s q Dn S D G Rw ds) {a hh : Nat} {l : List (En hh)} (hm : Means G D hh a l) {P : Pl} (hP : G a = some P) (hds : ds.length ≤ 100000) (hfr : S.fresh ≤ 100000 ∧ (P.pg = 0 → 1 ≤ S.fresh)) :
    Calls Tryz.prog 131 #[.pointer (some ⟨t, 0, none⟩), .pointer (some ⟨a, 0, none⟩)] w fun e w' => ∃ T v nd G' Rw' r S' ds', e = .returned (.iface T v) ∧ NdAt w' Rw' G' (hh + 1) nd T v ∧ NodeIs G' D hh nd l ∧ TD w' O t p b m sm rb s { q with rd := r } Dn S' D G' Rw' ds' ∧ Grown D G G' ∧ TGo t p w w' G G' Rw Rw' S.dropped S'.dropped ∧ Took P.pg S S' ds ds' := by
  refine (take_gen t p a P.pg Dn S ds w (fun T v w1 => ∃ nd G' Rw' r, NdAt w1 Rw' G' (hh + 1) nd T v ∧ NodeIs G' D hh nd l ∧ TD w1 O t p b m sm rb s { q with rd := r } Dn S D G' Rw' ds ∧ Grown D G G' ∧ TStep p w w1 G G' Rw Rw') hds hfr ?_).mono ?_
  · refine (tm_node h.tm hm).mono ?_
    rintro e w1 ⟨T, v, nd, G', Rw', r, rfl, hN, hNode, hTM, hGr, hS⟩
    have hTD := h.read hTM hS
    obtain ⟨P', hP', hpg, hlv, _⟩ := hGr.at_ a P hP
    have hc : w1.cell? ⟨a, 0, none⟩ = some (.int .i64 (P.pg : Nat)) := by
      have := hTM.mem.at_ a P' hP'
      unfold PlOk at this
      rw [← hpg]
      split at this
      · exact this.c0
      · obtain ⟨_, _, _, _, hp, _⟩ := this
        exact hp.c0
    exact ⟨T, v, rfl, ⟨nd, G', Rw', r, hN, hNode, hTD, hGr, hS⟩, hTM.tr, hc, hTD.drop, fun e => (hTD.far t e).1 (by simp)⟩
  · rintro e w' ⟨T, v, w1, rfl, ⟨nd, G', Rw', r, hN, hNode, hTD, hGr, hS⟩, hcase⟩
    have hrow : ∀ X : List Nat, (∀ x ∈ X, x = t ∨ S.dropped.ownBlock = some x) → ∀ x ∈ X, x = t ∨ x ∉ [1, t, p, b, m, sm, rb] ∧ G' x = none ∧ ¬ Rw' x := fun X hX x hx => by
      rcases hX x hx with e | e
      · exact .inl e
      · obtain ⟨h1, _, h3, h4⟩ := hTD.far x e
        exact .inr ⟨h1, h3, h4⟩
    have hkeepN : ∀ X, Turn X w1 w' → (∀ x ∈ X, x = t ∨ S.dropped.ownBlock = some x) → NdAt w' Rw' G' (hh + 1) nd T v := fun X hT hX => hN.keep (fun b hr => hT.block b (hTD.tm.mem.rows b hr) (fun hm => by
      rcases hrow X hX b hm with rfl | h2
      · exact (hTD.tm.own b (.inr hr)).1 (by simp)
      · exact h2.2.2 hr)) (fun _ h => h) (fun _ Q hQ => ⟨Q, hQ, rfl⟩)
    rcases hcase with ⟨h0, hTr, hD, hT⟩ | ⟨h0, dv, hTr, hD, hdv, X, hT, hX⟩
    · have hX : ∀ x ∈ [t], x = t ∨ S.dropped.ownBlock = some x := fun x hx => .inl (List.mem_singleton.1 hx)
      refine ⟨T, v, nd, G', Rw', r, _, ds, rfl, hkeepN _ hT hX, hNode, ⟨hTD.tm.state hT (hrow _ hX) hTr, hD, hTD.far⟩, hGr, (hS.go S.dropped).trans ⟨⟨[t], hT, fun x hx => .inl (List.mem_singleton.1 hx)⟩, fun _ h => .inl h, fun _ h => .inl h, fun _ h => h, fun _ h => .inl h⟩, ⟨rfl, rfl, rfl, ?_, by rw [if_pos h0, List.append_nil]⟩⟩
      rw [if_pos h0]
      have := hfr.2 h0
      show S.fresh - 1 + 1 = S.fresh
      omega
    · have hnew : ∀ g, dv.ownBlock = some g → S.dropped.ownBlock = some g ∨ w1.heap.size ≤ g := fun g hg => by
        rcases hdv with e | ⟨g', e, hl⟩
        · exact .inl (e ▸ hg)
        · rw [hg] at e
          have := Option.some.inj e
          exact .inr (by omega)
      refine ⟨T, v, nd, G', Rw', r, _, ds ++ [P.pg], rfl, hkeepN _ hT hX, hNode, ⟨hTD.tm.state hT (hrow _ hX) hTr, hD, fun g hg => ?_⟩, hGr, (hS.go S.dropped).trans ⟨⟨X, hT, fun x hx => (hX x hx).elim .inl (fun e => .inr (.inr (.inr e)))⟩, fun _ h => .inl h, fun _ h => .inl h, fun _ h => h, hnew⟩, ⟨rfl, rfl, rfl, by rw [if_neg h0]; rfl, by rw [if_neg h0]⟩⟩
      rcases hnew g hg with e | hl
      · exact hTD.far g e
      · refine ⟨fun hm => by have := hTD.tm.lts g hm; omega, fun ho => by have := hTD.tm.ob g ho; omega, ?_, fun hr => by have := hTD.tm.mem.rows g hr; omega⟩
        cases hg' : G' g with
        | none => rfl
        | some Q => have := hTD.tm.mem.lt (a := g) (by rw [hg']; simp); omega

end Go.Proofs.YthgpjkcgccdldaaGreatDoor

namespace Go.Proofs.YthgpjkcgccdldaaGreatDoor
open Go.RowKit Go.Maps

/-- A node in memory, wherever its row lies. -/
def NdV (w : World) : Nd → TypeId → Value → Prop
  | .inl l, T, v => T = 137 ∧ ∃ a c, v = .slice a l.length c ∧ KVsAt w a l ∧ (a = none → c = 0) ∧ l.length ≤ c ∧ c ≤ 9223372036854775807
  | .inr ks, T, v => T = 170 ∧ ∃ a c, v = .slice a ks.length c ∧ KidsAt w a ks ∧ (a = none → c = 0) ∧ ks.length ≤ c ∧ c ≤ 9223372036854775807
theorem NdAt.v {w : World} {Rw : Nat → Prop} {G : Gh} {lvl : Nat} {nd : Nd} {T : TypeId} {v : Value} (h : NdAt w Rw G lvl nd T v) : NdV w nd T v := by
  cases nd with
  | inl l =>
    obtain ⟨_, h2, b, off, c, h3, h4, h5, _⟩ := h
    exact ⟨h2, _, c, h3, h4, by simp, h5.1, h5.2⟩
  | inr ks =>
    obtain ⟨_, h2, b, off, c, h3, h4, h5, _⟩ := h
    exact ⟨h2, _, c, h3, h4, by simp, h5.1, h5.2⟩

/-- How many bytes a node's entries have. -/
def sizeNd : Nd → Nat
  | .inl l => sumN (lsizes l)
  | .inr ks => sumN (bsizes ks)
/-- A node is not too long to be reckoned with. -/
def FineNd : Nd → Prop
  | .inl l => l.length ≤ 1000 ∧ (∀ x ∈ l, x.1.size ≤ 1000 ∧ x.2.size ≤ 1000) ∧ sumN (lsizes l) ≤ 1000000
  | .inr ks => ks.length ≤ 1000 ∧ (∀ x ∈ ks, x.1.size ≤ 1000) ∧ sumN (bsizes ks) ≤ 1000000

theorem size_nd {w : World} {nd : Nd} {T : TypeId} {v : Value} (h : NdV w nd T v) (hf : FineNd nd) : Calls Tryz.prog 192 #[.iface T v] w fun e w' => e = .returned (.int .i64 (sizeNd nd : Nat)) ∧ Turn [] w w' := by
  cases nd with
  | inl l =>
    obtain ⟨rfl, a, c, rfl, hK, _⟩ := h
    exact lsize_any a c l hf.1 hf.2.1 hf.2.2 w hK
  | inr ks =>
    obtain ⟨rfl, a, c, rfl, hK, _⟩ := h
    exact bsize_any a c ks hf.1 hf.2.1 hf.2.2 w hK

/-- A node that comes to entries is as long as they are. -/
theorem size_is {G : Gh} {D : Dk} {h : Nat} {nd : Nd} {l : List (En h)} (hn : NodeIs G D h nd l) : sizeNd nd = sizeN l := by
  cases h with
  | zero =>
    obtain rfl : nd = .inl l := hn
    exact lsize_sizeN l
  | succ h =>
    obtain ⟨ks, rfl, hb⟩ := hn
    show sumN (bsizes ks) = _
    rw [sumN_eq, ← kid_sizeN l]
    unfold bsizes
    have e1 : (ks.map kidSize) = (lowsOf ks).map (fun x => 5 + x.size) := by
      unfold lowsOf
      rw [List.map_map]
      rfl
    have e2 : (l.map lowPg).map kidSize = (l.map En.key).map (fun x => 5 + x.size) := by
      rw [List.map_map, List.map_map]
      rfl
    rw [e1, e2, both_lows hb]
theorem fine_is {G : Gh} {D : Dk} {h : Nat} {nd : Nd} {l : List (En h)} (hn : NodeIs G D h nd l) (hf : ∀ e ∈ l, FullE e) (hz : sizeN l ≤ 1900) : FineNd nd := by
  have hs := size_is hn
  have hl := len_size l
  cases h with
  | zero =>
    obtain rfl : nd = .inl l := hn
    refine ⟨(show List.length (α := En 0) l ≤ 1000 by omega), fun x hx => ?_, ?_⟩
    · have h1 := FullE.key (hf x hx)
      have h2 := FullE.size (hf x hx)
      have h3 := boundN_le 0
      have h4 : En.size (h := 0) x = 2 + x.1.size + x.2.size := rfl
      have h5 : En.key (h := 0) x = x.1 := rfl
      rw [h5] at h1
      exact ⟨by omega, by omega⟩
    · have : sumN (lsizes l) = sizeN l := hs
      omega
  | succ h =>
    obtain ⟨ks, rfl, hb⟩ := hn
    have hlen := hb.length
    refine ⟨by omega, fun x hx => ?_, ?_⟩
    · obtain ⟨e, he, hk⟩ := hb.left x hx
      have h1 := FullE.key (hf e he)
      rw [← hk.1] at h1
      omega
    · have : sumN (bsizes ks) = sizeN l := hs
      omega

/-- A tree behind calls that only read. -/
structure TRd (w w' : World) (O : Nat → Prop) (t p b m sm rb : Nat) (s : St) (q : Pg) (Dn S : Stt) (D : Dk) (G : Gh) (Rw : Nat → Prop) : Prop where
  ex : ∃ G' Rw' r, TM w' O t p b m sm rb s { q with rd := r } Dn S D G' Rw' ∧ Grown D G G' ∧ TStep p w w' G G' Rw Rw'

set_option maxRecDepth 100000 in
set_option maxHeartbeats 3200000 in
theorem tm_short {w : World} {O : Nat → Prop} {t p b m sm rb : Nat} {s : St} {q : Pg} {Dn S : Stt} {D : Dk} {G : Gh} {Rw : Nat → Prop} (h : TM w O t p b m sm rb s q Dn S D G Rw) {hh : Nat} {nd : Nd} {T : TypeId} {v : Value} {n : List (En hh)} (hv : NdV w nd T v) (hn : sizeNd nd = sizeN n) (hf : FineNd nd) {a : Nat} {lb : List (En hh)} (hm : Means G D hh a lb) (hfb : ∀ e ∈ lb, FullE e) (hzb : sizeN lb ≤ 495) (hzn : sizeN n ≤ 1900) :
    Calls Tryz.prog 158 #[.pointer (some ⟨t, 0, none⟩), .iface T v, .pointer (some ⟨a, 0, none⟩)] w fun e w' => e = .returned (.bool (shortN n lb)) ∧ TRd w w' O t p b m sm rb s q Dn S D G Rw := by
  have HS := hide (size_nd hv hf)
  rw [hn] at HS
  have HQ : Hid (∀ w1, Turn [] w w1 → Calls Tryz.prog 105 #[.pointer (some ⟨t, 0, none⟩), .pointer (some ⟨a, 0, none⟩)] w1 fun e w' => ∃ T v nd G' Rw' r, e = .returned (.iface T v) ∧ NdV w' nd T v ∧ sizeNd nd = sizeN lb ∧ FineNd nd ∧ TM w' O t p b m sm rb s { q with rd := r } Dn S D G' Rw' ∧ Grown D G G' ∧ TStep p w w' G G' Rw Rw') := fun w1 hT => by
    refine (tm_node (h.quiet hT) hm).mono ?_
    rintro e w' ⟨T, v, nd, G', Rw', r, rfl, hN, hNode, hTM, hGr, hS⟩
    exact ⟨T, v, nd, G', Rw', r, rfl, hN.v, size_is hNode, fine_is hNode hfb (by omega), hTM, hGr, ((TStep.refl p w G Rw).quiet hT).trans hS⟩
  have HM := hide h
  have HSh : Hid (shortN n lb = (decide (sizeN n < 123) || (decide (sizeN n < 247) && decide (sizeN n + sizeN lb ≤ 495)))) := rfl
  clear hv hn hf hm hfb h
  generalize shortN n lb = X at *
  generalize sizeN n = A at *
  generalize sizeN lb = B at *
  by_cases h1 : A < 123
  · go_enter Tryz.func158, Tryz.ntmps158
    go_wp2_with fail
    refine HS.out.mono ?_
    rintro e w1 ⟨rfl, hT⟩
    have HT := hide hT
    clear hT
    go_wp2_with fail
    go_ret
    refine ⟨?_, ⟨G, Rw, q.rd, HM.out.quiet HT.out, Grown.refl _ _, (TStep.refl _ _ _ _).quiet HT.out⟩⟩
    rw [HSh.out]
    simp [h1]
  · by_cases h2 : A < 247
    · go_enter Tryz.func158, Tryz.ntmps158
      go_wp2_with fail
      refine HS.out.mono ?_
      rintro e w1 ⟨rfl, hT⟩
      have HN := hide (HQ.out w1 hT)
      clear hT HS HQ
      go_wp2_with fail
      refine HN.out.mono ?_
      rintro e w2 ⟨T2, v2, nd2, G', Rw', r, rfl, hv2, hs2, hf2, hTM, hGr, hS⟩
      have HS2 := hide (size_nd hv2 hf2)
      rw [hs2] at HS2
      have HTM := hide hTM
      have HGr := hide hGr
      have HSt := hide hS
      clear hv2 hs2 hf2 hTM hGr hS HN
      go_wp2_with fail
      refine HS2.out.mono ?_
      rintro e w3 ⟨rfl, hT3⟩
      have HT3 := hide hT3
      clear hT3
      go_wp2_with fail
      go_ret
      refine ⟨?_, ⟨G', Rw', r, HTM.out.quiet HT3.out, HGr.out, HSt.out.quiet HT3.out⟩⟩
      rw [HSh.out]
      simp [h1, h2]
      omega
    · go_enter Tryz.func158, Tryz.ntmps158
      go_wp2_with fail
      refine HS.out.mono ?_
      rintro e w1 ⟨rfl, hT⟩
      have HT := hide hT
      clear hT
      go_wp2_with fail
      go_ret
      refine ⟨?_, ⟨G, Rw, q.rd, HM.out.quiet HT.out, Grown.refl _ _, (TStep.refl _ _ _ _).quiet HT.out⟩⟩
      rw [HSh.out]
      simp [h1, h2]

end Go.Proofs.YthgpjkcgccdldaaGreatDoor

namespace Go.Proofs.YthgpjkcgccdldaaGreatDoor
open Go.RowKit Go.Maps

/-- A node's row lies in bb, which may become a row of the tree's. -/
def NdIn (w : World) (bb : Nat) : Nd → TypeId → Value → Prop
  | .inl l, T, v => T = 137 ∧ 0 < l.length ∧ ∃ off c, v = .slice (some ⟨bb, off, none⟩) l.length c ∧ KVsAt w (some ⟨bb, off, none⟩) l ∧ l.length ≤ c ∧ c ≤ 9223372036854775807
  | .inr ks, T, v => T = 170 ∧ 0 < ks.length ∧ ∃ off c, v = .slice (some ⟨bb, off, none⟩) ks.length c ∧ KidsAt w (some ⟨bb, off, none⟩) ks ∧ ks.length ≤ c ∧ c ≤ 9223372036854775807
/-- A block that may become a row of the tree's. -/
def Able (O : Nat → Prop) (t p b m sm rb : Nat) (G : Gh) (Rw : Nat → Prop) (dv : Value) (x : Nat) : Prop := Rw x ∨ (x ∉ [1, t, p, b, m, sm, rb] ∧ ¬ O x ∧ G x = none ∧ dv.ownBlock ≠ some x)

theorem NdIn.lt {w : World} {bb : Nat} {nd : Nd} {T : TypeId} {v : Value} (h : NdIn w bb nd T v) : bb < w.heap.size := by
  cases nd with
  | inl l =>
    obtain ⟨_, h0, off, c, _, hK, _⟩ := h
    exact hK.lt ⟨bb, off, none⟩ (List.length_pos_iff.1 h0) rfl
  | inr ks =>
    obtain ⟨_, h0, off, c, _, hK, _⟩ := h
    exact hK.lt ⟨bb, off, none⟩ (List.length_pos_iff.1 h0) rfl

/-- New places: each comes to an entry of a new row; the node's row in bb becomes the tree's. -/
structure NewPl (w : World) (O : Nat → Prop) (t p b m sm rb : Nat) (s : St) (q : Pg) (Dn S : Stt) (D : Dk) (G : Gh) (Rw : Nat → Prop) (ds : List Nat) (bb hh : Nat) (r : List (En (hh + 1))) (w' : World) (e : Value) : Prop where
  ex : ∃ G' ks g, e = .slice (some ⟨g, 0, none⟩) ks.length ks.length ∧ w.heap.size ≤ g ∧ KidsAt w' (some ⟨g, 0, none⟩) ks ∧ Both (KidIs G' (Means G' D hh)) ks r ∧ TD w' O t p b m sm rb s q Dn { S with fresh := S.fresh + r.length } D G' (fun y => Rw y ∨ y = bb) ds ∧ Grown D G G' ∧ Turn [t] w w' ∧ (∀ x, G' x ≠ none → G x ≠ none ∨ w.heap.size ≤ x) ∧ G' g = none ∧ (∀ k ∈ ks, ∃ Q, G' k.2 = some Q ∧ Q.lvl = hh + 1)

def addPl (G : Gh) (lvl : Nat) : List (Nat × Nd) → Gh
  | [] => G
  | x :: A => (addPl G lvl A).add x.1 ⟨0, lvl, some x.2⟩
theorem addPl_at {G : Gh} {lvl : Nat} : {A : List (Nat × Nd)} → (A.map Prod.fst).Nodup → ∀ x ∈ A, addPl G lvl A x.1 = some ⟨0, lvl, some x.2⟩
  | y :: A, hn, x, hx => by
    have hn' := List.nodup_cons.1 hn
    unfold addPl
    rcases List.mem_cons.1 hx with rfl | hx
    · exact Gh.add_same _ _ _
    · rw [Gh.add_other _ _ (fun e => hn'.1 (List.mem_map.2 ⟨x, hx, e⟩))]
      exact addPl_at hn'.2 x hx
  | [], _, _, hx => absurd hx (by simp)
theorem addPl_other {G : Gh} {lvl x : Nat} : {A : List (Nat × Nd)} → (∀ y ∈ A, y.1 ≠ x) → addPl G lvl A x = G x
  | [], _ => rfl
  | y :: A, h => by
    unfold addPl
    rw [Gh.add_other _ _ (Ne.symm (h y (List.mem_cons_self ..)))]
    exact addPl_other fun z hz => h z (List.mem_cons_of_mem _ hz)

/-- New places in memory. -/
theorem tm_places {w w' : World} {O : Nat → Prop} {t p b m sm rb : Nat} {s : St} {q : Pg} {Dn S S' : Stt} {D : Dk} {G : Gh} {Rw : Nat → Prop} {ds : List Nat} (h : TD w O t p b m sm rb s q Dn S D G Rw ds) (hd : S'.dropped = S.dropped) (hTr : TreeAt w' t p Dn S') (hT : Turn [t] w w') {bb : Nat} (hbb : bb < w.heap.size) (hab : Able O t p b m sm rb G Rw S.dropped bb) (A : List (Nat × Nd)) (lvl : Nat) (hA : ∀ x ∈ A, w.heap.size ≤ x.1) (hnd : (A.map Prod.fst).Nodup)
    (hP : ∀ x ∈ A, ∃ T v, PlaceAt w' x.1 0 lvl 0 (.iface T v) ∧ ∀ G', (∀ a Q, G a = some Q → ∃ Q', G' a = some Q' ∧ Q'.lvl = Q.lvl) → NdAt w' (fun y => Rw y ∨ y = bb) G' lvl x.2 T v) :
    ∃ G', (∀ x ∈ A, G' x.1 = some ⟨0, lvl, some x.2⟩) ∧ (∀ x, x < w.heap.size → G' x = G x) ∧ (∀ x, G' x ≠ none → G x ≠ none ∨ ∃ y ∈ A, y.1 = x) ∧ Grown D G G' ∧ TD w' O t p b m sm rb s q Dn S' D G' (fun y => Rw y ∨ y = bb) ds := by
  have hlts := h.tm.lts
  have hsz := hT.size
  have hbase := h.tm.state hT (fun x hx => .inl (List.mem_singleton.1 hx)) hTr
  have hnew : ∀ x ∈ A, G x.1 = none := fun x hx => by
    cases hg : G x.1 with
    | none => rfl
    | some Q => have := h.tm.mem.lt (a := x.1) (by rw [hg]; simp); have := hA x hx; omega
  have hold : ∀ x, x < w.heap.size → addPl G lvl A x = G x := fun x hx => addPl_other fun y hy e => by have := hA y hy; omega
  have hsome : ∀ x, addPl G lvl A x ≠ none → G x ≠ none ∨ ∃ y ∈ A, y.1 = x := fun x hx => by
    by_cases hy : ∃ y ∈ A, y.1 = x
    · exact .inr hy
    · refine .inl ?_
      rw [addPl_other (fun y h1 e => hy ⟨y, h1, e⟩)] at hx
      exact hx
  have hlvl : ∀ a Q, G a = some Q → ∃ Q', addPl G lvl A a = some Q' ∧ Q'.lvl = Q.lvl := fun a Q hQ => ⟨Q, (hold a (h.tm.mem.at_ a Q hQ).lt).trans hQ, rfl⟩
  have hGb : G bb = none := by
    rcases hab with hr | hr
    · exact h.tm.mem.apart bb hr
    · exact hr.2.2.1
  have hbn : bb ∉ [1, t, p, b, m, sm, rb] ∧ ¬ O bb := by
    rcases hab with hr | hr
    · exact h.tm.own bb (.inr hr)
    · exact ⟨hr.1, hr.2.1⟩
  refine ⟨addPl G lvl A, addPl_at hnd, hold, hsome, ⟨fun a P hP => ⟨P, (hold a (h.tm.mem.at_ a P hP).lt).trans hP, rfl, rfl, fun _ h => h, fun _ _ _ hn _ _ he => by rw [hn] at he; cases he⟩⟩, ⟨⟨hbase.pa, hbase.tr, hbase.off, hbase.rbl, hbase.sd, hbase.qd, ⟨fun a P hP' => ?_, fun x hx => ?_, fun x hx => ?_⟩, hbase.dk, fun x hx => ?_, hbase.no, hbase.ob⟩, ?_, fun g hg => ?_⟩⟩
  · by_cases hy : ∃ y ∈ A, y.1 = a
    · obtain ⟨y, hy, rfl⟩ := hy
      rw [addPl_at hnd y hy] at hP'
      obtain rfl := Option.some.inj hP'
      obtain ⟨T, v, h1, h2⟩ := hP y hy
      exact ⟨0, T, v, .inl rfl, h1, h2 _ hlvl⟩
    · rw [addPl_other (fun y h1 e => hy ⟨y, h1, e⟩)] at hP'
      exact (hbase.mem.at_ a P hP').keep rfl (fun _ _ => rfl) (fun _ h => .inl h) hlvl
  · rcases hx with hx | rfl
    · rw [hold x (h.tm.mem.rows x hx)]
      exact h.tm.mem.apart x hx
    · rw [hold x hbb]
      exact hGb
  · rcases hx with hx | rfl
    · exact hbase.mem.rows x hx
    · omega
  · rcases hx with hx | hx | rfl
    · rcases hsome x hx with hx | ⟨y, hy, rfl⟩
      · exact h.tm.own x (.inl hx)
      · have := hA y hy
        exact ⟨fun hm => by have := hlts _ hm; omega, fun ho => by have := h.tm.ob _ ho; omega⟩
    · exact h.tm.own x (.inr hx)
    · exact hbn
  · rw [hd]
    refine own_turn h.drop hT (fun g hg hm => ?_)
    rw [List.mem_singleton.1 hm] at hg
    exact (h.far t hg).1 (by simp)
  · rw [hd] at hg
    obtain ⟨h1, h2, h3, h4⟩ := h.far g hg
    have hgl := (h.drop.lt g hg).2
    refine ⟨h1, h2, (hold g hgl).trans h3, fun hx => ?_⟩
    rcases hx with hx | rfl
    · exact h4 hx
    · rcases hab with hr | hr
      · exact h4 hr
      · exact hr.2.2.2 hg

/-- A row of kids is no place. -/
theorem kid_ne {w : World} {a g pg lvl : Nat} {d : Int} {v : Value} {k : ByteArray × Nat} {ks : List (ByteArray × Nat)} (hK : KidsAt w (some ⟨g, 0, none⟩) (k :: ks)) (hP : PlaceAt w a pg lvl d v) : a ≠ g := by
  rintro rfl
  obtain ⟨b', off', e, h0, _⟩ := hK.at (i := 0) (by simp)
  injection e with e
  injection e with e1 e2
  subst e1 e2
  have := hP.c0
  simp only [Nat.zero_mul, Nat.add_zero] at h0
  rw [h0] at this
  cases this
theorem placedN_one {h : Nat} {n : List (En h)} {lo : ByteArray} (hz : sizeN n ≤ 495) : placedN n lo = [mkE lo 0 n] := if_pos hz

/-- placed, where the node fits in a page. -/
theorem tm_placed_one {w : World} {O : Nat → Prop} {t p b m sm rb : Nat} {s : St} {q : Pg} {Dn S : Stt} {D : Dk} {G : Gh} {Rw : Nat → Prop} {ds : List Nat} (h : TD w O t p b m sm rb s q Dn S D G Rw ds) {hh bb : Nat} {nd : Nd} {T : TypeId} {v : Value} {n : List (En hh)} (hin : NdIn w bb nd T v) (hn : NodeIs G D hh nd n) (hf : FineNd nd) (hz : sizeN n ≤ 495) (hab : Able O t p b m sm rb G Rw S.dropped bb) (hfr : S.fresh ≤ 100000) (hkl : ∀ ks, nd = .inr ks → ∀ k ∈ ks, ∃ Q, G k.2 = some Q ∧ Q.lvl + 1 = hh + 1) (low : ByteArray) :
    Calls Tryz.prog 129 #[.pointer (some ⟨t, 0, none⟩), .iface T v, .int .i64 ((hh + 1 : Nat) : Int), .string low] w fun e w' => ∃ v', e = .returned v' ∧ NewPl w O t p b m sm rb s q Dn S D G Rw ds bb hh (placedN n low) w' v' := by
  have hbl := hin.lt
  have hgN : ∀ g, w.heap.size ≤ g → G g = none := fun g hg => by
    cases hg' : G g with
    | none => rfl
    | some Q => have := h.tm.mem.lt (a := g) (by rw [hg']; simp); omega
  have hfin : ∀ (w' : World) (a g : Nat), w.heap.size ≤ a → w.heap.size ≤ g → a ≠ g → KidsAt w' (some ⟨g, 0, none⟩) [(low, a)] → PlaceAt w' a 0 (hh + 1) 0 (.iface T v) → TreeAt w' t p Dn { S with fresh := S.fresh + 1 } → Turn [t] w w' → NewPl w O t p b m sm rb s q Dn S D G Rw ds bb hh (placedN n low) w' (.slice (some ⟨g, 0, none⟩) 1 1) := fun w' a g ha hg hag hK hP hTr hT => by
    have hrow : w'.heap[bb]? = w.heap[bb]? := hT.block bb hbl (by
      simp
      rintro rfl
      rcases hab with hr | hr
      · exact (h.tm.own _ (.inr hr)).1 (by simp)
      · exact hr.1 (by simp))
    obtain ⟨G', h1, h2, h3, h4, h5⟩ := tm_places h (S' := { S with fresh := S.fresh + 1 }) rfl hTr hT hbl hab [(a, nd)] (hh + 1) (fun x hx => by rw [List.mem_singleton.1 hx]; exact ha) (by simp) (fun x hx => by
      rw [List.mem_singleton.1 hx]
      refine ⟨T, v, hP, fun G' hG' => ?_⟩
      cases hh with
      | zero =>
        obtain rfl : nd = .inl n := hn
        obtain ⟨rfl, h0, off, c, rfl, hK, hc⟩ := hin
        refine ⟨rfl, rfl, bb, off, c, rfl, ?_, hc, .inr rfl⟩
        rcases hK with hK | ⟨b', off', e, hc⟩
        · exact .inl hK
        · obtain ⟨rfl, rfl⟩ : bb = b' ∧ off = off' := by injection e with e; injection e with e1 e2; exact ⟨e1, e2⟩
          exact .inr ⟨bb, off, rfl, fun i hi => ⟨(World.cell?_of_block (a := ⟨bb, off + i * 2, none⟩) hrow).trans (hc i hi).1, (World.cell?_of_block (a := ⟨bb, off + i * 2 + 1, none⟩) hrow).trans (hc i hi).2⟩⟩
      | succ hh =>
        obtain ⟨ks, rfl, hb⟩ := hn
        obtain ⟨rfl, h0, off, c, rfl, hK, hc⟩ := hin
        refine ⟨by omega, rfl, bb, off, c, rfl, ?_, hc, .inr rfl, fun k hk => ?_⟩
        · rcases hK with hK | ⟨b', off', e, hc⟩
          · exact .inl hK
          · obtain ⟨rfl, rfl⟩ : bb = b' ∧ off = off' := by injection e with e; injection e with e1 e2; exact ⟨e1, e2⟩
            exact .inr ⟨bb, off, rfl, fun i hi => ⟨(World.cell?_of_block (a := ⟨bb, off + i * 2, none⟩) hrow).trans (hc i hi).1, (World.cell?_of_block (a := ⟨bb, off + i * 2 + 1, none⟩) hrow).trans (hc i hi).2⟩⟩
        · obtain ⟨Q, hQ, hl⟩ := hkl ks rfl k hk
          obtain ⟨Q', hQ', hl'⟩ := hG' _ Q hQ
          exact ⟨Q', hQ', by omega⟩)
    have hGa := h1 (a, nd) (by simp)
    rw [placedN_one hz]
    refine ⟨G', [(low, a)], g, rfl, hg, hK, ⟨⟨rfl, ⟨_, hGa, rfl⟩, Means.of _ hGa rfl (fun e => absurd rfl e) (fun e => by cases e) (fun nd' e => ?_)⟩, trivial⟩, h5, h4, hT, fun x hx => ?_, ?_, fun k hk => ?_⟩
    · obtain rfl : nd = nd' := Option.some.inj e
      exact hn.grown h4
    · rcases h3 x hx with hx | ⟨y, hy, rfl⟩
      · exact .inl hx
      · rw [List.mem_singleton.1 hy]
        exact .inr ha
    · cases hg' : G' g with
      | none => rfl
      | some Q =>
        rcases h3 g (by rw [hg']; simp) with hx | ⟨y, hy, e⟩
        · exact absurd (hgN g hg) hx
        · rw [List.mem_singleton.1 hy] at e
          exact absurd e hag
    · rw [List.mem_singleton.1 hk]
      exact ⟨_, hGa, rfl⟩
  have hs := size_is hn
  cases hh with
  | zero =>
    obtain rfl : nd = .inl n := hn
    obtain ⟨hT0, h0, off, c, hv, hK, hc⟩ := hin
    subst hT0 hv
    have hs' : sumN (lsizes n) = sizeN n := hs
    refine (lplaced_one t p Dn S bb off c n 1 low hfr hf.1 hf.2.1 (by omega) w h.tm.tr hK).mono ?_
    rintro e w' ⟨a, g, rfl, ha, hg, hKd, hP, hTr, hT⟩
    exact ⟨_, rfl, hfin w' a g ha hg (kid_ne hKd hP) hKd hP hTr hT⟩
  | succ hh =>
    obtain ⟨ks, rfl, hb⟩ := hn
    obtain ⟨hT0, h0, off, c, hv, hK, hc⟩ := hin
    subst hT0 hv
    have hs' : sumN (bsizes ks) = sizeN n := hs
    refine (bplaced_one t p Dn S bb off c ks (hh + 1 + 1) low hfr hf.1 hf.2.1 (by omega) w h.tm.tr hK).mono ?_
    rintro e w' ⟨a, g, rfl, ha, hg, hKd, hP, hTr, hT⟩
    exact ⟨_, rfl, hfin w' a g ha hg (kid_ne hKd hP) hKd hP hTr hT⟩

end Go.Proofs.YthgpjkcgccdldaaGreatDoor

namespace Go.Proofs.YthgpjkcgccdldaaGreatDoor
open Go.RowKit Go.Maps

theorem placedN_two {h : Nat} {n : List (En h)} {lo : ByteArray} {m : Nat} (hz : ¬ sizeN n ≤ 495) (hm : m = middleN (n.map En.size)) : placedN n lo = [mkE lo 0 (n.take m), mkE (firstKey (n.drop m)) 0 (n.drop m)] := by
  unfold placedN
  rw [if_neg hz, ← hm]
theorem firstKey_drop {h : Nat} {n : List (En h)} {m : Nat} (hm : m < n.length) : firstKey (n.drop m) = n[m].key := by
  rw [List.drop_eq_getElem_cons hm]
  rfl
/-- Halves of a node. -/
def cutNd : Nd → Nat → Nd × Nd
  | .inl l, m => (.inl (l.take m), .inl (l.drop m))
  | .inr ks, m => (.inr (ks.take m), .inr (ks.drop m))
theorem cut_is {G : Gh} {D : Dk} {h : Nat} {nd : Nd} {n : List (En h)} (hn : NodeIs G D h nd n) (m : Nat) : NodeIs G D h (cutNd nd m).1 (n.take m) ∧ NodeIs G D h (cutNd nd m).2 (n.drop m) := by
  cases h with
  | zero =>
    obtain rfl : nd = .inl n := hn
    exact ⟨rfl, rfl⟩
  | succ h =>
    obtain ⟨ks, rfl, hb⟩ := hn
    exact ⟨⟨_, rfl, hb.take m⟩, ⟨_, rfl, hb.drop m⟩⟩

/-- placed, where it does not fit. -/
theorem tm_placed_two {w : World} {O : Nat → Prop} {t p b m sm rb : Nat} {s : St} {q : Pg} {Dn S : Stt} {D : Dk} {G : Gh} {Rw : Nat → Prop} {ds : List Nat} (h : TD w O t p b m sm rb s q Dn S D G Rw ds) {hh bb : Nat} {nd : Nd} {T : TypeId} {v : Value} {n : List (En hh)} (hin : NdIn w bb nd T v) (hn : NodeIs G D hh nd n) (hf : FineNd nd) (hz : ¬ sizeN n ≤ 495) {m1 : Nat} (hm1 : m1 = middleN (n.map En.size)) (hml : m1 < n.length) (hab : Able O t p b m sm rb G Rw S.dropped bb) (hfr : S.fresh ≤ 100000) (hkl : ∀ ks, nd = .inr ks → ∀ k ∈ ks, ∃ Q, G k.2 = some Q ∧ Q.lvl + 1 = hh + 1) (low : ByteArray) :
    Calls Tryz.prog 129 #[.pointer (some ⟨t, 0, none⟩), .iface T v, .int .i64 ((hh + 1 : Nat) : Int), .string low] w fun e w' => ∃ v', e = .returned v' ∧ NewPl w O t p b m sm rb s q Dn S D G Rw ds bb hh (placedN n low) w' v' := by
  have hbl := hin.lt
  have hgN : ∀ g, w.heap.size ≤ g → G g = none := fun g hg => by
    cases hg' : G g with
    | none => rfl
    | some Q => have := h.tm.mem.lt (a := g) (by rw [hg']; simp); omega
  have hcut := cut_is hn m1
  have hbt : bb ≠ t := by
    rintro rfl
    rcases hab with hr | hr
    · exact (h.tm.own _ (.inr hr)).1 (by simp)
    · exact hr.1 (by simp)
  have hfin : ∀ (w' : World) (a a' g off c : Nat) (T : TypeId), w.heap.size ≤ a → w.heap.size ≤ a' → a ≠ a' → w.heap.size ≤ g → a ≠ g → a' ≠ g → KidsAt w' (some ⟨g, 0, none⟩) [(low, a), (firstKey (n.drop m1), a')] → (∃ v, PlaceAt w' a 0 (hh + 1) 0 (.iface T v) ∧ ∀ G', (∀ a Q, G a = some Q → ∃ Q', G' a = some Q' ∧ Q'.lvl = Q.lvl) → NdAt w' (fun y => Rw y ∨ y = bb) G' (hh + 1) (cutNd nd m1).1 T v) → (∃ v, PlaceAt w' a' 0 (hh + 1) 0 (.iface T v) ∧ ∀ G', (∀ a Q, G a = some Q → ∃ Q', G' a = some Q' ∧ Q'.lvl = Q.lvl) → NdAt w' (fun y => Rw y ∨ y = bb) G' (hh + 1) (cutNd nd m1).2 T v) → TreeAt w' t p Dn { S with fresh := S.fresh + 2 } → Turn [t] w w' → NewPl w O t p b m sm rb s q Dn S D G Rw ds bb hh (placedN n low) w' (.slice (some ⟨g, 0, none⟩) 2 2) := fun w' a a' g off c T ha ha' haa hg hag hag' hK hP hP' hTr hT => by
    obtain ⟨v1, hp1, hn1⟩ := hP
    obtain ⟨v2, hp2, hn2⟩ := hP'
    obtain ⟨G', h1, h2, h3, h4, h5⟩ := tm_places h (S' := { S with fresh := S.fresh + 2 }) rfl hTr hT hbl hab [(a, (cutNd nd m1).1), (a', (cutNd nd m1).2)] (hh + 1) (fun x hx => by
      simp at hx
      rcases hx with rfl | rfl <;> assumption) (by simp; exact haa) (fun x hx => by
      simp at hx
      rcases hx with rfl | rfl
      · exact ⟨T, v1, hp1, hn1⟩
      · exact ⟨T, v2, hp2, hn2⟩)
    have hGa := h1 (a, (cutNd nd m1).1) (by simp)
    have hGb := h1 (a', (cutNd nd m1).2) (by simp)
    rw [placedN_two hz hm1]
    refine ⟨G', [(low, a), (firstKey (n.drop m1), a')], g, rfl, hg, hK, ⟨⟨rfl, ⟨_, hGa, rfl⟩, Means.of _ hGa rfl (fun e => absurd rfl e) (fun e => by cases e) (fun nd' e => ?_)⟩, ⟨rfl, ⟨_, hGb, rfl⟩, Means.of _ hGb rfl (fun e => absurd rfl e) (fun e => by cases e) (fun nd' e => ?_)⟩, trivial⟩, h5, h4, hT, fun x hx => ?_, ?_, fun k hk => ?_⟩
    · obtain rfl := Option.some.inj e
      exact hcut.1.grown h4
    · obtain rfl := Option.some.inj e
      exact hcut.2.grown h4
    · rcases h3 x hx with hx | ⟨y, hy, rfl⟩
      · exact .inl hx
      · simp at hy
        rcases hy with rfl | rfl
        · exact .inr ha
        · exact .inr ha'
    · cases hg' : G' g with
      | none => rfl
      | some Q =>
        rcases h3 g (by rw [hg']; simp) with hx | ⟨y, hy, e⟩
        · exact absurd (hgN g hg) hx
        · simp at hy
          rcases hy with rfl | rfl
          · exact absurd e hag
          · exact absurd e hag'
    · simp at hk
      rcases hk with rfl | rfl
      · exact ⟨_, hGa, rfl⟩
      · exact ⟨_, hGb, rfl⟩
  have hs := size_is hn
  have hrowOf : ∀ w', Turn [t] w w' → w'.heap[bb]? = w.heap[bb]? := fun w' hT => hT.block bb hbl (by simp; exact hbt)
  cases hh with
  | zero =>
    obtain rfl : nd = .inl n := hn
    obtain ⟨hT0, h0, off, c, hv, hK, hc⟩ := hin
    subst hT0 hv
    have hs' : sumN (lsizes n) = sizeN n := hs
    have hms : m1 = middleN (lsizes n) := hm1
    refine (lplaced_two t p Dn S bb off c m1 n 1 low hfr hf.1 hc hf.2.1 ⟨by omega, hf.2.2⟩ hms hml hbt w h.tm.tr hK).mono ?_
    rintro e w' ⟨a, a', g, rfl, ha, ha', haa, hg, hKd, hP, hP', hTr, hT⟩
    have hK' : KVsAt w' (some ⟨bb, off, none⟩) n := hK.turn hT (fun x _ hx => by obtain rfl := Option.some.inj hx; simp; exact hbt)
    obtain ⟨hKa, hKb⟩ := hK'.part m1
    have hl1 : List.length (α := ByteArray × ByteArray) (List.take m1 n) = m1 := (show (List.take (α := En 0) m1 n).length = m1 by rw [List.length_take]; exact Nat.min_eq_left (Nat.le_of_lt hml))
    have hl2 : List.length (α := ByteArray × ByteArray) (List.drop m1 n) = List.length (α := En 0) n - m1 := List.length_drop
    have hc1 : List.length (α := En 0) n ≤ c := hc.1
    refine ⟨_, rfl, hfin w' a a' g off c _ ha ha' haa hg (kid_ne hKd hP) (kid_ne hKd hP') ?_ ⟨_, hP, fun G' _ => ⟨rfl, rfl, bb, off, c, by rw [hl1], hKa, ⟨by rw [hl1]; omega, hc.2⟩, .inr rfl⟩⟩ ⟨_, hP', fun G' _ => ⟨rfl, rfl, bb, off + m1 * 2, c - m1, by rw [hl2]; rfl, hKb, ⟨by rw [hl2]; omega, by omega⟩, .inr rfl⟩⟩ hTr hT⟩
    rw [firstKey_drop hml]
    exact hKd
  | succ hh =>
    obtain ⟨ks, rfl, hb⟩ := hn
    obtain ⟨hT0, h0, off, c, hv, hK, hc⟩ := hin
    subst hT0 hv
    have hs' : sumN (bsizes ks) = sizeN n := hs
    have hlen := hb.length
    have hbs : bsizes ks = n.map En.size := by
      have e1 : bsizes ks = (lowsOf ks).map (fun x => 5 + x.size) := by
        unfold bsizes lowsOf
        rw [List.map_map]
        rfl
      have e2 : n.map En.size = (n.map En.key).map (fun x => 5 + x.size) := by
        rw [List.map_map]
        rfl
      rw [e1, e2, both_lows hb]
    have hms : m1 = middleN (bsizes ks) := by rw [hbs]; exact hm1
    have hmk : m1 < ks.length := by omega
    refine (bplaced_two t p Dn S bb off c m1 ks (hh + 1 + 1) low hfr hf.1 hc hf.2.1 ⟨by omega, hf.2.2⟩ hms hmk hbt w h.tm.tr hK).mono ?_
    rintro e w' ⟨a, a', g, rfl, ha, ha', haa, hg, hKd, hP, hP', hTr, hT⟩
    have hK' : KidsAt w' (some ⟨bb, off, none⟩) ks := hK.turn hT (fun x _ hx => by obtain rfl := Option.some.inj hx; simp; exact hbt)
    obtain ⟨hKa, hKb⟩ := hK'.part m1
    have hl1 : (ks.take m1).length = m1 := by rw [List.length_take]; omega
    have hl2 : (ks.drop m1).length = ks.length - m1 := List.length_drop
    have hkG : ∀ G' : Gh, (∀ a Q, G a = some Q → ∃ Q', G' a = some Q' ∧ Q'.lvl = Q.lvl) → ∀ k ∈ ks, ∃ Q, G' k.2 = some Q ∧ Q.lvl + 1 = hh + 1 + 1 := fun G' hG' k hk => by
      obtain ⟨Q, hQ, hl⟩ := hkl ks rfl k hk
      obtain ⟨Q', hQ', hl'⟩ := hG' _ Q hQ
      exact ⟨Q', hQ', by omega⟩
    refine ⟨_, rfl, hfin w' a a' g off c _ ha ha' haa hg (kid_ne hKd hP) (kid_ne hKd hP') ?_ ⟨_, hP, fun G' hG' => ⟨by omega, rfl, bb, off, c, by rw [hl1], hKa, ⟨by rw [hl1]; omega, hc.2⟩, .inr rfl, fun k hk => hkG G' hG' k (List.mem_of_mem_take hk)⟩⟩ ⟨_, hP', fun G' hG' => ⟨by omega, rfl, bb, off + m1 * 2, c - m1, by rw [hl2], hKb, ⟨by rw [hl2]; omega, by omega⟩, .inr rfl, fun k hk => hkG G' hG' k (List.mem_of_mem_drop hk)⟩⟩ hTr hT⟩
    rw [firstKey_drop hml, ← (hb.get m1 hmk hml).1]
    exact hKd

end Go.Proofs.YthgpjkcgccdldaaGreatDoor

namespace Go.Proofs.YthgpjkcgccdldaaGreatDoor
open Go.RowKit Go.Maps

theorem own_in {w : World} {B : Nat} {e : TypeId} {v : Value} {n : Nat} {l : List (Value × Value)} (h : w.ownsRow B e 2 v n (flat l)) (hn : 0 < n) : ∃ g c, v = .slice (some ⟨g, 0, none⟩) n c ∧ B ≤ g ∧ g < w.heap.size ∧ PairsAt w (some ⟨g, 0, none⟩) l ∧ n ≤ c ∧ c ≤ 9223372036854775807 ∧ n = l.length := by
  obtain ⟨a', c', hv, hl, hnil, hpr, hbk⟩ := own_pairs h
  obtain ⟨_, ⟨e, h0⟩ | ⟨g, cap, cur, e, hb, hgg, hnc, hm, _⟩⟩ := h
  · omega
  · subst hv
    injection e with e1 e2 e3
    subst e1 e3
    exact ⟨g, c', by rw [hl], hb, (hbk _ rfl).2, hpr, hnc, by unfold maxLen at hm; omega, hl⟩

/-- join. -/
theorem tm_join {w : World} {G : Gh} {D : Dk} {hh : Nat} {nd nd' : Nd} {T T' : TypeId} {v v' : Value} {n n' : List (En hh)} (hv : NdV w nd T v) (hv' : NdV w nd' T' v') (hn : NodeIs G D hh nd n) (hn' : NodeIs G D hh nd' n') (hl : n.length ≤ 1000 ∧ n'.length ≤ 1000) (hne : 0 < (n ++ n').length) :
    Calls Tryz.prog 159 #[.iface T v, .iface T' v'] w fun e w' => ∃ T2 v2 nd2 bb, e = .returned (.iface T2 v2) ∧ NdIn w' bb nd2 T2 v2 ∧ w.heap.size ≤ bb ∧ NodeIs G D hh nd2 (n ++ n') ∧ Turn [] w w' := by
  cases hh with
  | zero =>
    obtain rfl : nd = .inl n := hn
    obtain rfl : nd' = .inl n' := hn'
    obtain ⟨rfl, a, c, rfl, hK, hnil, hc⟩ := hv
    obtain ⟨rfl, a', c', rfl, hK', hnil', hc'⟩ := hv'
    refine (ljoin_any w a a' c c' n n' hl hnil hnil' hK hK').mono ?_
    rintro e w' ⟨r, rfl, hO, hT⟩
    obtain ⟨g, c2, rfl, hg, hgl, hpr, h1, h2, h3⟩ := own_in hO hne
    exact ⟨_, _, .inl (n ++ n'), g, rfl, ⟨rfl, hne, 0, c2, rfl, hpr.kvs, h1, h2⟩, hg, rfl, hT⟩
  | succ hh =>
    obtain ⟨ks, rfl, hb⟩ := hn
    obtain ⟨ks', rfl, hb'⟩ := hn'
    obtain ⟨rfl, a, c, rfl, hK, hnil, hc⟩ := hv
    obtain ⟨rfl, a', c', rfl, hK', hnil', hc'⟩ := hv'
    have h1 := hb.length
    have h2 := hb'.length
    rw [List.length_append] at hne
    refine (bjoin_any w a a' c c' ks ks' ⟨by omega, by omega⟩ hnil hnil' hK hK').mono ?_
    rintro e w' ⟨r, rfl, hO, hT⟩
    obtain ⟨g, c2, rfl, hg, hgl, hpr, h1', h2', h3⟩ := own_in hO (by rw [List.length_append]; omega)
    exact ⟨_, _, .inr (ks ++ ks'), g, rfl, ⟨rfl, by rw [List.length_append]; omega, 0, c2, rfl, hpr.kids, h1', h2'⟩, hg, ⟨_, rfl, hb.append hb'⟩, hT⟩

end Go.Proofs.YthgpjkcgccdldaaGreatDoor

namespace Go.Proofs.YthgpjkcgccdldaaGreatDoor
open Go.RowKit Go.Maps

theorem NdV.keep {w w' : World} {nd : Nd} {T : TypeId} {v : Value} (h : NdV w nd T v) (hb : ∀ ad m c, v = .slice (some ad) m c → w'.heap[ad.block]? = w.heap[ad.block]?) : NdV w' nd T v := by
  cases nd with
  | inl l =>
    obtain ⟨h1, a, c, rfl, hK, h2⟩ := h
    refine ⟨h1, a, c, rfl, ?_, h2⟩
    rcases hK with hK | ⟨b, off, rfl, hc⟩
    · exact .inl hK
    · have hh := hb _ _ _ rfl
      exact .inr ⟨b, off, rfl, fun i hi => ⟨(World.cell?_of_block (a := ⟨b, off + i * 2, none⟩) hh).trans (hc i hi).1, (World.cell?_of_block (a := ⟨b, off + i * 2 + 1, none⟩) hh).trans (hc i hi).2⟩⟩
  | inr ks =>
    obtain ⟨h1, a, c, rfl, hK, h2⟩ := h
    refine ⟨h1, a, c, rfl, ?_, h2⟩
    rcases hK with hK | ⟨b, off, rfl, hc⟩
    · exact .inl hK
    · have hh := hb _ _ _ rfl
      exact .inr ⟨b, off, rfl, fun i hi => ⟨(World.cell?_of_block (a := ⟨b, off + i * 2, none⟩) hh).trans (hc i hi).1, (World.cell?_of_block (a := ⟨b, off + i * 2 + 1, none⟩) hh).trans (hc i hi).2⟩⟩
/-- A node that is not empty has its row in a block. -/
theorem NdV.in_ {w : World} {nd : Nd} {T : TypeId} {v : Value} (h : NdV w nd T v) (hn : match nd with | .inl l => 0 < l.length | .inr ks => 0 < ks.length) : ∃ bb off m c, v = .slice (some ⟨bb, off, none⟩) m c ∧ NdIn w bb nd T v := by
  cases nd with
  | inl l =>
    obtain ⟨h1, a, c, rfl, hK, hnil, h2⟩ := h
    have hn' : 0 < l.length := hn
    rcases hK with hK | ⟨b, off, rfl, hc⟩
    · rw [hK] at hn'
      exact absurd hn' (by simp)
    · exact ⟨b, off, _, c, rfl, h1, hn', off, c, rfl, .inr ⟨b, off, rfl, hc⟩, h2⟩
  | inr ks =>
    obtain ⟨h1, a, c, rfl, hK, hnil, h2⟩ := h
    have hn' : 0 < ks.length := hn
    rcases hK with hK | ⟨b, off, rfl, hc⟩
    · rw [hK] at hn'
      exact absurd hn' (by simp)
    · exact ⟨b, off, _, c, rfl, h1, hn', off, c, rfl, .inr ⟨b, off, rfl, hc⟩, h2⟩
theorem NdIn.v {w : World} {bb : Nat} {nd : Nd} {T : TypeId} {v : Value} (h : NdIn w bb nd T v) : NdV w nd T v := by
  cases nd with
  | inl l =>
    obtain ⟨h1, _, off, c, h3, h4, h5⟩ := h
    exact ⟨h1, _, c, h3, h4, by simp, h5⟩
  | inr ks =>
    obtain ⟨h1, _, off, c, h3, h4, h5⟩ := h
    exact ⟨h1, _, c, h3, h4, by simp, h5⟩

/-- A branch bl (row b0, blocks ks) of the tree's, and a node n beside it. -/
structure SIn (w : World) (O : Nat → Prop) (t p b m sm rb : Nat) (s : St) (q : Pg) (Dn S : Stt) (D : Dk) (G : Gh) (Rw : Nat → Prop) (ds : List Nat) (hh b0 off : Nat) (ks : List (ByteArray × Nat)) (bl : List (En (hh + 1))) (nd : Nd) (T : TypeId) (v : Value) (n : List (En hh)) : Prop where
  td : TD w O t p b m sm rb s q Dn S D G Rw ds
  kids : KidsAt w (some ⟨b0, off, none⟩) ks
  row : Rw b0
  both : Both (KidIs G (Means G D hh)) ks bl
  lvls : ∀ k ∈ ks, ∃ Q, G k.2 = some Q ∧ Q.lvl = hh + 1
  nv : NdV w nd T v
  nis : NodeIs G D hh nd n
  able : ∀ ad c' c, v = .slice (some ad) c' c → Able O t p b m sm rb G Rw S.dropped ad.block ∧ ad.block < w.heap.size

/-- Some of it turns, more is known. -/
theorem SIn.go {w w' : World} {O : Nat → Prop} {t p b m sm rb : Nat} {s : St} {q q' : Pg} {Dn S S' : Stt} {D : Dk} {G G' : Gh} {Rw Rw' : Nat → Prop} {ds ds' : List Nat} {hh b0 off : Nat} {ks : List (ByteArray × Nat)} {bl : List (En (hh + 1))} {nd : Nd} {T : TypeId} {v : Value} {n : List (En hh)} (h : SIn w O t p b m sm rb s q Dn S D G Rw ds hh b0 off ks bl nd T v n) (hTD : TD w' O t p b m sm rb s q' Dn S' D G' Rw' ds') (hGr : Grown D G G') (hS : TGo t p w w' G G' Rw Rw' S.dropped S'.dropped) : SIn w' O t p b m sm rb s q' Dn S' D G' Rw' ds' hh b0 off ks bl nd T v n := by
  obtain ⟨X, hT, hX⟩ := hS.turn
  have hown : ∀ x, Able O t p b m sm rb G Rw S.dropped x → x ∉ X := fun x ha hm => by
    rcases hX x hm with e | e | e | e
    · rcases ha with hr | hr
      · exact (h.td.tm.own x (.inr hr)).1 (by simp [e])
      · exact hr.1 (by simp [e])
    · rcases ha with hr | hr
      · exact (h.td.tm.own x (.inr hr)).1 (by simp [e])
      · exact hr.1 (by simp [e])
    · rcases ha with hr | hr
      · exact e (h.td.tm.mem.apart x hr)
      · exact e hr.2.2.1
    · rcases ha with hr | hr
      · exact (h.td.far x e).2.2.2 hr
      · exact hr.2.2.2 e
  have hb0 := hT.block b0 (h.td.tm.mem.rows b0 h.row) (hown b0 (.inl h.row))
  refine ⟨hTD, ?_, hS.oldR b0 h.row, h.both.mono fun k _ e _ hk => ?_, fun k hk => ?_, h.nv.keep fun ad m c e => hT.block _ (h.able ad m c e).2 (hown _ (h.able ad m c e).1), h.nis.grown hGr, fun ad m c e => ?_⟩
  · rcases h.kids with hK | ⟨b', off', e, hc⟩
    · exact .inl hK
    · obtain ⟨rfl, rfl⟩ : b0 = b' ∧ off = off' := by injection e with e; injection e with e1 e2; exact ⟨e1, e2⟩
      exact .inr ⟨b0, off, rfl, fun i hi => ⟨(World.cell?_of_block (a := ⟨b0, off + i * 2, none⟩) hb0).trans (hc i hi).1, (World.cell?_of_block (a := ⟨b0, off + i * 2 + 1, none⟩) hb0).trans (hc i hi).2⟩⟩
  · obtain ⟨h1, ⟨Q, h2, h3⟩, h4⟩ := hk
    obtain ⟨Q', q1, q2, _⟩ := hGr.at_ _ Q h2
    exact ⟨h1, ⟨Q', q1, q2.trans h3⟩, h4.grown hGr⟩
  · obtain ⟨Q, h1, h2⟩ := h.lvls k hk
    obtain ⟨Q', q1, _, q3, _⟩ := hGr.at_ _ Q h1
    exact ⟨Q', q1, q3.trans h2⟩
  · obtain ⟨ha, hl⟩ := h.able ad m c e
    refine ⟨?_, Nat.lt_of_lt_of_le hl hT.size⟩
    rcases ha with hr | ⟨h1, h2, h3, h4⟩
    · exact .inl (hS.oldR _ hr)
    · refine .inr ⟨h1, h2, ?_, fun e' => ?_⟩
      · cases hg : G' ad.block with
        | none => rfl
        | some Q =>
          rcases hS.newG _ (by rw [hg]; simp) with h5 | h5
          · exact absurd h3 h5
          · omega
      · rcases hS.newD _ e' with h5 | h5
        · exact h4 h5
        · omega
theorem SIn.quiet {w w' : World} {O : Nat → Prop} {t p b m sm rb : Nat} {s : St} {q : Pg} {Dn S : Stt} {D : Dk} {G : Gh} {Rw : Nat → Prop} {ds : List Nat} {hh b0 off : Nat} {ks : List (ByteArray × Nat)} {bl : List (En (hh + 1))} {nd : Nd} {T : TypeId} {v : Value} {n : List (En hh)} (h : SIn w O t p b m sm rb s q Dn S D G Rw ds hh b0 off ks bl nd T v n) (hT : Turn [] w w') : SIn w' O t p b m sm rb s q Dn S D G Rw ds hh b0 off ks bl nd T v n :=
  h.go (h.td.read (h.td.tm.quiet hT) ((TStep.refl p w G Rw).quiet hT)) (Grown.refl _ _) ((TGo.refl t p w G Rw _).quiet hT)

end Go.Proofs.YthgpjkcgccdldaaGreatDoor

namespace Go.Proofs.YthgpjkcgccdldaaGreatDoor
open Go.RowKit Go.Maps

/-- Kids of a node that comes to entries have its level less one. -/
theorem kids_lvl {G : Gh} {D : Dk} {hh : Nat} {nd : Nd} {n : List (En hh)} (hn : NodeIs G D hh nd n) : ∀ ks, nd = .inr ks → ∀ k ∈ ks, ∃ Q, G k.2 = some Q ∧ Q.lvl + 1 = hh + 1 := fun ks e k hk => by
  cases hh with
  | zero =>
    obtain rfl : nd = .inl n := hn
    cases e
  | succ hh =>
    obtain ⟨ks', e', hb⟩ := hn
    rw [e'] at e
    obtain rfl := Sum.inr.inj e
    obtain ⟨e2, _, h1⟩ := hb.left k hk
    obtain ⟨P, hP, hl, _⟩ := h1.2.2.out
    exact ⟨P, hP, by omega⟩

/-- placed. -/
theorem tm_placed {w : World} {O : Nat → Prop} {t p b m sm rb : Nat} {s : St} {q : Pg} {Dn S : Stt} {D : Dk} {G : Gh} {Rw : Nat → Prop} {ds : List Nat} (h : TD w O t p b m sm rb s q Dn S D G Rw ds) {hh bb : Nat} {nd : Nd} {T : TypeId} {v : Value} {n : List (En hh)} (hin : NdIn w bb nd T v) (hn : NodeIs G D hh nd n) (hfe : ∀ e ∈ n, FullE e) (hz : sizeN n ≤ 1900) (hab : Able O t p b m sm rb G Rw S.dropped bb) (hfr : S.fresh ≤ 100000) (low : ByteArray) :
    Calls Tryz.prog 129 #[.pointer (some ⟨t, 0, none⟩), .iface T v, .int .i64 ((hh + 1 : Nat) : Int), .string low] w fun e w' => ∃ v', e = .returned v' ∧ NewPl w O t p b m sm rb s q Dn S D G Rw ds bb hh (placedN n low) w' v' := by
  have hf := fine_is hn hfe hz
  by_cases h1 : sizeN n ≤ 495
  · exact tm_placed_one h hin hn hf h1 hab hfr (kids_lvl hn) low
  · have hm := middle_spec (l := n.map En.size) (B := 170) (fun x hx => by
      obtain ⟨e, he, rfl⟩ := List.mem_map.1 hx
      have h2 := FullE.size (hfe e he)
      have h3 := boundN_le hh
      omega) (by
      have : sizeN n = (n.map En.size).sum := rfl
      omega)
    exact tm_placed_two h hin hn hf h1 rfl (by simpa using hm.2.1) hab hfr (kids_lvl hn) low

/-- Concat of three rows of kids. -/
theorem kcat3 (g c n1 n2 n3 c1 c2 c3 : Nat) (a1 a2 a3 : Option Addr) (l1 l2 l3 : List (ByteArray × Nat)) (e1 : l1.length = n1) (e2 : l2.length = n2) (e3 : l3.length = n3) (hl : l1.length + l2.length + l3.length ≤ 1000000) (w : World)
    (h1 : w.cell? ⟨g, 0, none⟩ = some (.slice a1 n1 c1)) (h2 : w.cell? ⟨g, 1, none⟩ = some (.slice a2 n2 c2)) (h3 : w.cell? ⟨g, 2, none⟩ = some (.slice a3 n3 c3)) (z1 : a1 = none → c1 = 0) (z2 : a2 = none → c2 = 0) (z3 : a3 = none → c3 = 0) (k1 : KidsAt w a1 l1) (k2 : KidsAt w a2 l2) (k3 : KidsAt w a3 l3) :
    Calls Tryz.prog 160 #[.slice (some ⟨g, 0, none⟩) 3 c] w fun e w' => ∃ v, e = .returned v ∧ w'.ownsRow w.heap.size 173 2 v (l1.length + l2.length + l3.length) (flat (kidCells (l1 ++ (l2 ++ l3)))) ∧ Turn [] w w' := by
  subst e1 e2 e3
  have hlen : ∀ l : List (ByteArray × Nat), (kidCells l).length = l.length := fun l => List.length_map _
  have ht : tlen [kidCells l1, kidCells l2, kidCells l3] = l1.length + l2.length + l3.length := by
    simp [tlen, hlen]
    omega
  have := kconcat_any g 0 c [kidCells l1, kidCells l2, kidCells l3] (by simp) (by rw [ht]; exact hl) (fun p hp => by
    simp at hp
    rcases hp with rfl | rfl | rfl <;> exact kid_one _) w (fun i hi => by
    have hi' : i = 0 ∨ i = 1 ∨ i = 2 := by simp at hi; omega
    rcases hi' with rfl | rfl | rfl
    · exact ⟨a1, c1, by simpa [hlen] using h1, z1, k1.pairs⟩
    · exact ⟨a2, c2, by simpa [hlen] using h2, z2, k2.pairs⟩
    · exact ⟨a3, c3, by simpa [hlen] using h3, z3, k3.pairs⟩)
  rw [ht] at this
  refine this.mono ?_
  rintro e w' ⟨v, rfl, hO, hT⟩
  refine ⟨v, rfl, ?_, hT⟩
  have e : ([kidCells l1, kidCells l2, kidCells l3] : List (List (Value × Value))).flatten = kidCells (l1 ++ (l2 ++ l3)) := by
    simp [kidCells]
  rw [← e]
  exact hO

end Go.Proofs.YthgpjkcgccdldaaGreatDoor

namespace Go.Proofs.YthgpjkcgccdldaaGreatDoor
open Go.RowKit Go.Maps

/-- What is left of a state when places of pages X were taken and y made. -/
structure Mvd (X : List Nat) (y : Nat) (S S' : Stt) (ds ds' : List Nat) : Prop where
  root : S'.root = S.root
  keys : S'.keys = S.keys
  changed : S'.changed = S.changed
  fresh : S'.fresh + X.count 0 = S.fresh + y
  drop : ds' = ds ++ X.filter (fun x => decide (x ≠ 0))
theorem Mvd.nil (S : Stt) (ds : List Nat) : Mvd [] 0 S S ds ds := ⟨rfl, rfl, rfl, rfl, by simp⟩
theorem Mvd.trans {X X' : List Nat} {y y' : Nat} {S S1 S2 : Stt} {ds ds1 ds2 : List Nat} (h : Mvd X y S S1 ds ds1) (k : Mvd X' y' S1 S2 ds1 ds2) : Mvd (X ++ X') (y + y') S S2 ds ds2 := by
  refine ⟨k.root.trans h.root, k.keys.trans h.keys, k.changed.trans h.changed, ?_, ?_⟩
  · have h1 := h.fresh
    have h2 := k.fresh
    rw [List.count_append]
    omega
  · rw [k.drop, h.drop, List.filter_append, List.append_assoc]
theorem Took.mvd {pg : Nat} {S S' : Stt} {ds ds' : List Nat} (h : Took pg S S' ds ds') : Mvd [pg] 0 S S' ds ds' := by
  refine ⟨h.root, h.keys, h.changed, ?_, ?_⟩
  · have := h.fresh
    by_cases h0 : pg = 0
    · subst h0
      simpa using this
    · rw [if_neg h0] at this
      simp [h0]
      exact this
  · rw [h.drop]
    by_cases h0 : pg = 0
    · simp [h0]
    · simp [h0]

/-- The row that a node lies in. -/
def rowOf (v : Value) (x : Nat) : Prop := ∃ ad m c, v = .slice (some ad) m c ∧ x = ad.block

/-- Entries f to f2 of a branch are to be put by a node's places: what joining the node of the i-th with a neighbour comes to. -/
structure Pick {h : Nat} (bl : List (En (h + 1))) (a z : List (En (h + 1))) (c : En (h + 1)) (n : List (En h)) (f f2 : Nat) (n2 : List (En h)) (X : List Nat) : Prop where
  lt : f < f2
  le : f2 ≤ bl.length
  is_ : ∀ lo, (∃ hf : f < bl.length, lo = bl[f].key) → settleN a c.key n z = bl.take f ++ (placedN n2 lo ++ bl.drop f2)
  pages : (pagesN (bl.take f) ++ (pagesN n2 ++ (pagesN (bl.drop f2) ++ X))).Perm (pagesN a ++ (pagesN n ++ pagesN z))
  full : ∀ e ∈ n2, FullE e
  size : sizeN n2 ≤ 1900
  some : 0 < n2.length
  few : X.length ≤ 1

theorem pages_one {h : Nat} (j : En (h + 1)) : pagesN [j] = pageOf j :: pagesN (kidsOf j) := by
  unfold pagesN
  rw [List.flatMap_cons, List.flatMap_nil, List.append_nil]
  rfl

theorem drop_two {α : Type} (a z : List α) (x y : α) : (a ++ x :: y :: z).drop (a.length + 1 + 1) = z := by
  rw [show a ++ x :: y :: z = (a ++ [x, y]) ++ z by simp]
  exact List.drop_left' (by simp)
theorem drop_one {α : Type} (a z : List α) (x : α) : (a ++ x :: z).drop (a.length + 1) = z := by
  rw [show a ++ x :: z = (a ++ [x]) ++ z by simp]
  exact List.drop_left' (by simp)
theorem minN_pos (h : Nat) : 0 < minN h := by cases h <;> simp [minN]

/-- With the left one. -/
theorem pick_left {h : Nat} {bl a1 z : List (En (h + 1))} {j c : En (h + 1)} {n : List (En h)} (hbl : bl = a1 ++ j :: c :: z) (hs : shortN n (kidsOf j) = true) (hf : ∀ e ∈ bl, FullE e) (hn : ∀ e ∈ n, FullE e) (hz : sizeN n ≤ 1000) : Pick bl (a1 ++ [j]) z c n a1.length (a1.length + 1 + 1) (kidsOf j ++ n) [pageOf j] := by
  subst hbl
  have hj := full_at (hf j (by simp))
  have e0 : (a1 ++ [j]).getLast? = some j := by simp
  have ht : (a1 ++ j :: c :: z).take a1.length = a1 := by simp
  have hd : (a1 ++ j :: c :: z).drop (a1.length + 1 + 1) = z := drop_two _ _ _ _
  have hm : 0 < (kidsOf j).length := by
    have h1 := hj.2.1
    have h2 := minN_pos h
    omega
  refine ⟨by omega, by simp <;> omega, fun lo ⟨_, e⟩ => ?_, ?_, fun e he => ?_, ?_, ?_, by simp⟩
  · rw [ht, hd, e]
    unfold settleN
    rw [e0]
    simp [hs]
  · rw [ht, hd, pagesN_append, pagesN_append, pages_one]
    simp only [List.append_assoc]
    refine List.Perm.append_left _ ?_
    have h1 : (pagesN (kidsOf j) ++ (pagesN n ++ (pagesN z ++ [pageOf j]))).Perm ([pageOf j] ++ (pagesN (kidsOf j) ++ (pagesN n ++ pagesN z))) := by
      have e : pagesN (kidsOf j) ++ (pagesN n ++ (pagesN z ++ [pageOf j])) = (pagesN (kidsOf j) ++ (pagesN n ++ pagesN z)) ++ [pageOf j] := by simp
      rw [e]
      exact List.perm_append_comm
    exact h1
  · rcases List.mem_append.1 he with he | he
    · exact hj.2.2.2 e he
    · exact hn e he
  · rw [sizeN_append]
    have := hj.2.2.1
    omega
  · rw [List.length_append]
    omega

/-- With the right one. -/
theorem pick_right {h : Nat} {bl a z : List (En (h + 1))} {m c : En (h + 1)} {n : List (En h)} (hbl : bl = a ++ c :: m :: z) (hl : ∀ j, a.getLast? = some j → shortN n (kidsOf j) = false) (hs : shortN n (kidsOf m) = true) (hf : ∀ e ∈ bl, FullE e) (hn : ∀ e ∈ n, FullE e) (hz : sizeN n ≤ 1000) : Pick bl a (m :: z) c n a.length (a.length + 1 + 1) (n ++ kidsOf m) [pageOf m] := by
  subst hbl
  have hj := full_at (hf m (by simp))
  have ht : (a ++ c :: m :: z).take a.length = a := by simp
  have hd : (a ++ c :: m :: z).drop (a.length + 1 + 1) = z := drop_two _ _ _ _
  have hm : 0 < (kidsOf m).length := by
    have h1 := hj.2.1
    have h2 := minN_pos h
    omega
  refine ⟨by omega, by simp <;> omega, fun lo ⟨_, e⟩ => ?_, ?_, fun e he => ?_, ?_, ?_, by simp⟩
  · rw [ht, hd, e]
    have e1 : settleN a c.key n (m :: z) = settleR a c.key n (m :: z) := by
      unfold settleN
      cases hg : a.getLast? with
      | none => rfl
      | some j => simp [hl j hg]
    rw [e1]
    unfold settleR
    simp [hs]
  · rw [ht, hd]
    have e : pagesN (m :: z) = pageOf m :: (pagesN (kidsOf m) ++ pagesN z) := by
      have := pages_one m
      unfold pagesN at *
      rw [List.flatMap_cons]
      rw [List.flatMap_cons, List.flatMap_nil, List.append_nil] at this
      rw [this]
      rfl
    rw [pagesN_append, e]
    simp only [List.append_assoc]
    refine List.Perm.append_left _ (List.Perm.append_left _ ?_)
    have e2 : pagesN (kidsOf m) ++ (pagesN z ++ [pageOf m]) = (pagesN (kidsOf m) ++ pagesN z) ++ [pageOf m] := by simp
    rw [e2]
    exact List.perm_append_comm
  · rcases List.mem_append.1 he with he | he
    · exact hn e he
    · exact hj.2.2.2 e he
  · rw [sizeN_append]
    have := hj.2.2.1
    omega
  · rw [List.length_append]
    omega

/-- Alone. -/
theorem pick_none {h : Nat} {bl a z : List (En (h + 1))} {c : En (h + 1)} {n : List (En h)} (hbl : bl = a ++ c :: z) (hl : ∀ j, a.getLast? = some j → shortN n (kidsOf j) = false) (hr : ∀ m z', z = m :: z' → shortN n (kidsOf m) = false) (htwo : 2 ≤ bl.length) (hn : ∀ e ∈ n, FullE e) (hz : sizeN n ≤ 1000) : Pick bl a z c n a.length (a.length + 1) n [] := by
  subst hbl
  have ht : (a ++ c :: z).take a.length = a := by simp
  have hd : (a ++ c :: z).drop (a.length + 1) = z := drop_one _ _ _
  have h123 : 123 ≤ sizeN n := by
    cases hg : a.getLast? with
    | some j => exact short_not (hl j hg)
    | none =>
      cases z with
      | cons m z' => exact short_not (hr m z' rfl)
      | nil =>
        rw [List.getLast?_eq_none_iff] at hg
        subst hg
        simp at htwo
  refine ⟨by omega, by simp <;> omega, fun lo ⟨_, e⟩ => ?_, ?_, hn, by omega, ?_, by simp⟩
  · rw [ht, hd, e]
    have e1 : settleN a c.key n z = settleR a c.key n z := by
      unfold settleN
      cases hg : a.getLast? with
      | none => rfl
      | some j => simp [hl j hg]
    rw [e1]
    unfold settleR
    cases z with
    | nil => simp
    | cons m z' => simp [hr m z' rfl]
  · rw [ht, hd]
    simp
  · cases n with
    | nil => simp [sizeN] at h123
    | cons => simp

/-- Behind the joining. -/
structure SMid (w wx : World) (O : Nat → Prop) (t p b m sm rb : Nat) (s : St) (q : Pg) (Dn S : Stt) (D : Dk) (G : Gh) (Rw : Nat → Prop) (ds : List Nat) (hh b0 off : Nat) (ks : List (ByteArray × Nat)) (bl a z : List (En (hh + 1))) (c : En (hh + 1)) (n : List (En hh)) (v : Value) (nv fv tv : Value) : Prop where
  ex : ∃ T2 v2 nd2 n2 f f2 S' ds' G' Rw' r X, nv = .iface T2 v2 ∧ fv = .int .i64 ((f : Nat) : Int) ∧ tv = .int .i64 ((f2 : Nat) : Int) ∧ Pick bl a z c n f f2 n2 X ∧ SIn wx O t p b m sm rb s { q with rd := r } Dn S' D G' Rw' ds' hh b0 off ks bl nd2 T2 v2 n2 ∧ Grown D G G' ∧ TGo t p w wx G G' Rw Rw' S.dropped S'.dropped ∧ Mvd X 0 S S' ds ds' ∧ ∀ x, rowOf v2 x → rowOf v x ∨ Rw' x ∨ w.heap.size ≤ x

/-- What settled leaves: a new row of kids. -/
structure SOut (w w' : World) (O : Nat → Prop) (t p b m sm rb : Nat) (s : St) (q : Pg) (Dn S : Stt) (D : Dk) (G : Gh) (Rw : Nat → Prop) (ds : List Nat) (hh : Nat) (a z : List (En (hh + 1))) (c : En (hh + 1)) (n : List (En hh)) (v e : Value) : Prop where
  ex : ∃ G' Rw0 Rw' r S' ds' ks' g cap X y, e = .slice (some ⟨g, 0, none⟩) ks'.length cap ∧ w.heap.size ≤ g ∧ ks'.length ≤ cap ∧ cap ≤ 9223372036854775807 ∧ KidsAt w' (some ⟨g, 0, none⟩) ks' ∧ Both (KidIs G' (Means G' D hh)) ks' (settleN a c.key n z) ∧ TD w' O t p b m sm rb s { q with rd := r } Dn S' D G' Rw' ds' ∧ Grown D G G'
    ∧ (∀ x, Rw x → Rw0 x) ∧ (∀ x, Rw0 x → Rw x ∨ rowOf v x ∨ w.heap.size ≤ x) ∧ TGo t p w w' G G' Rw0 Rw' S.dropped S'.dropped ∧ Mvd X y S S' ds ds' ∧ (pagesN (settleN a c.key n z) ++ X).Perm (pagesN a ++ (pagesN n ++ pagesN z) ++ List.replicate y 0) ∧ Able O t p b m sm rb G' Rw' S'.dropped g ∧ ¬ Rw' g ∧ g < w'.heap.size ∧ X.length ≤ 1 ∧ y ≤ 2

end Go.Proofs.YthgpjkcgccdldaaGreatDoor

namespace Go.Proofs.YthgpjkcgccdldaaGreatDoor
open Go.RowKit Go.Maps

/-- Behind calls that only read. -/
structure SRd (w wx : World) (O : Nat → Prop) (t p b m sm rb : Nat) (s : St) (q : Pg) (Dn S : Stt) (D : Dk) (G : Gh) (Rw : Nat → Prop) (ds : List Nat) (hh b0 off : Nat) (ks : List (ByteArray × Nat)) (bl : List (En (hh + 1))) (nd : Nd) (T : TypeId) (v : Value) (n : List (En hh)) : Prop where
  ex : ∃ G' Rw' r, SIn wx O t p b m sm rb s { q with rd := r } Dn S D G' Rw' ds hh b0 off ks bl nd T v n ∧ Grown D G G' ∧ TGo t p w wx G G' Rw Rw' S.dropped S.dropped
theorem SIn.rd {w w' : World} {O : Nat → Prop} {t p b m sm rb : Nat} {s : St} {q : Pg} {Dn S : Stt} {D : Dk} {G : Gh} {Rw : Nat → Prop} {ds : List Nat} {hh b0 off : Nat} {ks : List (ByteArray × Nat)} {bl : List (En (hh + 1))} {nd : Nd} {T : TypeId} {v : Value} {n : List (En hh)} (h : SIn w O t p b m sm rb s q Dn S D G Rw ds hh b0 off ks bl nd T v n) (hR : TRd w w' O t p b m sm rb s q Dn S D G Rw) : SRd w w' O t p b m sm rb s q Dn S D G Rw ds hh b0 off ks bl nd T v n := by
  obtain ⟨G', Rw', r, hTM, hGr, hS⟩ := hR.ex
  exact ⟨G', Rw', r, h.go (h.td.read hTM hS) hGr (hS.go _), hGr, hS.go _⟩
theorem SRd.then_ {u w w' : World} {O : Nat → Prop} {t p b m sm rb : Nat} {s : St} {q q' : Pg} {Dn S : Stt} {D : Dk} {G G1 : Gh} {Rw Rw1 : Nat → Prop} {ds : List Nat} {hh b0 off : Nat} {ks : List (ByteArray × Nat)} {bl : List (En (hh + 1))} {nd : Nd} {T : TypeId} {v : Value} {n : List (En hh)} {r : Bool} (hq : q' = { q with rd := r }) (hGr : Grown D G G1) (hS : TGo t p u w G G1 Rw Rw1 S.dropped S.dropped) (k : SRd w w' O t p b m sm rb s q' Dn S D G1 Rw1 ds hh b0 off ks bl nd T v n) : SRd u w' O t p b m sm rb s q Dn S D G Rw ds hh b0 off ks bl nd T v n := by
  subst hq
  obtain ⟨G', Rw', r', h1, h2, h3⟩ := k.ex
  exact ⟨G', Rw', r', h1, hGr.trans h2, hS.trans h3⟩

/-- What stands at a number of the branch. -/
theorem SIn.at_ {w : World} {O : Nat → Prop} {t p b m sm rb : Nat} {s : St} {q : Pg} {Dn S : Stt} {D : Dk} {G : Gh} {Rw : Nat → Prop} {ds : List Nat} {hh b0 off : Nat} {ks : List (ByteArray × Nat)} {bl : List (En (hh + 1))} {nd : Nd} {T : TypeId} {v : Value} {n : List (En hh)} (h : SIn w O t p b m sm rb s q Dn S D G Rw ds hh b0 off ks bl nd T v n) {i : Nat} (hi : i < ks.length) (hi' : i < bl.length) :
    w.cell? ⟨b0, off + i * 2, none⟩ = some (.string bl[i].key) ∧ w.cell? ⟨b0, off + i * 2 + 1, none⟩ = some (.pointer (some ⟨ks[i].2, 0, none⟩)) ∧ w.cell? ⟨ks[i].2, 1, none⟩ = some (.int .i64 ((hh + 1 : Nat) : Int)) ∧ Means G D hh ks[i].2 (kidsOf bl[i]) ∧ ∃ P, G ks[i].2 = some P ∧ P.pg = pageOf bl[i] := by
  obtain ⟨b', off', e, h0, h1⟩ := h.kids.at hi
  injection e with e
  injection e with e1 e2
  subst e1 e2
  obtain ⟨k1, k2, k3⟩ := h.both.get i hi hi'
  rw [k1] at h0
  refine ⟨h0, h1, ?_, k3, k2⟩
  obtain ⟨P, hP, hlv, _⟩ := k3.out
  have := h.td.tm.mem.at_ _ P hP
  unfold PlOk at this
  split at this
  · rw [this.c1, hlv]
  · obtain ⟨_, _, _, _, hp, _⟩ := this
    rw [hp.c1, hlv]

/-- isShort beside a place of the branch. -/
theorem short_at {w : World} {O : Nat → Prop} {t p b m sm rb : Nat} {s : St} {q : Pg} {Dn S : Stt} {D : Dk} {G : Gh} {Rw : Nat → Prop} {ds : List Nat} {hh b0 off : Nat} {ks : List (ByteArray × Nat)} {bl : List (En (hh + 1))} {nd : Nd} {T : TypeId} {v : Value} {n : List (En hh)} (h : SIn w O t p b m sm rb s q Dn S D G Rw ds hh b0 off ks bl nd T v n) (hf : ∀ e ∈ bl, FullE e) (hn : ∀ e ∈ n, FullE e) (hz : sizeN n ≤ 1000) {i : Nat} (hi : i < ks.length) (hi' : i < bl.length) :
    Calls Tryz.prog 158 #[.pointer (some ⟨t, 0, none⟩), .iface T v, .pointer (some ⟨ks[i].2, 0, none⟩)] w fun e w' => e = .returned (.bool (shortN n (kidsOf bl[i]))) ∧ SRd w w' O t p b m sm rb s q Dn S D G Rw ds hh b0 off ks bl nd T v n := by
  obtain ⟨_, _, _, hm, _⟩ := h.at_ hi hi'
  have hb := full_at (hf bl[i] (List.getElem_mem hi'))
  refine (tm_short h.td.tm h.nv (size_is h.nis) (fine_is h.nis hn (by omega)) hm hb.2.2.2 hb.2.2.1 (by omega)).mono ?_
  rintro e w' ⟨rfl, hR⟩
  exact ⟨rfl, h.rd hR⟩

/-- take of a place of the branch. -/
theorem take_at {w : World} {O : Nat → Prop} {t p b m sm rb : Nat} {s : St} {q : Pg} {Dn S : Stt} {D : Dk} {G : Gh} {Rw : Nat → Prop} {ds : List Nat} {hh b0 off : Nat} {ks : List (ByteArray × Nat)} {bl : List (En (hh + 1))} {nd : Nd} {T : TypeId} {v : Value} {n : List (En hh)} (h : SIn w O t p b m sm rb s q Dn S D G Rw ds hh b0 off ks bl nd T v n) (hds : ds.length ≤ 100000) {i : Nat} (hi : i < ks.length) (hi' : i < bl.length) (hfr : S.fresh ≤ 100000 ∧ (pageOf bl[i] = 0 → 1 ≤ S.fresh)) :
    Calls Tryz.prog 131 #[.pointer (some ⟨t, 0, none⟩), .pointer (some ⟨ks[i].2, 0, none⟩)] w fun e w' => ∃ T3 v3 nd3 G' Rw' r S' ds', e = .returned (.iface T3 v3) ∧ NdV w' nd3 T3 v3 ∧ NodeIs G' D hh nd3 (kidsOf bl[i]) ∧ SIn w' O t p b m sm rb s { q with rd := r } Dn S' D G' Rw' ds' hh b0 off ks bl nd T v n ∧ Grown D G G' ∧ TGo t p w w' G G' Rw Rw' S.dropped S'.dropped ∧ Mvd [pageOf bl[i]] 0 S S' ds ds' := by
  obtain ⟨_, _, _, hm, P, hP, hpg⟩ := h.at_ hi hi'
  refine (tm_take h.td hm hP hds ⟨hfr.1, fun e => hfr.2 (hpg ▸ e)⟩).mono ?_
  rintro e w' ⟨T3, v3, nd3, G', Rw', r, S', ds', rfl, hN, hNode, hTD, hGr, hS, hTk⟩
  rw [hpg] at hTk
  exact ⟨T3, v3, nd3, G', Rw', r, S', ds', rfl, hN.v, hNode, h.go hTD hGr hS, hGr, hS, hTk.mvd⟩

/-- A new block may become a row of the tree's. -/
theorem TD.able {w : World} {O : Nat → Prop} {t p b m sm rb : Nat} {s : St} {q : Pg} {Dn S : Stt} {D : Dk} {G : Gh} {Rw : Nat → Prop} {ds : List Nat} (h : TD w O t p b m sm rb s q Dn S D G Rw ds) {x : Nat} (hx : w.heap.size ≤ x) : Able O t p b m sm rb G Rw S.dropped x := by
  refine .inr ⟨fun hm => by have := h.tm.lts x hm; omega, fun ho => by have := h.tm.ob x ho; omega, ?_, fun e => by have := (h.drop.lt x e).2; omega⟩
  cases hg : G x with
  | none => rfl
  | some Q => have := h.tm.mem.lt (a := x) (by rw [hg]; simp); omega

/-- Another node beside the branch. -/
theorem SIn.node {w w' : World} {O : Nat → Prop} {t p b m sm rb : Nat} {s : St} {q : Pg} {Dn S : Stt} {D : Dk} {G : Gh} {Rw : Nat → Prop} {ds : List Nat} {hh b0 off : Nat} {ks : List (ByteArray × Nat)} {bl : List (En (hh + 1))} {nd nd2 : Nd} {T T2 : TypeId} {v v2 : Value} {n n2 : List (En hh)} {bb : Nat} (h : SIn w O t p b m sm rb s q Dn S D G Rw ds hh b0 off ks bl nd T v n) (hT : Turn [] w w') (hin : NdIn w' bb nd2 T2 v2) (hbb : w.heap.size ≤ bb) (hn : NodeIs G D hh nd2 n2) : SIn w' O t p b m sm rb s q Dn S D G Rw ds hh b0 off ks bl nd2 T2 v2 n2 ∧ ∀ x, rowOf v2 x → x = bb := by
  have h' := h.quiet hT
  have hrow : ∀ ad c' c, v2 = .slice (some ad) c' c → ad.block = bb := fun ad c' c e => by
    cases nd2 with
    | inl l =>
      obtain ⟨_, _, off, c2, h3, _⟩ := hin
      rw [e] at h3
      injection h3 with h3
      injection h3 with h3
      rw [h3]
    | inr l =>
      obtain ⟨_, _, off, c2, h3, _⟩ := hin
      rw [e] at h3
      injection h3 with h3
      injection h3 with h3
      rw [h3]
  refine ⟨⟨h'.td, h'.kids, h'.row, h'.both, h'.lvls, hin.v, hn, fun ad c' c e => ?_⟩, fun x hx => ?_⟩
  · rw [hrow ad c' c e]
    exact ⟨h.td.able hbb, hin.lt⟩
  · obtain ⟨ad, c', c, e, rfl⟩ := hx
    exact hrow ad c' c e

/-- What settled does beside a place. -/
structure Beside (w : World) (O : Nat → Prop) (t p b m sm rb : Nat) (s : St) (q : Pg) (Dn S : Stt) (D : Dk) (G : Gh) (Rw : Nat → Prop) (ds : List Nat) (hh b0 off : Nat) (ks : List (ByteArray × Nat)) (bl : List (En (hh + 1))) (nd : Nd) (T : TypeId) (v : Value) (n : List (En hh)) (x : En (hh + 1)) (ai : Nat) : Prop where
  short : Calls Tryz.prog 158 #[.pointer (some ⟨t, 0, none⟩), .iface T v, .pointer (some ⟨ai, 0, none⟩)] w fun e w' => e = .returned (.bool (shortN n (kidsOf x))) ∧ SRd w w' O t p b m sm rb s q Dn S D G Rw ds hh b0 off ks bl nd T v n
  take : ds.length ≤ 100000 → S.fresh ≤ 100000 ∧ (pageOf x = 0 → 1 ≤ S.fresh) → Calls Tryz.prog 131 #[.pointer (some ⟨t, 0, none⟩), .pointer (some ⟨ai, 0, none⟩)] w fun e w' => ∃ T3 v3 nd3 G' Rw' r S' ds', e = .returned (.iface T3 v3) ∧ NdV w' nd3 T3 v3 ∧ NodeIs G' D hh nd3 (kidsOf x) ∧ SIn w' O t p b m sm rb s { q with rd := r } Dn S' D G' Rw' ds' hh b0 off ks bl nd T v n ∧ Grown D G G' ∧ TGo t p w w' G G' Rw Rw' S.dropped S'.dropped ∧ Mvd [pageOf x] 0 S S' ds ds'
theorem SIn.beside {w : World} {O : Nat → Prop} {t p b m sm rb : Nat} {s : St} {q : Pg} {Dn S : Stt} {D : Dk} {G : Gh} {Rw : Nat → Prop} {ds : List Nat} {hh b0 off : Nat} {ks : List (ByteArray × Nat)} {bl : List (En (hh + 1))} {nd : Nd} {T : TypeId} {v : Value} {n : List (En hh)} (h : SIn w O t p b m sm rb s q Dn S D G Rw ds hh b0 off ks bl nd T v n) (hf : ∀ e ∈ bl, FullE e) (hn : ∀ e ∈ n, FullE e) (hz : sizeN n ≤ 1000) {i : Nat} {x : En (hh + 1)} (hx : bl[i]? = some x) : ∃ ai, w.cell? ⟨b0, off + i * 2, none⟩ = some (.string x.key) ∧ w.cell? ⟨b0, off + i * 2 + 1, none⟩ = some (.pointer (some ⟨ai, 0, none⟩)) ∧ Beside w O t p b m sm rb s q Dn S D G Rw ds hh b0 off ks bl nd T v n x ai := by
  obtain ⟨hi, rfl⟩ := List.getElem?_eq_some_iff.1 hx
  have hi' : i < ks.length := by rw [h.both.length]; exact hi
  obtain ⟨h0, h1, _⟩ := h.at_ hi' hi
  exact ⟨ks[i].2, h0, h1, short_at h hf hn hz hi' hi, fun hds hfr => take_at h hds hi' hi hfr⟩

end Go.Proofs.YthgpjkcgccdldaaGreatDoor

namespace Go.Proofs.YthgpjkcgccdldaaGreatDoor
open Go.RowKit Go.Maps

/-- How many entries a node has. -/
def lenNd : Nd → Nat
  | .inl l => l.length
  | .inr ks => ks.length
theorem nd_some {G : Gh} {D : Dk} {hh : Nat} {nd : Nd} {n : List (En hh)} (hn : NodeIs G D hh nd n) : lenNd nd = n.length := by
  cases hh with
  | zero =>
    obtain rfl : nd = .inl n := hn
    rfl
  | succ hh =>
    obtain ⟨ks, rfl, hb⟩ := hn
    exact hb.length

/-- placed, of the node beside the branch. -/
theorem SIn.placed {w : World} {O : Nat → Prop} {t p b m sm rb : Nat} {s : St} {q : Pg} {Dn S : Stt} {D : Dk} {G : Gh} {Rw : Nat → Prop} {ds : List Nat} {hh b0 off : Nat} {ks : List (ByteArray × Nat)} {bl : List (En (hh + 1))} {nd : Nd} {T : TypeId} {v : Value} {n : List (En hh)} (h : SIn w O t p b m sm rb s q Dn S D G Rw ds hh b0 off ks bl nd T v n) (hfe : ∀ e ∈ n, FullE e) (hz : sizeN n ≤ 1900) (h0 : 0 < n.length) (hfr : S.fresh ≤ 100000) (low : ByteArray) :
    Calls Tryz.prog 129 #[.pointer (some ⟨t, 0, none⟩), .iface T v, .int .i64 ((hh + 1 : Nat) : Int), .string low] w fun e w' => ∃ v' bb, e = .returned v' ∧ rowOf v bb ∧ NewPl w O t p b m sm rb s q Dn S D G Rw ds bb hh (placedN n low) w' v' := by
  obtain ⟨bb, off2, m2, c2, hv, hin⟩ := h.nv.in_ (by rw [← nd_some h.nis] at h0; cases nd <;> exact h0)
  refine (tm_placed h.td hin h.nis hfe hz (h.able _ _ _ hv).1 hfr low).mono ?_
  rintro e w' ⟨v', rfl, hN⟩
  exact ⟨v', bb, rfl, ⟨_, _, _, hv, rfl⟩, hN⟩

/-- The pages of new places. -/
theorem placed_pages {h : Nat} (n : List (En h)) (lo : ByteArray) : (pagesN (placedN n lo)).Perm (pagesN n ++ List.replicate (placedN n lo).length 0) := by
  have hmk : ∀ (lo : ByteArray) (l : List (En h)), pagesN [mkE lo 0 l] = 0 :: pagesN l := fun lo l => pages_one _
  by_cases hz : sizeN n ≤ 495
  · rw [placedN_one hz, hmk]
    show ([0] ++ pagesN n).Perm (pagesN n ++ [0])
    exact List.perm_append_comm
  · rw [placedN_two hz rfl]
    have e : ∀ (x y : En (h + 1)), pagesN [x, y] = pagesN [x] ++ pagesN [y] := fun x y => pagesN_append [x] [y]
    rw [e, hmk, hmk]
    have e2 : pagesN n = pagesN (n.take (middleN (n.map En.size))) ++ pagesN (n.drop (middleN (n.map En.size))) := by
      rw [← pagesN_append, List.take_append_drop]
    rw [e2]
    generalize pagesN (n.take (middleN (n.map En.size))) = A
    generalize pagesN (n.drop (middleN (n.map En.size))) = B
    show ((0 :: A) ++ (0 :: B)).Perm ((A ++ B) ++ [0, 0])
    have h1 : ((0 :: A) ++ (0 :: B)).Perm ([0, 0] ++ (A ++ B)) := by
      show (0 :: (A ++ 0 :: B)).Perm (0 :: 0 :: (A ++ B))
      exact List.Perm.cons _ List.perm_middle
    exact h1.trans List.perm_append_comm

/-- The branch's row where the state's object turns. -/
theorem SIn.kids_t {w w' : World} {O : Nat → Prop} {t p b m sm rb : Nat} {s : St} {q : Pg} {Dn S : Stt} {D : Dk} {G : Gh} {Rw : Nat → Prop} {ds : List Nat} {hh b0 off : Nat} {ks : List (ByteArray × Nat)} {bl : List (En (hh + 1))} {nd : Nd} {T : TypeId} {v : Value} {n : List (En hh)} (h : SIn w O t p b m sm rb s q Dn S D G Rw ds hh b0 off ks bl nd T v n) (hT : Turn [t] w w') : KidsAt w' (some ⟨b0, off, none⟩) ks :=
  h.kids.turn hT fun x _ hx => by
    obtain rfl := Option.some.inj hx
    simp
    rintro rfl
    exact (h.td.tm.own b0 (.inr h.row)).1 (by simp)

theorem placed_len {h : Nat} (n : List (En h)) (lo : ByteArray) : 1 ≤ (placedN n lo).length ∧ (placedN n lo).length ≤ 2 := by
  by_cases hz : sizeN n ≤ 495
  · rw [placedN_one hz]
    simp
  · rw [placedN_two hz rfl]
    simp

/-- Its parts and the new places, behind one another. -/
theorem SIn.cat {w1 w3 : World} {O : Nat → Prop} {t p b m sm rb : Nat} {s : St} {q : Pg} {Dn S : Stt} {D : Dk} {G : Gh} {Rw : Nat → Prop} {ds : List Nat} {hh b0 off : Nat} {ks : List (ByteArray × Nat)} {bl : List (En (hh + 1))} {nd : Nd} {T : TypeId} {v : Value} {n : List (En hh)} (h : SIn w1 O t p b m sm rb s q Dn S D G Rw ds hh b0 off ks bl nd T v n) (hT : Turn [t] w1 w3) {f f2 cap g2 c3 n3 : Nat} {ks2 : List (ByteArray × Nat)} {a3 : Option Addr} (hf : f ≤ ks.length) (hk : ks.length ≤ 1000) (hK2 : KidsAt w3 (some ⟨g2, 0, none⟩) ks2) (h2 : ks2.length ≤ 2) (hn3 : n3 = ks.length - f2) (z3 : a3 = none → c3 = 0) (k3 : KidsAt w3 a3 (ks.drop f2)) (e : TypeId) (cc : Nat) :
    Calls Tryz.prog 160 #[.slice (some ⟨w3.heap.size, 0, none⟩) 3 cc] (w3.alloc (.cells #[.slice (some ⟨b0, off, none⟩) f cap, .slice (some ⟨g2, 0, none⟩) ks2.length ks2.length, .slice a3 n3 c3] e)) fun e w' => ∃ v base, e = .returned v ∧ w3.heap.size ≤ base ∧ w'.ownsRow base 173 2 v ((ks.take f).length + ks2.length + (ks.drop f2).length) (flat (kidCells (ks.take f ++ (ks2 ++ ks.drop f2)))) ∧ Turn [] w3 w' := by
  have hA : ∀ o, Turn [] w3 (w3.alloc o) := fun o => (Turn.refl [] w3).alloc o
  refine (kcat3 w3.heap.size cc f ks2.length n3 cap ks2.length c3 (some ⟨b0, off, none⟩) (some ⟨g2, 0, none⟩) a3 (ks.take f) ks2 (ks.drop f2) (by rw [List.length_take]; omega) rfl (by rw [List.length_drop]; omega) (by rw [List.length_take, List.length_drop]; omega) _ (World.cell?_alloc_at _ _ _ _ rfl) (World.cell?_alloc_at _ _ _ _ rfl) (World.cell?_alloc_at _ _ _ _ rfl) (by simp) (by simp) z3 (((h.kids_t hT).part f).1.turn0 (hA _)) (hK2.turn0 (hA _)) (k3.turn0 (hA _))).mono ?_
  rintro e w' ⟨v, rfl, hO, hT'⟩
  exact ⟨v, _, rfl, (hA _).size, hO, (hA _).trans hT'⟩

/-- What settled leaves. -/
theorem sout_of {w w1 w3 w5 : World} {O : Nat → Prop} {t p b m sm rb : Nat} {s : St} {q : Pg} {Dn S S2 : Stt} {D : Dk} {G G2 G3 : Gh} {Rw Rw2 : Nat → Prop} {ds ds2 : List Nat} {hh b0 off f f2 bb base L : Nat} {ks ks2 : List (ByteArray × Nat)} {bl a z : List (En (hh + 1))} {c : En (hh + 1)} {nd2 : Nd} {T2 : TypeId} {v v2 v5 : Value} {n n2 : List (En hh)} {X : List Nat} {r2 : Bool} {lo : ByteArray}
    (hS : SIn w1 O t p b m sm rb s { q with rd := r2 } Dn S2 D G2 Rw2 ds2 hh b0 off ks bl nd2 T2 v2 n2) (hP : Pick bl a z c n f f2 n2 X) (hlo : ∃ hf : f < bl.length, lo = bl[f].key) (hGr : Grown D G G2) (hGo : TGo t p w w1 G G2 Rw Rw2 S.dropped S2.dropped) (hMv : Mvd X 0 S S2 ds ds2) (hRow : ∀ x, rowOf v2 x → rowOf v x ∨ Rw2 x ∨ w.heap.size ≤ x) (hbb : rowOf v2 bb)
    (hB2 : Both (KidIs G3 (Means G3 D hh)) ks2 (placedN n2 lo)) (hTD3 : TD w3 O t p b m sm rb s { q with rd := r2 } Dn { S2 with fresh := S2.fresh + (placedN n2 lo).length } D G3 (fun y => Rw2 y ∨ y = bb) ds2) (hGr3 : Grown D G2 G3) (hT3 : Turn [t] w1 w3) (hnew : ∀ x, G3 x ≠ none → G2 x ≠ none ∨ w1.heap.size ≤ x)
    (hO : w5.ownsRow base 173 2 v5 L (flat (kidCells (ks.take f ++ (ks2 ++ ks.drop f2))))) (hL : 0 < L) (h35 : Turn [] w3 w5) (hsz : w3.heap.size ≤ base) : SOut w w5 O t p b m sm rb s q Dn S D G Rw ds hh a z c n v v5 := by
  obtain ⟨g, c5, rfl, hg, hgl, hpr, h1, h2, h3⟩ := own_in hO hL
  have hs01 := hGo.size
  have hs13 := hT3.size
  have hcomp := hGo.trans (⟨⟨[t], hT3, fun x hx => .inl (List.mem_singleton.1 hx)⟩, hnew, fun _ h => .inl h, fun _ h => h, fun _ h => .inl h⟩ : TGo t p w1 w3 G2 G3 Rw2 Rw2 S2.dropped S2.dropped)
  have hcomp := hcomp.quiet h35
  have hTD5 := hTD3.read (hTD3.tm.quiet h35) ((TStep.refl p w3 G3 _).quiet h35)
  have hkey : settleN a c.key n z = bl.take f ++ (placedN n2 lo ++ bl.drop f2) := hP.is_ lo hlo
  have hold : ∀ k ∈ ks, ∀ e ∈ bl, KidIs G2 (Means G2 D hh) k e → KidIs G3 (Means G3 D hh) k e := fun k _ e _ hk => by
    obtain ⟨h1, ⟨Q, h2, h3⟩, h4⟩ := hk
    obtain ⟨Q', q1, q2, _⟩ := hGr3.at_ _ Q h2
    exact ⟨h1, ⟨Q', q1, q2.trans h3⟩, h4.grown hGr3⟩
  have hboth := hS.both.mono hold
  have hlen : (ks.take f ++ (ks2 ++ ks.drop f2)).length = L := by
    have : (kidCells (ks.take f ++ (ks2 ++ ks.drop f2))).length = (ks.take f ++ (ks2 ++ ks.drop f2)).length := List.length_map _
    omega
  subst hlen
  refine ⟨G3, fun x => Rw x ∨ x = bb, fun y => Rw2 y ∨ y = bb, r2, _, ds2, ks.take f ++ (ks2 ++ ks.drop f2), g, c5, X, (placedN n2 lo).length, rfl, by omega, h1, h2, hpr.kids, ?_, hTD5, hGr.trans hGr3, fun _ h => .inl h, fun x hx => ?_, ⟨hcomp.turn, hcomp.newG, fun x hx => ?_, fun x hx => ?_, hcomp.newD⟩, ⟨hMv.root, hMv.keys, hMv.changed, ?_, hMv.drop⟩, ?_, ?_, fun hr => ?_, hgl, hP.few, (placed_len n2 lo).2⟩
  · rw [hkey]
    exact (hboth.take f).append (hB2.append (hboth.drop f2))
  · rcases hx with hx | rfl
    · exact .inl hx
    · rcases hRow x hbb with h4 | h4 | h4
      · exact .inr (.inl h4)
      · rcases hGo.newR x h4 with h5 | h5
        · exact .inl h5
        · exact .inr (.inr h5)
      · exact .inr (.inr h4)
  · rcases hx with hx | rfl
    · rcases hGo.newR x hx with h5 | h5
      · exact .inl (.inl h5)
      · exact .inr h5
    · exact .inl (.inr rfl)
  · rcases hx with hx | rfl
    · exact .inl (hGo.oldR x hx)
    · exact .inr rfl
  · have := hMv.fresh
    show S2.fresh + (placedN n2 lo).length + X.count 0 = S.fresh + (placedN n2 lo).length
    omega
  · rw [hkey]
    have h6 := placed_pages n2 lo
    rw [pagesN_append, pagesN_append]
    generalize List.replicate (placedN n2 lo).length 0 = Z at *
    have h7 : (pagesN (bl.take f) ++ (pagesN (placedN n2 lo) ++ pagesN (bl.drop f2)) ++ X).Perm ((pagesN (bl.take f) ++ (pagesN n2 ++ (pagesN (bl.drop f2) ++ X))) ++ Z) := by
      simp only [List.append_assoc]
      refine List.Perm.append_left _ ?_
      refine (h6.append_right _).trans ?_
      simp only [List.append_assoc]
      refine List.Perm.append_left _ ?_
      have : (Z ++ ((pagesN (bl.drop f2)) ++ X)).Perm ((pagesN (bl.drop f2) ++ X) ++ Z) := List.perm_append_comm
      simpa only [List.append_assoc] using this
    exact h7.trans (hP.pages.append_right Z)
  · exact (hTD3.able (by omega)).imp id (fun h => h)
  · have := hTD3.tm.mem.rows g hr
    omega

end Go.Proofs.YthgpjkcgccdldaaGreatDoor

namespace Go.Proofs.YthgpjkcgccdldaaGreatDoor
open Go.RowKit Go.Maps

theorem getK_stands {l : List (ByteArray × ByteArray)} {key : ByteArray} (hs : Rises (keysOf l)) {i : Nat} (h : Stands l key i) : ∃ hi : i < l.length, getK l key = some l[i].2 := by
  obtain ⟨hi, hk⟩ := h
  refine ⟨hi, ?_⟩
  unfold getK
  have hf : l.find? (fun x => decide (x.1 = key)) = some l[i] := by
    rw [List.find?_eq_some_iff_getElem]
    refine ⟨by simp [hk], i, hi, rfl, fun j hj => ?_⟩
    have hjl : j < l.length := by omega
    have h1 := hs.get hj (by rw [keysOf_length]; exact hi)
    rw [keysOf_get hjl, keysOf_get hi, hk] at h1
    simp
    exact klt_ne h1
  rw [hf]
  rfl
theorem getK_none {l : List (ByteArray × ByteArray)} {key : ByteArray} (hs : Rises (keysOf l)) {i : Nat} (hp : IsPos (keysOf l) key i) (h : ¬ Stands l key i) : getK l key = none := by
  unfold getK
  have hf : l.find? (fun x => decide (x.1 = key)) = none := by
    rw [List.find?_eq_none]
    intro x hx
    obtain ⟨j, hj, rfl⟩ := List.getElem_of_mem hx
    simp
    intro e
    have hjk : j < (keysOf l).length := by rw [keysOf_length]; exact hj
    by_cases h1 : j < i
    · have h2 := hp.2.1 j hjk h1
      rw [keysOf_get hj, e] at h2
      exact klt_irrefl _ h2
    · by_cases h3 : j = i
      · subst h3
        exact h ⟨hj, e⟩
      · have hil : i < l.length := by omega
        have h4 := hs.get (show i < j by omega) hjk
        rw [keysOf_get hj, keysOf_get hil, e] at h4
        have h5 := hp.2.2 i (by rw [keysOf_length]; exact hil) (Nat.le_refl _)
        rw [keysOf_get hil] at h5
        exact h5 h4
  rw [hf]
  rfl

/-- What Get answers of what a plain row has. -/
def gotV (x : Option ByteArray) : Value := .tuple #[.string (x.getD ⟨#[]⟩), .bool x.isSome]

set_option maxRecDepth 100000 in
set_option maxHeartbeats 3200000 in
theorem get_gen (t : Nat) (key : ByteArray) (want : Option ByteArray) (w : World) (R : World → Prop) (hR : ∀ u v, R u → Turn [] u v → R v)
    (hL : Calls Tryz.prog 81 #[.pointer (some ⟨t, 0, none⟩), .string key] w fun e w' => ∃ v L, e = .returned v ∧ LeafFor w' key want v L ∧ R w') :
    Calls Tryz.prog 54 #[.pointer (some ⟨t, 0, none⟩), .string key] w fun e w' => e = .returned (gotV want) ∧ R w' := by
  have HL := hide hL
  have HR := hide hR
  clear hL hR
  go_enter Tryz.func54, Tryz.ntmps54
  go_wp2_with fail
  refine HL.out.mono ?_
  rintro e w1 ⟨v, L, rfl, hF, hr⟩
  obtain ⟨b, off, c, rfl, hK, hc⟩ := hF.ex
  have HF := hide (lfind_any (some ⟨b, off, none⟩) c L key hF.rises (by have := hF.len; omega) w1 hK)
  have HK := hide hK
  have HLf := hide hF
  have Hr := hide hr
  have hlen := hF.len
  clear hK hF hr hc HL
  go_wp2_with fail
  refine HF.out.mono ?_
  rintro e w2 ⟨i, f, rfl, hi, hf, hT⟩
  have Hr2 := hide (HR.out _ _ Hr.out hT)
  have HK2 := hide (HK.out.turn0 hT)
  have HI := hide hi
  have HFs := hide hf
  clear hi hf hT Hr HK
  cases f with
  | true =>
    obtain ⟨hil, hg⟩ := getK_stands HLf.out.rises (HFs.out.1 rfl)
    obtain ⟨b', off', e', _, hc2⟩ := HK2.out.at hil
    injection e' with e'
    injection e' with e1 e2
    subst e1 e2
    have HG := hide (hg.symm.trans HLf.out.get)
    clear hg
    generalize L[i].2 = x at *
    go_wp2_with fail
    go_ret2
    refine ⟨?_, Hr2.out⟩
    rw [← HG.out]
    rfl
  | false =>
    have HG := hide ((getK_none HLf.out.rises HI.out (fun h => by have := HFs.out.2 h; cases this)).symm.trans HLf.out.get)
    go_wp2_with fail
    go_ret2
    refine ⟨?_, Hr2.out⟩
    rw [← HG.out]
    rfl

end Go.Proofs.YthgpjkcgccdldaaGreatDoor
