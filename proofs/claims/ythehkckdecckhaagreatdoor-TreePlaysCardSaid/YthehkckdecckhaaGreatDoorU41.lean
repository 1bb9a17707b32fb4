/-
  A tree with its memory and its disk; nodeAt of any place of it.
  nodeAt of any place of a tree.
  The way of a key down a tree: what it meets, by itself.
  leafOf, walked: the leaf on a key's way.
  A node is laid into a page: its bytes, what the tree's memory and the disk are then.
  What write leaves of a place, and of the kids of a branch, one behind the other.
  write, walked, of any place.
-/
import Derived.Test.YthehkckdecckhaaGreatDoorU40
import Derived.Test.YthehkckdecckhaaGreatDoorU33
import Derived.Test.YthehkckdecckhaaGreatDoorU36

namespace Go.Proofs.YthehkckdecckhaaGreatDoor
open Go.RowKit Go.Maps

/-- Kids' places that were not read yet. -/
def addKids (G : Gh) (lvl : Nat) : List (ByteArray × Nat) → List (ByteArray × Nat) → Gh
  | k :: ks, e :: es => (addKids G lvl ks es).add k.2 ⟨e.2, lvl, none⟩
  | _, _ => G
theorem addKids_other {G : Gh} {lvl x : Nat} : {ks es : List (ByteArray × Nat)} → (∀ k ∈ ks, k.2 ≠ x) → addKids G lvl ks es x = G x
  | [], _, _ => by unfold addKids; rfl
  | _ :: _, [], _ => by unfold addKids; rfl
  | k :: ks, e :: es, h => by
    unfold addKids
    rw [Gh.add_other _ _ (Ne.symm (h k (List.mem_cons_self ..)))]
    exact addKids_other fun k' hk => h k' (List.mem_cons_of_mem _ hk)
theorem addKids_at {G : Gh} {lvl : Nat} : {ks es : List (ByteArray × Nat)} → (ks.map Prod.snd).Nodup → ∀ i (h : i < ks.length) (h' : i < es.length), addKids G lvl ks es ks[i].2 = some ⟨es[i].2, lvl, none⟩
  | k :: ks, e :: es, hn, 0, _, _ => by
    unfold addKids
    exact Gh.add_same _ _ _
  | k :: ks, e :: es, hn, i + 1, h, h' => by
    have hn' := List.nodup_cons.1 hn
    have hi : i < ks.length := by simpa using h
    unfold addKids
    rw [List.getElem_cons_succ, Gh.add_other _ _ (fun e2 => hn'.1 (List.mem_map.2 ⟨ks[i], List.getElem_mem hi, e2⟩))]
    exact addKids_at hn'.2 i hi (by simpa using h')
  | [], _, _, i, h, _ => absurd h (by simp)
  | _ :: _, [], _, i, _, h' => absurd h' (by simp)
theorem addKids_some {G : Gh} {lvl x : Nat} : {ks es : List (ByteArray × Nat)} → addKids G lvl ks es x ≠ none → G x ≠ none ∨ ∃ k ∈ ks, k.2 = x
  | [], _, h => .inl h
  | _ :: _, [], h => .inl h
  | k :: ks, e :: es, h => by
    by_cases hk : k.2 = x
    · exact .inr ⟨k, List.mem_cons_self .., hk⟩
    · unfold addKids at h
      rw [Gh.add_other _ _ (Ne.symm hk)] at h
      rcases addKids_some h with h | ⟨k', hk', e'⟩
      · exact .inl h
      · exact .inr ⟨k', List.mem_cons_of_mem _ hk', e'⟩

/-- What calls that only read make of a tree's memory. -/
structure TStep (p : Nat) (w w' : World) (G G' : Gh) (Rw Rw' : Nat → Prop) : Prop where
  turn : ∃ X, Turn X w w' ∧ ∀ x ∈ X, x = p ∨ G x ≠ none
  newG : ∀ x, G' x ≠ none → G x ≠ none ∨ w.heap.size ≤ x
  newR : ∀ x, Rw' x → Rw x ∨ w.heap.size ≤ x
  oldR : ∀ x, Rw x → Rw' x
theorem TStep.size {p : Nat} {w w' : World} {G G' : Gh} {Rw Rw' : Nat → Prop} (h : TStep p w w' G G' Rw Rw') : w.heap.size ≤ w'.heap.size := by
  obtain ⟨_, h, _⟩ := h.turn
  exact h.size
theorem TStep.refl (p : Nat) (w : World) (G : Gh) (Rw : Nat → Prop) : TStep p w w G G Rw Rw := ⟨⟨[], Turn.refl _ _, by simp⟩, fun _ h => .inl h, fun _ h => .inl h, fun _ h => h⟩
theorem TStep.trans {p : Nat} {u v w : World} {G G' G'' : Gh} {R R' R'' : Nat → Prop} (h : TStep p u v G G' R R') (k : TStep p v w G' G'' R' R'') : TStep p u w G G'' R R'' := by
  have hs := h.size
  refine ⟨?_, fun x hx => ?_, fun x hx => ?_, fun x hx => k.oldR x (h.oldR x hx)⟩
  · obtain ⟨X, hX, h1⟩ := h.turn
    obtain ⟨Y, hY, k1⟩ := k.turn
    refine ⟨X ++ Y.filter (fun x => decide (x < u.heap.size)), (hX.mono (by intro x hx; simp [hx])).then hY (fun x hx => ?_), fun x hx => ?_⟩
    · by_cases hl : x < u.heap.size
      · exact .inl (List.mem_append_right _ (List.mem_filter.2 ⟨hx, by simpa using hl⟩))
      · exact .inr (Nat.le_of_not_lt hl)
    · rcases List.mem_append.1 hx with hx | hx
      · exact h1 x hx
      · obtain ⟨hy, hl⟩ := List.mem_filter.1 hx
        rcases k1 x hy with e | hg
        · exact .inl e
        · rcases h.newG x hg with hg | hg
          · exact .inr hg
          · have : x < u.heap.size := by simpa using hl
            omega
  · rcases k.newG x hx with hx | hx
    · exact h.newG x hx
    · exact .inr (Nat.le_trans hs hx)
  · rcases k.newR x hx with hx | hx
    · exact h.newR x hx
    · exact .inr (Nat.le_trans hs hx)

/-- A tree, its memory, its disk; O: blocks of others. -/
structure TM (w : World) (O : Nat → Prop) (t p b m sm rb : Nat) (s : St) (q : Pg) (Dn S : Stt) (D : Dk) (G : Gh) (Rw : Nat → Prop) : Prop where
  pa : PAt w p b m sm rb s q
  tr : TreeAt w t p Dn S
  off : Off t p b m sm rb
  rbl : rb < w.heap.size
  sd : s.dead = false
  qd : q.dead = false
  mem : Mem w Rw G
  dk : DkOk s q D
  own : ∀ x, (G x ≠ none ∨ Rw x) → x ∉ [1, t, p, b, m, sm, rb] ∧ ¬ O x
  no : ∀ x ∈ [1, t, p, b, m, sm, rb], ¬ O x
  ob : ∀ x, O x → x < w.heap.size

theorem not7 {x t p b m sm rb : Nat} (h : x ∉ [1, t, p, b, m, sm, rb]) : x ≠ 1 ∧ x ≠ p ∧ x ≠ b ∧ x ≠ m ∧ x ≠ sm ∧ x ≠ rb ∧ x ≠ t := by
  simp at h
  exact ⟨h.1, h.2.2.1, h.2.2.2.1, h.2.2.2.2.1, h.2.2.2.2.2.1, h.2.2.2.2.2.2, h.2.1⟩
theorem TM.lts {w : World} {O : Nat → Prop} {t p b m sm rb : Nat} {s : St} {q : Pg} {Dn S : Stt} {D : Dk} {G : Gh} {Rw : Nat → Prop} (h : TM w O t p b m sm rb s q Dn S D G Rw) : ∀ x ∈ [1, t, p, b, m, sm, rb], x < w.heap.size := by
  have h1 : (1 : Nat) < w.heap.size := by have := h.pa.tab 0 (by omega); exact lt_of_cell this
  have h2 := h.tr.lt
  have h3 := h.pa.pg.lt
  have h4 := h.pa.disk.lt
  have h5 := h.pa.disk.ltm
  have h6 := h.pa.pg.lts
  have h7 := h.rbl
  intro x hx
  simp at hx
  rcases hx with rfl | rfl | rfl | rfl | rfl | rfl | rfl <;> assumption
theorem PAt.rd {w : World} {p b m sm rb : Nat} {s : St} {q : Pg} (h : PAt w p b m sm rb s q) : PAt w p b m sm rb s { q with rd := q.rd } := h

set_option maxRecDepth 100000 in
/-- nodeAt of a place that was read. -/
theorem tm_node_some {w : World} {O : Nat → Prop} {t p b m sm rb : Nat} {s : St} {q : Pg} {Dn S : Stt} {D : Dk} {G : Gh} {Rw : Nat → Prop} (h : TM w O t p b m sm rb s q Dn S D G Rw) {a : Nat} {P : Pl} (hP : G a = some P) {nd : Nd} (hnd : P.nd = some nd) :
    Calls Tryz.prog 62 #[.pointer (some ⟨t, 0, none⟩), .pointer (some ⟨a, 0, none⟩)] w fun e w' => ∃ T v, e = .returned (.iface T v) ∧ NdAt w' Rw G P.lvl nd T v ∧ TM w' O t p b m sm rb s q Dn S D G Rw ∧ TStep p w w' G G Rw Rw := by
  have hpl := h.mem.at_ a P hP
  have hpl2 := hpl
  unfold PlOk at hpl
  rw [hnd] at hpl
  obtain ⟨d, T, v, hd, hPl, hN⟩ := hpl
  have ha := (h.own a (.inl (by rw [hP]; simp))).1
  have hna := not7 ha
  refine (nodeAt_some t a P.pg P.lvl d hd T v w hPl).mono ?_
  rintro e w' ⟨rfl, hP', hT⟩
  have hrow : ∀ b, Rw b → w'.heap[b]? = w.heap[b]? := fun b hr => hT.block b (h.mem.rows b hr) (by
    simp
    rintro rfl
    rw [h.mem.apart _ hr] at hP
    cases hP)
  have hN' := hN.keep (w' := w') (Rw' := Rw) (G' := G) hrow (fun _ h => h) (fun _ Q hQ => ⟨Q, hQ, rfl⟩)
  refine ⟨T, v, rfl, hN', ⟨h.pa.turn hT (by simp; exact hna.1.symm) (by simp; exact hna.2.1.symm) (by simp; exact hna.2.2.1.symm) (by simp; exact hna.2.2.2.1.symm) (by simp; exact hna.2.2.2.2.1.symm) (by simp; exact hna.2.2.2.2.2.1.symm), h.tr.turn hT (by simp; exact hna.2.2.2.2.2.2.symm), h.off, Nat.lt_of_lt_of_le h.rbl hT.size, h.sd, h.qd, ⟨fun x Q hQ => ?_, h.mem.apart, fun b hr => Nat.lt_of_lt_of_le (h.mem.rows b hr) hT.size⟩, h.dk, h.own, h.no, fun x hx => Nat.lt_of_lt_of_le (h.ob x hx) hT.size⟩, ⟨⟨[a], hT, fun x hx => .inr (by rw [List.mem_singleton.1 hx, hP]; simp)⟩, fun _ h => .inl h, fun _ h => .inl h, fun _ h => h⟩⟩
  by_cases hxa : x = a
  · subst hxa
    obtain rfl : P = Q := by rw [hP] at hQ; exact Option.some.inj hQ
    unfold PlOk
    rw [hnd]
    exact ⟨1, T, v, .inr rfl, hP', hN'⟩
  · exact (h.mem.at_ x Q hQ).keep (hT.block x (h.mem.at_ x Q hQ).lt (by simp; exact hxa)) hrow (fun _ h => h) (fun _ Q hQ => ⟨Q, hQ, rfl⟩)

/-- What was added for a leaf that was read. -/
theorem tm_leaf {w w' : World} {O : Nat → Prop} {t p b m sm rb : Nat} {s : St} {q : Pg} {Dn S : Stt} {D : Dk} {G : Gh} {Rw : Nat → Prop} (h : TM w O t p b m sm rb s q Dn S D G Rw) {a : Nat} {P : Pl} {l : List (En 0)} (hP : G a = some P) (hnd : P.nd = none) (hlv : P.lvl = 1) (hod : OnDisk D 0 P.pg l) {g c : Nat} (hg : w.heap.size ≤ g) (hgl : g < w'.heap.size) (hK : KVsAt w' (some ⟨g, 0, none⟩) l) (hc : l.length ≤ c ∧ c ≤ 9223372036854775807) (hPl : PlaceAt w' a P.pg P.lvl 1 (.iface 73 (.slice (some ⟨g, 0, none⟩) l.length c))) (hA : PAt w' p b m sm rb s { q with rd := true }) (hTr : TreeAt w' t p Dn S) (hT : Turn [p, a] w w') :
    ∃ G' Rw', NdAt w' Rw' G' P.lvl (.inl l) 73 (.slice (some ⟨g, 0, none⟩) l.length c) ∧ TM w' O t p b m sm rb s { q with rd := true } Dn S D G' Rw' ∧ Grown D G G' ∧ TStep p w w' G G' Rw Rw' := by
  have hlt := h.lts
  have hal := h.mem.lt (a := a) (by rw [hP]; simp)
  have hap := (not7 (h.own a (.inl (by rw [hP]; simp))).1).2.1
  have hGg : G g = none := by
    cases hg0 : G g with
    | none => rfl
    | some Q => have := h.mem.lt (a := g) (by rw [hg0]; simp); omega
  have hN : NdAt w' (fun x => Rw x ∨ x = g) (G.add a { P with nd := some (.inl l) }) P.lvl (.inl l) 73 (.slice (some ⟨g, 0, none⟩) l.length c) := ⟨hlv, rfl, g, 0, c, rfl, hK, hc, .inr rfl⟩
  have hrow : ∀ b, Rw b → w'.heap[b]? = w.heap[b]? := fun b hr => hT.block b (h.mem.rows b hr) (by
    have h1 := (not7 (h.own b (.inr hr)).1).2.1
    have h2 : b ≠ a := by
      rintro rfl
      rw [h.mem.apart _ hr] at hP
      cases hP
    simp
    exact ⟨h1, h2⟩)
  have hGr : ∀ x Q, G x = some Q → ∃ Q', (G.add a { P with nd := some (.inl l) }) x = some Q' ∧ Q'.lvl = Q.lvl := fun x Q hQ => by
    by_cases e : x = a
    · subst e
      obtain rfl : P = Q := by rw [hP] at hQ; exact Option.some.inj hQ
      exact ⟨_, Gh.add_same _ _ _, rfl⟩
    · exact ⟨Q, (Gh.add_other _ _ e).trans hQ, rfl⟩
  refine ⟨_, _, hN, ⟨hA, hTr, h.off, Nat.lt_of_lt_of_le h.rbl hT.size, h.sd, h.qd, ⟨fun x Q hQ => ?_, fun x hx => ?_, fun x hx => ?_⟩, ⟨fun pg hh l' hD => h.dk.at_ pg hh l' hD⟩, fun x hx => ?_, h.no, fun x hx => Nat.lt_of_lt_of_le (h.ob x hx) hT.size⟩, Grown.read hP hnd hlv hod (Gh.add_same _ _ _) (fun x hx Q hQ => (Gh.add_other _ _ hx).trans hQ) rfl, ⟨⟨[p, a], hT, fun x hx => ?_⟩, fun x hx => ?_, fun x hx => ?_, fun x hx => .inl hx⟩⟩
  · by_cases e : x = a
    · subst e
      rw [Gh.add_same] at hQ
      obtain rfl := Option.some.inj hQ
      exact ⟨1, _, _, .inr rfl, hPl, hN⟩
    · rw [Gh.add_other _ _ e] at hQ
      have hx := h.mem.at_ x Q hQ
      exact hx.keep (hT.block x hx.lt (by simp; exact ⟨(not7 (h.own x (.inl (by rw [hQ]; simp))).1).2.1, e⟩)) hrow (fun _ h => .inl h) hGr
  · rcases hx with hx | rfl
    · rw [Gh.add_other _ _ (fun e => by rw [e, ] at hx; rw [h.mem.apart _ hx] at hP; cases hP)]
      exact h.mem.apart _ hx
    · rw [Gh.add_other _ _ (by omega)]
      exact hGg
  · rcases hx with hx | rfl
    · exact Nat.lt_of_lt_of_le (h.mem.rows x hx) hT.size
    · exact hgl
  · by_cases e : x = g
    · subst e
      exact ⟨fun hm => by have := hlt _ hm; omega, fun ho => by have := h.ob _ ho; omega⟩
    · refine h.own x ?_
      rcases hx with hx | hx | hx
      · by_cases e2 : x = a
        · subst e2
          exact .inl (by rw [hP]; simp)
        · rw [Gh.add_other _ _ e2] at hx
          exact .inl hx
      · exact .inr hx
      · exact absurd hx e
  · simp at hx
    rcases hx with rfl | rfl
    · exact .inl rfl
    · exact .inr (by rw [hP]; simp)
  · by_cases e : x = a
    · subst e
      exact .inl (by rw [hP]; simp)
    · rw [Gh.add_other _ _ e] at hx
      exact .inl hx
  · rcases hx with hx | rfl
    · exact .inl hx
    · exact .inr hg

/-- What was added for a branch that was read. -/
theorem tm_branch {w w' : World} {O : Nat → Prop} {t p b m sm rb : Nat} {s : St} {q : Pg} {Dn S : Stt} {D : Dk} {G : Gh} {Rw : Nat → Prop} (h : TM w O t p b m sm rb s q Dn S D G Rw) {a hh : Nat} {P : Pl} {l : List (En (hh + 1))} (hP : G a = some P) (hnd : P.nd = none) (hlv : P.lvl = hh + 2) (hod : OnDisk D (hh + 1) P.pg l) {g c : Nat} {ks : List (ByteArray × Nat)} (hgl : g < w'.heap.size) (hNK : NewKids w' w.heap.size (hh + 1) (.slice (some ⟨g, 0, none⟩) ks.length c) ks (l.map lowPg)) (hg : w.heap.size ≤ g) (hK : KidsAt w' (some ⟨g, 0, none⟩) ks) (hc : ks.length ≤ c ∧ c ≤ 9223372036854775807) (hPl : PlaceAt w' a P.pg P.lvl 1 (.iface 120 (.slice (some ⟨g, 0, none⟩) ks.length c))) (hA : PAt w' p b m sm rb s { q with rd := true }) (hTr : TreeAt w' t p Dn S) (hT : Turn [p, a] w w') :
    ∃ G' Rw', NdAt w' Rw' G' P.lvl (.inr ks) 120 (.slice (some ⟨g, 0, none⟩) ks.length c) ∧ NodeIs G' D (hh + 1) (.inr ks) l ∧ TM w' O t p b m sm rb s { q with rd := true } Dn S D G' Rw' ∧ Grown D G G' ∧ TStep p w w' G G' Rw Rw' := by
  have hlt := h.lts
  have hal := h.mem.lt (a := a) (by rw [hP]; simp)
  have hap := (not7 (h.own a (.inl (by rw [hP]; simp))).1).2.1
  have hnew : ∀ x, w.heap.size ≤ x → G x = none := fun x hx => by
    cases hg0 : G x with
    | none => rfl
    | some Q => have := h.mem.lt (a := x) (by rw [hg0]; simp); omega
  have hlen := hNK.len
  have hkn : ∀ k ∈ ks, w.heap.size ≤ k.2 ∧ k.2 ≠ g := fun k hk => ⟨(hNK.new k hk).1, fun e => (hNK.new k hk).2 (by rw [e]; rfl)⟩
  obtain ⟨G1, hG1⟩ : ∃ G1, G1 = addKids G (hh + 1) ks (l.map lowPg) := ⟨_, rfl⟩
  have h1old : ∀ x, x < w.heap.size → G1 x = G x := fun x hx => by
    rw [hG1]
    exact addKids_other fun k hk e => by have := (hkn k hk).1; omega
  have h1at : ∀ i (hi : i < ks.length) (hi' : i < (l.map lowPg).length), G1 ks[i].2 = some ⟨(l.map lowPg)[i].2, hh + 1, none⟩ := fun i hi hi' => by
    rw [hG1]
    exact addKids_at hNK.nodup i hi hi'
  have h1some : ∀ x, G1 x ≠ none → G x ≠ none ∨ ∃ k ∈ ks, k.2 = x := fun x hx => by
    rw [hG1] at hx
    exact addKids_some hx
  obtain ⟨G2, hG2⟩ : ∃ G2, G2 = G1.add a { P with nd := some (.inr ks) } := ⟨_, rfl⟩
  have h2a : G2 a = some { P with nd := some (.inr ks) } := by rw [hG2]; exact Gh.add_same _ _ _
  have h2o : ∀ x, x ≠ a → G2 x = G1 x := fun x hx => by rw [hG2]; exact Gh.add_other _ _ hx
  have hka : ∀ k ∈ ks, k.2 ≠ a := fun k hk e => by have := (hkn k hk).1; omega
  have h2k : ∀ i (hi : i < ks.length) (hi' : i < (l.map lowPg).length), G2 ks[i].2 = some ⟨(l.map lowPg)[i].2, hh + 1, none⟩ := fun i hi hi' => (h2o _ (hka _ (List.getElem_mem hi))).trans (h1at i hi hi')
  have hrow : ∀ b, Rw b → w'.heap[b]? = w.heap[b]? := fun b hr => hT.block b (h.mem.rows b hr) (by
    have h1 := (not7 (h.own b (.inr hr)).1).2.1
    have h2 : b ≠ a := by
      rintro rfl
      rw [h.mem.apart _ hr] at hP
      cases hP
    simp
    exact ⟨h1, h2⟩)
  have hN : NdAt w' (fun x => Rw x ∨ x = g) G2 P.lvl (.inr ks) 120 (.slice (some ⟨g, 0, none⟩) ks.length c) := ⟨by omega, rfl, g, 0, c, rfl, hK, hc, .inr rfl, fun k hk => by
    obtain ⟨i, hi, rfl⟩ := List.getElem_of_mem hk
    exact ⟨_, h2k i hi (by omega), by show hh + 1 + 1 = P.lvl; omega⟩⟩
  have hGr : ∀ x Q, G x = some Q → ∃ Q', G2 x = some Q' ∧ Q'.lvl = Q.lvl := fun x Q hQ => by
    by_cases e : x = a
    · subst e
      obtain rfl : P = Q := by rw [hP] at hQ; exact Option.some.inj hQ
      exact ⟨_, h2a, rfl⟩
    · exact ⟨Q, (h2o x e).trans ((h1old x (h.mem.at_ x Q hQ).lt).trans hQ), rfl⟩
  have hlowk : ∀ i (hi : i < ks.length) (hi' : i < l.length), ks[i].1 = l[i].key := fun i hi hi' => by
    have hl := hNK.low
    have h1 : (ks.map Prod.fst)[i]'(by simpa using hi) = ((l.map lowPg).map Prod.fst)[i]'(by simpa using hi') := by simp only [hl]
    simpa [lowPg] using h1
  have hNode : NodeIs G2 D (hh + 1) (.inr ks) l := by
    refine ⟨ks, rfl, Both.of_get (by rw [hlen, List.length_map]) fun i hi hi' => ⟨hlowk i hi hi', ⟨_, h2k i hi (by simpa using hi'), by simp [lowPg]⟩, ?_⟩⟩
    have hb := hod.below l[i] (List.getElem_mem hi')
    refine Means.of _ (h2k i hi (by simpa using hi')) rfl (fun _ => by simpa [lowPg] using hb) (fun _ => by simpa [lowPg] using hb.ne) (fun nd e => by cases e)
  refine ⟨G2, fun x => Rw x ∨ x = g, hN, hNode, ⟨hA, hTr, h.off, Nat.lt_of_lt_of_le h.rbl hT.size, h.sd, h.qd, ⟨fun x Q hQ => ?_, fun x hx => ?_, fun x hx => ?_⟩, ⟨fun pg hh' l' hD => h.dk.at_ pg hh' l' hD⟩, fun x hx => ?_, h.no, fun x hx => Nat.lt_of_lt_of_le (h.ob x hx) hT.size⟩, Grown.read hP hnd hlv hod h2a (fun x hx Q hQ => (h2o x hx).trans ((h1old x (h.mem.at_ x Q hQ).lt).trans hQ)) hNode, ⟨⟨[p, a], hT, fun x hx => ?_⟩, fun x hx => ?_, fun x hx => ?_, fun x hx => .inl hx⟩⟩
  · by_cases e : x = a
    · subst e
      rw [h2a] at hQ
      obtain rfl := Option.some.inj hQ
      exact ⟨1, _, _, .inr rfl, hPl, hN⟩
    · rw [h2o x e] at hQ
      rcases h1some x (by rw [hQ]; simp) with hx | ⟨k, hk, rfl⟩
      · have hxl := h.mem.lt hx
        rw [h1old x hxl] at hQ
        have hx := h.mem.at_ x Q hQ
        exact hx.keep (hT.block x hx.lt (by simp; exact ⟨(not7 (h.own x (.inl (by rw [hQ]; simp))).1).2.1, e⟩)) hrow (fun _ h => .inl h) hGr
      · obtain ⟨i, hi, rfl⟩ := List.getElem_of_mem hk
        rw [h1at i hi (by omega)] at hQ
        obtain rfl := Option.some.inj hQ
        exact hNK.at_ i hi (by omega)
  · have hxg : x ≠ a := by
      rintro rfl
      rcases hx with hx | hx
      · rw [h.mem.apart _ hx] at hP; cases hP
      · omega
    rw [h2o x hxg]
    cases hg1 : G1 x with
    | none => rfl
    | some Q =>
      exfalso
      rcases h1some x (by rw [hg1]; simp) with hx2 | ⟨k, hk, rfl⟩
      · rcases hx with hx | rfl
        · exact hx2 (h.mem.apart _ hx)
        · exact hx2 (hnew _ hg)
      · rcases hx with hx | hx
        · have := h.mem.rows _ hx
          have := (hkn k hk).1
          omega
        · exact (hkn k hk).2 hx
  · rcases hx with hx | rfl
    · exact Nat.lt_of_lt_of_le (h.mem.rows x hx) hT.size
    · exact hgl
  · by_cases hxo : w.heap.size ≤ x
    · exact ⟨fun hm => by have := hlt _ hm; omega, fun ho => by have := h.ob _ ho; omega⟩
    · refine h.own x ?_
      rcases hx with hx | hx | hx
      · by_cases e2 : x = a
        · subst e2
          exact .inl (by rw [hP]; simp)
        · rw [h2o x e2, h1old x (by omega)] at hx
          exact .inl hx
      · exact .inr hx
      · omega
  · simp at hx
    rcases hx with rfl | rfl
    · exact .inl rfl
    · exact .inr (by rw [hP]; simp)
  · by_cases hxo : w.heap.size ≤ x
    · exact .inr hxo
    · by_cases e : x = a
      · subst e
        exact .inl (by rw [hP]; simp)
      · rw [h2o x e, h1old x (by omega)] at hx
        exact .inl hx
  · rcases hx with hx | rfl
    · exact .inl hx
    · exact .inr hg

end Go.Proofs.YthehkckdecckhaaGreatDoor

namespace Go.Proofs.YthehkckdecckhaaGreatDoor
open Go.RowKit Go.Maps

theorem PageFit.short {l : List (En 0)} (h : PageFit l) : Short l := h.2.1
theorem PageFit.shortB {h : Nat} {l : List (En (h + 1))} (hp : PageFit l) : ShortB (l.map lowPg) := fun x hx => by
  obtain ⟨e, he, rfl⟩ := List.mem_map.1 hx
  have := hp.2.2.1 e he
  exact ⟨by show e.key.size ≤ 255; omega, this.2⟩

set_option maxRecDepth 100000 in
/-- A leaf that was not read. -/
theorem tm_node_leaf {w : World} {O : Nat → Prop} {t p b m sm rb : Nat} {s : St} {q : Pg} {Dn S : Stt} {D : Dk} {G : Gh} {Rw : Nat → Prop} (h : TM w O t p b m sm rb s q Dn S D G Rw) {a : Nat} {P : Pl} {l : List (En 0)} (hP : G a = some P) (hnd : P.nd = none) (hlv : P.lvl = 1) (hod : OnDisk D 0 P.pg l) :
    Calls Tryz.prog 62 #[.pointer (some ⟨t, 0, none⟩), .pointer (some ⟨a, 0, none⟩)] w fun e w' => ∃ T v nd G' Rw', e = .returned (.iface T v) ∧ NdAt w' Rw' G' P.lvl nd T v ∧ NodeIs G' D 0 nd l ∧ TM w' O t p b m sm rb s { q with rd := true } Dn S D G' Rw' ∧ Grown D G G' ∧ TStep p w w' G G' Rw Rw' := by
  obtain ⟨hth, hf, hfit⟩ := h.dk.at_ _ _ _ hod.at
  have hsz := hfit.size
  have hlen := encN_length l
  have hl2 := len_size l
  have hpl := h.mem.at_ a P hP
  unfold PlOk at hpl
  rw [hnd] at hpl
  have hal := hpl.lt
  rw [hlv] at hpl
  have hna := not7 (h.own a (.inl (by rw [hP]; simp))).1
  refine (nodeAt_gen t p b m sm rb a P.pg 1 s q Dn S (encN l) h.sd h.qd hth (by omega) hf h.off hna w h.pa h.tr hpl (fun T v u => T = 73 ∧ u.ownsRow w.heap.size 42 2 v l.length (flat (kvCells l))) ?_ ?_).mono ?_
  · rintro T v u u' ⟨rfl, hO⟩ hT
    exact ⟨rfl, own_turn hO hT (fun g hg hm => by have := (hO.lt g hg).1; rw [List.mem_singleton.1 hm] at this; omega)⟩
  · intro w1 g o h1 hg hB
    have hE : encN (h := 0) l = [1] ++ lbytes l := rfl
    rw [hE] at hB ⊢
    have h1c : ((1 : Nat) : Int) = 1 := rfl
    rw [h1c]
    have e : ([1] ++ lbytes l).length = 1 + sizeN l := hlen
    obtain ⟨K, hK⟩ : ∃ K : List (ByteArray × ByteArray), K = l := ⟨l, rfl⟩
    have hD := decode_leaf (some ⟨g, o, none⟩) ([1] ++ lbytes K).length K (by rw [hK]; show List.length l ≤ 1000; omega) (by rw [hK]; exact hfit.short) w1 (by rw [hK]; exact hB) (by simp) ⟨Nat.le_refl _, by rw [hK]; omega⟩
    rw [hK] at hD
    refine hD.mono ?_
    rintro e w2 ⟨v, rfl, hO, hT⟩
    exact ⟨_, v, rfl, ⟨rfl, own_less hO h1⟩, hT⟩
  · rintro e w' ⟨T, v, rfl, ⟨rfl, hO⟩, hP', hA, hTr, hT⟩
    obtain ⟨a', c, hv, hn, hnil, hpr, hbk⟩ := own_pairs hO
    rw [← hn] at hv
    subst hv
    obtain ⟨_, ⟨e, h0⟩ | ⟨g, cap, cur, e, hb, hgg, hnc, hm, _⟩⟩ := hO
    · omega
    · injection e with e1 e2 e3
      subst e1 e3
      rw [← hlv] at hP'
      obtain ⟨G', Rw', k1, k2, k3, k4⟩ := tm_leaf h hP hnd hlv hod hb (hbk _ rfl).2 hpr.kvs ⟨hnc, by unfold maxLen at hm; omega⟩ hP' hA hTr hT
      exact ⟨_, _, .inl l, G', Rw', rfl, k1, rfl, k2, k3, k4⟩

set_option maxRecDepth 100000 in
/-- A branch that was not read. -/
theorem tm_node_branch {w : World} {O : Nat → Prop} {t p b m sm rb : Nat} {s : St} {q : Pg} {Dn S : Stt} {D : Dk} {G : Gh} {Rw : Nat → Prop} (h : TM w O t p b m sm rb s q Dn S D G Rw) {a hh : Nat} {P : Pl} {l : List (En (hh + 1))} (hP : G a = some P) (hnd : P.nd = none) (hlv : P.lvl = hh + 1 + 1) (hod : OnDisk D (hh + 1) P.pg l) :
    Calls Tryz.prog 62 #[.pointer (some ⟨t, 0, none⟩), .pointer (some ⟨a, 0, none⟩)] w fun e w' => ∃ T v nd G' Rw', e = .returned (.iface T v) ∧ NdAt w' Rw' G' P.lvl nd T v ∧ NodeIs G' D (hh + 1) nd l ∧ TM w' O t p b m sm rb s { q with rd := true } Dn S D G' Rw' ∧ Grown D G G' ∧ TStep p w w' G G' Rw Rw' := by
  obtain ⟨hth, hf, hfit⟩ := h.dk.at_ _ _ _ hod.at
  have hsz := hfit.size
  have hh2 : hh ≤ 200 := hfit.1
  have hlen := encN_length l
  have hl2 := len_size l
  have hpl := h.mem.at_ a P hP
  unfold PlOk at hpl
  rw [hnd] at hpl
  have hal := hpl.lt
  rw [hlv] at hpl
  have hna := not7 (h.own a (.inl (by rw [hP]; simp))).1
  refine (nodeAt_gen t p b m sm rb a P.pg (hh + 1 + 1) s q Dn S (encN l) h.sd h.qd hth (by omega) hf h.off hna w h.pa h.tr hpl (fun T v u => T = 120 ∧ ∃ ks, NewKids u w.heap.size (hh + 1) v ks (l.map lowPg)) ?_ ?_).mono ?_
  · rintro T v u u' ⟨rfl, ks, hO⟩ hT
    exact ⟨rfl, ks, hO.turn hT (by simp; exact hal)⟩
  · intro w1 g o h1 hg hB
    have e : ([hh + 1 + 1] ++ bbytes (l.map lowPg)).length = 1 + sizeN l := hlen
    refine (decode_branch (some ⟨g, o, none⟩) ([hh + 1 + 1] ++ bbytes (l.map lowPg)).length (hh + 1) (l.map lowPg) ⟨by omega, by omega⟩ (by rw [List.length_map]; omega) hfit.shortB w1 hB (by simp) ⟨Nat.le_refl _, by omega⟩).mono ?_
    rintro e w2 ⟨v, ks, rfl, hO, hT⟩
    exact ⟨_, v, rfl, ⟨rfl, ks, hO.base h1⟩, hT⟩
  · rintro e w' ⟨T, v, rfl, ⟨rfl, ks, hNK⟩, hP', hA, hTr, hT⟩
    have hlk := hNK.len
    rw [List.length_map] at hlk
    have hO := hNK.own
    obtain ⟨a', c, hv, hn, hnil, hpr, hbk⟩ := own_pairs hO
    rw [kidCells_length] at hv
    subst hv
    obtain ⟨_, ⟨e, h0⟩ | ⟨g, cap, cur, e, hb, hgg, hnc, hm, _⟩⟩ := hO
    · omega
    · injection e with e1 e2 e3
      subst e1 e3
      rw [← hlv] at hP'
      obtain ⟨G', Rw', k1, k2, k3, k4, k5⟩ := tm_branch h hP hnd hlv hod (hbk _ rfl).2 hNK hb hpr.kids ⟨hnc, by unfold maxLen at hm; omega⟩ hP' hA hTr hT
      exact ⟨_, _, .inr ks, G', Rw', rfl, k1, k2, k3, k4, k5⟩

/-- nodeAt of any place that comes to entries. -/
theorem tm_node {w : World} {O : Nat → Prop} {t p b m sm rb : Nat} {s : St} {q : Pg} {Dn S : Stt} {D : Dk} {G : Gh} {Rw : Nat → Prop} (h : TM w O t p b m sm rb s q Dn S D G Rw) {a hh : Nat} {l : List (En hh)} (hm : Means G D hh a l) :
    Calls Tryz.prog 62 #[.pointer (some ⟨t, 0, none⟩), .pointer (some ⟨a, 0, none⟩)] w fun e w' => ∃ T v nd G' Rw' r, e = .returned (.iface T v) ∧ NdAt w' Rw' G' (hh + 1) nd T v ∧ NodeIs G' D hh nd l ∧ TM w' O t p b m sm rb s { q with rd := r } Dn S D G' Rw' ∧ Grown D G G' ∧ TStep p w w' G G' Rw Rw' := by
  obtain ⟨P, hP, hlv, hod, hpg, hnode⟩ := hm.out
  cases hnd : P.nd with
  | some nd =>
    refine (tm_node_some h hP hnd).mono ?_
    rintro e w' ⟨T, v, rfl, hN, hTM, hS⟩
    rw [hlv] at hN
    exact ⟨T, v, nd, G, Rw, q.rd, rfl, hN, hnode nd hnd, hTM, Grown.refl _ _, hS⟩
  | none =>
    cases hh with
    | zero =>
      refine (tm_node_leaf h hP hnd hlv (hod (hpg hnd))).mono ?_
      rintro e w' ⟨T, v, nd, G', Rw', rfl, hN, k⟩
      rw [hlv] at hN
      exact ⟨T, v, nd, G', Rw', true, rfl, hN, k⟩
    | succ hh =>
      refine (tm_node_branch h hP hnd hlv (hod (hpg hnd))).mono ?_
      rintro e w' ⟨T, v, nd, G', Rw', rfl, hN, k⟩
      rw [hlv] at hN
      exact ⟨T, v, nd, G', Rw', true, rfl, hN, k⟩

end Go.Proofs.YthehkckdecckhaaGreatDoor

namespace Go.Proofs.YthehkckdecckhaaGreatDoor
open Go.RowKit Go.Maps

/-- A node on a key's way. -/
structure Sub (key : ByteArray) {h : Nat} (l : List (En h)) : Prop where
  ex : ∃ lo hi, Starts lo l ∧ OrdN hi l ∧ ¬ klt key lo ∧ Below? key hi
  full : ∀ e ∈ l, FullE e
  size : sizeN l ≤ 495
  some : 1 ≤ h → 1 ≤ l.length

theorem ord_rises {h : Nat} {hi : Option ByteArray} : {l : List (En h)} → OrdN hi l → (l.map En.key).Pairwise klt
  | [], _ => List.Pairwise.nil
  | e :: l, ho => List.pairwise_cons.2 ⟨fun x hx => by
      obtain ⟨y, hy, rfl⟩ := List.mem_map.1 hx
      exact (Ord.first ho).2 y hy, ord_rises ho.2.2⟩

theorem both_lows {h : Nat} {G : Gh} {M : Nat → List (En h) → Prop} {ks : List (ByteArray × Nat)} {l : List (En (h + 1))} (hb : Both (KidIs G M) ks l) : lowsOf ks = l.map En.key := by
  refine List.ext_getElem (by rw [lowsOf_length, List.length_map, hb.length]) fun i h1 h2 => ?_
  rw [lowsOf_length] at h1
  rw [List.length_map] at h2
  rw [lowsOf_get h1, List.getElem_map]
  exact (hb.get i h1 h2).1

theorem spot_of {h : Nat} {lo key : ByteArray} {hi : Option ByteArray} {ks : List (ByteArray × Nat)} {l : List (En (h + 1))} (hl : lowsOf ks = l.map En.key) (hs : Starts lo l) (hlo : ¬ klt key lo) (hhi : Below? key hi) {i : Nat} (hk : IsKid ks key i) (hi' : i < l.length) : Spot hi l (l.take i) l[i] (l.drop (i + 1)) key := by
  obtain ⟨h1, h2, h3⟩ := hk
  have hlen : ks.length = l.length := by
    have := congrArg List.length hl
    simpa [lowsOf] using this
  have hget : ∀ m (h : m < ks.length) (h' : m < l.length), ks[m].1 = l[m].key := fun m h h' => by
    have e : (lowsOf ks)[m]'(by rw [lowsOf_length]; exact h) = (l.map En.key)[m]'(by rw [List.length_map]; exact h') := by simp only [hl]
    rw [lowsOf_get h, List.getElem_map] at e
    exact e
  refine ⟨by rw [← List.drop_eq_getElem_cons hi', List.take_append_drop], ?_, ?_⟩
  · rcases h2 h1 with rfl | h2
    · have : l[0].key = lo := hs l[0] (by rw [List.head?_eq_getElem?, List.getElem?_eq_getElem hi'])
      rw [this]
      exact hlo
    · rw [← hget i h1 hi']
      exact h2
  · by_cases hm : i + 1 < l.length
    · rw [List.drop_eq_getElem_cons hm]
      intro x hx
      injection hx with hx
      subst hx
      rw [← hget (i + 1) (by omega) hm]
      exact h3 (i + 1) (by omega) (by omega)
    · rw [List.drop_of_length_le (by omega)]
      exact hhi

/-- One step down. -/
theorem Sub.down {h : Nat} {key : ByteArray} {G : Gh} {M : Nat → List (En h) → Prop} {ks : List (ByteArray × Nat)} {l : List (En (h + 1))} (hs : Sub key l) (hb : Both (KidIs G M) ks l) {i : Nat} (hk : IsKid ks key i) (hi : i < l.length) : Sub key (kidsOf l[i]) ∧ getK (flatN (kidsOf l[i])) key = getK (flatN l) key := by
  obtain ⟨lo, hi', h1, h2, h3, h4⟩ := hs.ex
  have hsp := spot_of (both_lows hb) h1 h3 h4 hk hi
  obtain ⟨e1, e2, e3⟩ := hsp.sides h2
  have ho := h2
  rw [hsp.eq] at ho
  obtain ⟨g1, g2, g3⟩ := ord_at ho
  obtain ⟨f1, f2, f3, f4⟩ := full_at (hs.full l[i] (List.getElem_mem hi))
  refine ⟨⟨⟨_, _, g2, g3, hsp.le, hsp.lt⟩, f4, f3, fun _ => Nat.le_trans (min_pos h) f2⟩, ?_⟩
  rw [e1, getK_mid e2 e3]

end Go.Proofs.YthehkckdecckhaaGreatDoor

namespace Go.Proofs.YthehkckdecckhaaGreatDoor
open Go.RowKit Go.Maps

/-- The level that a place's block tells. -/
def lvlOf (w : World) : Value → Nat
  | .pointer (some ad) => match w.cell? ⟨ad.block, 1, none⟩ with
    | some (.int _ n) => n.toNat
    | _ => 0
  | _ => 0
theorem TM.lvl {w : World} {O : Nat → Prop} {t p b m sm rb : Nat} {s : St} {q : Pg} {Dn S : Stt} {D : Dk} {G : Gh} {Rw : Nat → Prop} (h : TM w O t p b m sm rb s q Dn S D G Rw) {hh a : Nat} {l : List (En hh)} (hm : Means G D hh a l) : lvlOf w (.pointer (some ⟨a, 0, none⟩)) = hh + 1 := by
  obtain ⟨P, hP, hlv, _⟩ := hm.out
  have hc : w.cell? ⟨a, 1, none⟩ = some (.int .i64 (P.lvl : Nat)) := by
    have := h.mem.at_ a P hP
    unfold PlOk at this
    split at this
    · exact this.c1
    · obtain ⟨_, _, _, _, hp, _⟩ := this
      exact hp.c1
  unfold lvlOf
  simp only [hc]
  rw [hlv]
  rfl

/-- Others' blocks turn, or none. -/
theorem TM.other {X : List Nat} {w w' : World} {O : Nat → Prop} {t p b m sm rb : Nat} {s : St} {q : Pg} {Dn S : Stt} {D : Dk} {G : Gh} {Rw : Nat → Prop} (h : TM w O t p b m sm rb s q Dn S D G Rw) (hT : Turn X w w') (hX : ∀ x ∈ X, x ∉ [1, t, p, b, m, sm, rb] ∧ G x = none ∧ ¬ Rw x) : TM w' O t p b m sm rb s q Dn S D G Rw := by
  have hn : ∀ x ∈ [1, t, p, b, m, sm, rb], x ∉ X := fun x hx hm => (hX x hm).1 hx
  exact ⟨h.pa.turn hT (hn 1 (by simp)) (hn p (by simp)) (hn b (by simp)) (hn m (by simp)) (hn sm (by simp)) (hn rb (by simp)), h.tr.turn hT (hn t (by simp)), h.off, Nat.lt_of_lt_of_le h.rbl hT.size, h.sd, h.qd, h.mem.turn hT (fun x hx => (hX x hx).2), h.dk, h.own, h.no, fun x hx => Nat.lt_of_lt_of_le (h.ob x hx) hT.size⟩
theorem TM.quiet {w w' : World} {O : Nat → Prop} {t p b m sm rb : Nat} {s : St} {q : Pg} {Dn S : Stt} {D : Dk} {G : Gh} {Rw : Nat → Prop} (h : TM w O t p b m sm rb s q Dn S D G Rw) (hT : Turn [] w w') : TM w' O t p b m sm rb s q Dn S D G Rw := h.other hT (by simp)
theorem TStep.quiet {p : Nat} {u w w' : World} {G G' : Gh} {Rw Rw' : Nat → Prop} (h : TStep p u w G G' Rw Rw') (hT : Turn [] w w') : TStep p u w' G G' Rw Rw' :=
  h.trans ⟨⟨[], hT, by simp⟩, fun _ h => .inl h, fun _ h => .inl h, fun _ h => h⟩

/-- A leaf's pairs, found on the way of a key. -/
structure LeafFor (w : World) (key : ByteArray) (want : Option ByteArray) (v : Value) (L : List (ByteArray × ByteArray)) : Prop where
  ex : ∃ b off c, v = .slice (some ⟨b, off, none⟩) L.length c ∧ KVsAt w (some ⟨b, off, none⟩) L ∧ (L.length ≤ c ∧ c ≤ 9223372036854775807)
  rises : Rises (keysOf L)
  len : L.length ≤ 300
  get : getK L key = want

set_option maxRecDepth 100000 in
set_option maxHeartbeats 3200000 in
theorem tm_leafOf {w : World} {O : Nat → Prop} {t p b m sm rb : Nat} {s : St} {q : Pg} {Dn S : Stt} {D : Dk} {G : Gh} {Rw : Nat → Prop} (h : TM w O t p b m sm rb s q Dn S D G Rw) (key : ByteArray) {hh a : Nat} {l : List (En hh)} (hr : S.root = some a) (hm : Means G D hh a l) (hs : Sub key l) :
    Calls Tryz.prog 42 #[.pointer (some ⟨t, 0, none⟩), .string key] w fun e w' => ∃ v L G' Rw' r, e = .returned v ∧ LeafFor w' key (getK (flatN l) key) v L ∧ TM w' O t p b m sm rb s { q with rd := r } Dn S D G' Rw' ∧ Grown D G G' ∧ TStep p w w' G G' Rw Rw' := by
  have h6 : w.cell? ⟨t, 6, none⟩ = some (.pointer (some ⟨a, 0, none⟩)) := by have := h.tr.now.c0; rw [hr] at this; exact this
  have hta := ta_ll
  have htb := ta_lb
  have htc := ta_bb
  have htd := ta_bl
  obtain ⟨want, hw⟩ : ∃ x, x = getK (flatN l) key := ⟨_, rfl⟩
  rw [← hw]
  have H0 : Hid (TM w O t p b m sm rb s { q with rd := q.rd } Dn S D G Rw ∧ Means G D hh a l ∧ Sub key l ∧ getK (flatN l) key = want ∧ Grown D G G ∧ TStep p w w G G Rw Rw) := ⟨h, hm, hs, hw.symm, Grown.refl _ _, TStep.refl _ _ _ _⟩
  clear h hm hs hw hr
  go_enter Tryz.func42, Tryz.ntmps42
  go_wp2_with fail
  go_loopw [5] (fun x wr => ∃ (k a' : Nat) (l' : List (En k)) (G' : Gh) (Rw' : Nat → Prop) (r : Bool), x = .pointer (some ⟨a', 0, none⟩) ∧ Hid (TM wr O t p b m sm rb s { q with rd := r } Dn S D G' Rw' ∧ Means G' D k a' l' ∧ Sub key l' ∧ getK (flatN l') key = want ∧ Grown D G G' ∧ TStep p w wr G G' Rw Rw')) (fun x wr => lvlOf wr x)
  case atStart => exact ⟨hh, a, l, G, Rw, q.rd, rfl, H0⟩
  case round =>
    obtain ⟨k, a', l', G', Rw', r, rfl, H⟩ := hrel
    clear H0
    have hlv := H.out.1.lvl H.out.2.1
    have HN := hide (tm_node H.out.1 H.out.2.1)
    go_wp2_with fail
    refine HN.out.mono ?_
    rintro e w2 ⟨T, v, nd, G2, Rw2, r2, rfl, hN, hNode, hTM, hGr, hS⟩
    have HTM := hide hTM
    have HGr := hide (H.out.2.2.2.2.1.trans hGr)
    have HS := hide (H.out.2.2.2.2.2.trans hS)
    clear hTM hGr hS HN
    cases k with
    | zero =>
      obtain rfl : nd = .inl l' := hNode
      obtain ⟨_, rfl, bb, off, c, rfl, hK, hc, _⟩ := hN
      have HK := hide hK
      have hc1 := hc.1
      have hc2 := hc.2
      clear hK hc hlv
      go_wp2_with fail
      go_ret
      obtain ⟨_, _, hsub, hget, _⟩ := H.out
      obtain ⟨_, _, _, ho, _⟩ := hsub.ex
      have h1 := hsub.size
      have h2 := len_size l'
      rw [flatN_zero] at hget
      exact ⟨_, l', G2, Rw2, r2, rfl, ⟨⟨bb, off, c, rfl, HK.out, hc1, hc2⟩, ord_rises ho, (show List.length (α := En 0) l' ≤ 300 by omega), hget⟩, HTM.out, HGr.out, HS.out⟩
    | succ k =>
      obtain ⟨ks, rfl, hb⟩ := hNode
      obtain ⟨_, rfl, bb, off, c, rfl, hK, hc, _, hkl⟩ := hN
      have HB := hide hb
      have hlen := hb.length
      have hsub := H.out.2.2.1
      obtain ⟨_, _, _, ho, _⟩ := hsub.ex
      have h1 := hsub.size
      have h2 := len_size l'
      have h3 := hsub.some (by omega)
      have HF := hide (bfind_any (some ⟨bb, off, none⟩) c ks key (by rw [both_lows hb]; exact ord_rises ho) (by omega) (by omega) w2 hK)
      have HK := hide hK
      have hkn : ks.length ≤ 300 := by omega
      clear hK hc hb hsub ho h1 h2 h3 hkl
      have HLen := hide hlen
      clear hlen
      go_wp2_with fail
      refine HF.out.mono ?_
      rintro e w3 ⟨i, rfl, hi, hT3⟩
      have hik := hi.1
      obtain ⟨b', off', e', _, hc1⟩ := (HK.out.turn0 hT3).at hik
      injection e' with e'
      injection e' with e1 e2
      subst e1 e2
      have HI := hide hi
      have HT3 := hide hT3
      clear hi hT3 HF
      generalize hkk : ks[i] = kk at *
      have HKK := hide hkk
      clear hkk
      go_wp2_with fail
      obtain ⟨_, _, hsub, hget, _⟩ := H.out
      have hil : i < l'.length := by rw [← HLen.out]; exact hik
      obtain ⟨hd1, hd2⟩ := hsub.down HB.out HI.out hil
      have hkid := HB.out.get i hik hil
      rw [HKK.out] at hkid
      have hTM3 := HTM.out.quiet HT3.out
      have hlv3 := hTM3.lvl hkid.2.2
      refine ⟨⟨k, kk.2, kidsOf l'[i], G2, Rw2, r2, rfl, hTM3, hkid.2.2, hd1, hd2.trans hget, HGr.out, HS.out.quiet HT3.out⟩, ?_⟩
      rw [hlv, hlv3]
      omega

end Go.Proofs.YthehkckdecckhaaGreatDoor

namespace Go.Proofs.YthehkckdecckhaaGreatDoor
open Go.RowKit Go.Maps

/-- The bytes of any node. -/
theorem enc_node {w : World} {Rw : Nat → Prop} {G : Gh} {D : Dk} (hM : Mem w Rw G) {hh : Nat} {nd : Nd} {T : TypeId} {v : Value} {l : List (En hh)} (hN : NdAt w Rw G (hh + 1) nd T v) (hI : NodeIs G D hh nd l) (hF : PageFit l) :
    Calls Tryz.prog 68 #[.iface T v, .int .i64 ((hh + 1 : Nat) : Int)] w fun e w' => ∃ u, e = .returned u ∧ OwnB w' w.heap.size u (encN l) ∧ Turn [] w w' := by
  have hsz := hF.size
  have hl2 := len_size l
  cases hh with
  | zero =>
    obtain rfl : nd = .inl l := hI
    obtain ⟨_, rfl, b, off, c, rfl, hK, hc, _⟩ := hN
    obtain ⟨K, hKl⟩ : ∃ K : List (ByteArray × ByteArray), K = l := ⟨l, rfl⟩
    have h1 : lsize K = sizeN l := by rw [hKl]; exact lsize_sizeN l
    have h2 := encode_leaf b off c K 1 (by omega) (by rw [hKl]; show List.length l ≤ 1000; omega) (by rw [hKl]; exact hF.short) (by omega) w (by rw [hKl]; exact hK)
    rw [hKl] at h2
    exact h2
  | succ hh =>
    obtain ⟨ks, rfl, hb⟩ := hI
    obtain ⟨_, rfl, b, off, c, rfl, hK, hc, _⟩ := hN
    have hlen := hb.length
    have hh2 : hh ≤ 200 := hF.1
    have hel := encN_length l
    have he : encN l = [hh + 1 + 1] ++ bbytes (l.map lowPg) := rfl
    rw [he, List.length_append] at hel
    rw [he]
    refine encode_branch b off c ks (l.map lowPg) (hh + 1 + 1) (by omega) (by rw [List.length_map]; omega) (fun j h1 h2 => ?_) (by omega) hF.shortB (by simp at hel; omega) w hK (fun j h1 h2 => ?_)
    · rw [List.length_map] at h2
      rw [List.getElem_map]
      exact (hb.get j h1 h2).1
    · rw [List.length_map] at h2
      rw [List.getElem_map]
      obtain ⟨_, ⟨Q, q1, q2⟩, _⟩ := hb.get j h1 h2
      have := hM.at_ _ Q q1
      show _ = some (Value.int .i64 (pageOf l[j] : Nat))
      rw [← q2]
      unfold PlOk at this
      split at this
      · exact this.c0
      · obtain ⟨_, _, _, _, hp, _⟩ := this
        exact hp.c0

/-- What is below is on the disk. -/
def KidsOn (D : Dk) : (h : Nat) → List (En h) → Prop
  | 0, _ => True
  | h + 1, l => ∀ e ∈ l, OnDisk D h (pageOf e) (kidsOf e)
theorem KidsOn.ondisk {D : Dk} {h pg : Nat} {l : List (En h)} (hk : KidsOn D h l) (h0 : pg ≠ 0) (hD : D pg = some ⟨h, l⟩) : OnDisk D h pg l := by
  cases h with
  | zero => exact ⟨h0, hD⟩
  | succ h => exact ⟨h0, hD, hk⟩
theorem KidsOn.more {D D' : Dk} (hD : ∀ n x, D n = some x → D' n = some x) {h : Nat} {l : List (En h)} (hk : KidsOn D h l) : KidsOn D' h l := by
  cases h with
  | zero => trivial
  | succ h => exact fun e he => (hk e he).more hD

theorem tm_lay {w1 w3 : World} {O : Nat → Prop} {t p b m sm rb : Nat} {s : St} {q : Pg} {Dn S : Stt} {D : Dk} {G : Gh} {Rw : Nat → Prop} (h : TM w1 O t p b m sm rb s q Dn S D G Rw) {a hh : Nat} {P : Pl} {nd : Nd} {l : List (En hh)} (hP : G a = some P) (hn : P.nd = some nd) (hlv : P.lvl = hh + 1) (hI : NodeIs G D hh nd l) (hF : PageFit l) (hK : KidsOn D hh l) {k : Nat} (hNx : q.Next s.n k) (hA : PAt w3 p b m sm rb (s.did k (bytesOf 512 (pageB (encN l)))) (q.alloced k)) (hT : Turn [p, b, m, sm] w1 w3) :
    ∃ D' : Dk, (∀ n x, D n = some x → D' n = some x) ∧ OnDisk D' hh k l ∧ Means (G.add a { P with pg := k }) D' hh a l ∧ TM (w3.setCell ⟨a, 0, none⟩ (.int .i64 (k : Nat))) O t p b m sm rb (s.did k (bytesOf 512 (pageB (encN l)))) (q.alloced k) Dn S D' (G.add a { P with pg := k }) Rw ∧ Wrt G (G.add a { P with pg := k }) (fun x => x = a) ∧ Turn [a, p, b, m, sm] w1 (w3.setCell ⟨a, 0, none⟩ (.int .i64 (k : Nat))) := by
  have hAls := (Als.one hNx).is
  obtain ⟨r1, r2, r3, r4⟩ := hNx.range
  have r0 := fp2 s.n
  obtain ⟨th1, th2⟩ := hAls.there_new (List.mem_singleton.2 rfl)
  have hDk : D k = none := by
    cases hd : D k with
    | none => rfl
    | some x =>
      obtain ⟨h', l'⟩ := x
      obtain ⟨n, e, _, _, ht⟩ := Pg.there_range (h.dk.at_ _ _ _ hd).1
      obtain rfl : k = n := by omega
      rw [th2] at ht
      cases ht
  obtain ⟨D', hD'⟩ : ∃ D' : Dk, D' = fun n => if n = k then some ⟨hh, l⟩ else D n := ⟨_, rfl⟩
  have hDk' : D' k = some ⟨hh, l⟩ := by rw [hD']; exact if_pos rfl
  have hDo : ∀ n, n ≠ k → D' n = D n := fun n hn => by rw [hD']; exact if_neg hn
  have hDm : ∀ n x, D n = some x → D' n = some x := fun n x hx => by
    rw [hDo n (fun e => by rw [e, hDk] at hx; cases hx)]
    exact hx
  have hod : OnDisk D' hh k l := (hK.more hDm).ondisk (by omega) hDk'
  have hna := not7 (h.own a (.inl (by rw [hP]; simp))).1
  have hal := h.mem.lt (a := a) (by rw [hP]; simp)
  have hal3 : a < w3.heap.size := Nat.lt_of_lt_of_le hal hT.size
  have hTs : Turn [a] w3 (w3.setCell ⟨a, 0, none⟩ (.int .i64 (k : Nat))) := (Turn.refl [a] w3).setCell (List.mem_singleton.2 rfl) 0 _
  have hTT : Turn [a, p, b, m, sm] w1 (w3.setCell ⟨a, 0, none⟩ (.int .i64 (k : Nat))) := (hT.mono (by simp)).trans (hTs.mono (by simp))
  have hW : Wrt G (G.add a { P with pg := k }) (fun x => x = a) := by
    refine ⟨fun x hx => ?_, fun x Q hQ => ?_, fun x hx => Gh.add_other _ _ hx⟩
    · rw [Gh.add_other _ _ (fun e => by rw [e, hP] at hx; cases hx)]
      exact hx
    · by_cases e : x = a
      · subst e
        obtain rfl : P = Q := by rw [hP] at hQ; exact Option.some.inj hQ
        exact ⟨k, Gh.add_same _ _ _⟩
      · exact ⟨Q.pg, (Gh.add_other _ _ e).trans hQ⟩
  have hme : Means (G.add a { P with pg := k }) D' hh a l := by
    refine Means.of { P with pg := k } (Gh.add_same _ _ _) hlv (fun _ => hod) (fun _ => (by show k ≠ 0; omega)) fun nd' hnd' => ?_
    obtain rfl : nd = nd' := by rw [show ({ P with pg := k } : Pl).nd = P.nd from rfl, hn] at hnd'; exact Option.some.inj hnd'
    cases hh with
    | zero => exact hI
    | succ hh =>
      obtain ⟨ks, rfl, hb⟩ := hI
      refine ⟨ks, rfl, hb.mono fun kk hkk x _ hx => ?_⟩
      obtain ⟨k1, ⟨Q, k2, k3⟩, k4⟩ := hx
      have hu : ∀ y, Und G hh kk.2 y → (G.add a { P with pg := k }) y = G y := fun y hy => by
        obtain ⟨Q', g1, g2⟩ := Und.lvl k4 hy
        refine Gh.add_other _ _ fun e => ?_
        rw [e, hP] at g1
        obtain rfl := Option.some.inj g1
        omega
      exact ⟨k1, ⟨Q, (hu _ (Und.self _ _ _)).trans k2, k3⟩, k4.frame hDm hu⟩
  have hrow : ∀ y, Rw y → (w3.setCell ⟨a, 0, none⟩ (.int .i64 (k : Nat))).heap[y]? = w1.heap[y]? := fun y hy => hTT.block y (h.mem.rows y hy) (by
    have := not7 (h.own y (.inr hy)).1
    have h2 : y ≠ a := fun e => by
      rw [e] at hy
      rw [h.mem.apart _ hy] at hP
      cases hP
    simp
    exact ⟨h2, this.2.1, this.2.2.1, this.2.2.2.1, this.2.2.2.2.1⟩)
  have hGl : ∀ x Q, G x = some Q → ∃ Q', (G.add a { P with pg := k }) x = some Q' ∧ Q'.lvl = Q.lvl := fun x Q hQ => by
    obtain ⟨n, hx⟩ := hW.some_ x Q hQ
    exact ⟨_, hx, rfl⟩
  refine ⟨D', hDm, hod, hme, ⟨hA.turn hTs (by simp; exact hna.1.symm) (by simp; exact hna.2.1.symm) (by simp; exact hna.2.2.1.symm) (by simp; exact hna.2.2.2.1.symm) (by simp; exact hna.2.2.2.2.1.symm) (by simp; exact hna.2.2.2.2.2.1.symm), (h.tr.turn hT (by simp; exact ⟨h.off.p, h.off.b, h.off.m, h.off.sm⟩)).turn hTs (by simp; exact hna.2.2.2.2.2.2.symm), h.off, Nat.lt_of_lt_of_le h.rbl hTT.size, h.sd, h.qd, ⟨fun x Q hQ => ?_, fun y hy => ?_, fun y hy => Nat.lt_of_lt_of_le (h.mem.rows y hy) hTT.size⟩, ⟨fun pg h' l' hD => ?_⟩, fun x hx => h.own x (hx.imp (fun h1 h2 => h1 (hW.none_ x h2)) id), h.no, fun x hx => Nat.lt_of_lt_of_le (h.ob x hx) hTT.size⟩, hW, hTT⟩
  · by_cases e : x = a
    · subst e
      rw [Gh.add_same] at hQ
      obtain rfl := Option.some.inj hQ
      have hpl := h.mem.at_ x P hP
      unfold PlOk at hpl
      rw [hn] at hpl
      obtain ⟨d, T, v, hd, hp, hN⟩ := hpl
      have hpp := (hp.turn hT (by simp; exact ⟨hna.2.1, hna.2.2.1, hna.2.2.2.1, hna.2.2.2.2.1⟩)).setPage k
      have hkp := hN.keep hrow (fun _ h => h) hGl
      unfold PlOk
      split
      · rename_i e
        have e' : P.nd = none := e
        rw [hn] at e'
        cases e'
      · rename_i nd' e
        have e' : P.nd = some nd' := e
        rw [hn] at e'
        obtain rfl := Option.some.inj e'
        exact ⟨d, T, v, hd, hpp, hkp⟩
    · rw [Gh.add_other _ _ e] at hQ
      have hx := h.mem.at_ x Q hQ
      have := not7 (h.own x (.inl (by rw [hQ]; simp))).1
      exact hx.keep (hTT.block x hx.lt (by simp; exact ⟨e, this.2.1, this.2.2.1, this.2.2.2.1, this.2.2.2.2.1⟩)) hrow (fun _ h => h) hGl
  · exact hW.none_ y (h.mem.apart y hy)
  · by_cases e : pg = k
    · subst e
      rw [hDk'] at hD
      obtain ⟨rfl, hl⟩ : hh = h' ∧ HEq l l' := by
        injection hD with hD
        injection hD with e1 e2
        exact ⟨e1, e2⟩
      obtain rfl := eq_of_heq hl
      refine ⟨?_, St.did_f_same _ _ _, hF⟩
      show (q.alloced pg).thereI s.n (pg : Nat) = true
      unfold Pg.thereI
      rw [Int.toNat_natCast, th1]
      simp
      omega
    · rw [hDo pg e] at hD
      obtain ⟨g1, g2, g3⟩ := h.dk.at_ pg h' l' hD
      exact ⟨hAls.thereI g1, (St.did_f _ _ _ _ e).trans g2, g3⟩

end Go.Proofs.YthehkckdecckhaaGreatDoor

namespace Go.Proofs.YthehkckdecckhaaGreatDoor
open Go.RowKit Go.Maps

/-- What is asked ahead of a write. -/
structure WIn (s : St) (q : Pg) {h : Nat} (l : List (En h)) (pg : Nat) : Prop where
  full : ∀ e ∈ l, FullE e
  some : 0 < l.length
  size : sizeN l ≤ 495
  rises : ((flatN l).map Prod.fst).Pairwise klt
  hh : h ≤ 200
  room : (pagesAt pg l).count 0 ≤ q.left s.n
  u : q.u + (pagesAt pg l).count 0 ≤ 900000
  k : s.k + (pagesAt pg l).count 0 ≤ 900000
  left : s.left < 0

/-- What write leaves of a place. -/
structure WOut (w w' : World) (O : Nat → Prop) (t p b m sm rb : Nat) (s : St) (q : Pg) (Dn S : Stt) (D : Dk) (G : Gh) (Rw : Nat → Prop) (h a : Nat) (l : List (En h)) (pg : Nat) : Prop where
  ex : ∃ (l' : List (En h)) (pg' : Nat) (ns : List Nat) (s' : St) (q' : Pg) (D' : Dk) (G' : Gh), LikeN l l' ∧ Means G' D' h a l' ∧ (∃ P', G' a = some P' ∧ P'.pg = pg') ∧ OnDisk D' h pg' l' ∧ Wrt G G' (fun x => Und G h a x) ∧ (∀ n x, D n = some x → D' n = some x) ∧ (pagesAt pg' l').Perm ((pagesAt pg l).filter (fun x => decide (x ≠ 0)) ++ ns) ∧ ns.length = (pagesAt pg l).count 0 ∧ Als s.n q ns q' ∧ s'.k = s.k + ns.length ∧ s'.n = s.n ∧ s'.left < 0 ∧ TM w' O t p b m sm rb s' q' Dn S D' G' Rw ∧ ∃ X, Turn X w w' ∧ ∀ x ∈ X, x = p ∨ x = b ∨ x = m ∨ x = sm ∨ G x ≠ none

/-- A place that has its page already. -/
theorem wout_laid {w : World} {O : Nat → Prop} {t p b m sm rb : Nat} {s : St} {q : Pg} {Dn S : Stt} {D : Dk} {G : Gh} {Rw : Nat → Prop} (h : TM w O t p b m sm rb s q Dn S D G Rw) {hh a : Nat} {l : List (En hh)} {P : Pl} (hm : Means G D hh a l) (hP : G a = some P) (h0 : P.pg ≠ 0) (hl : s.left < 0) : WOut w w O t p b m sm rb s q Dn S D G Rw hh a l P.pg := by
  obtain ⟨P', h1, _, h3, _⟩ := hm.out
  obtain rfl : P = P' := by rw [hP] at h1; exact Option.some.inj h1
  obtain ⟨c1, c2⟩ := ondisk_count (h3 h0)
  exact ⟨l, P.pg, [], s, q, D, G, LikeN.refl l, hm, ⟨P, hP, rfl⟩, h3 h0, Wrt.refl _ _, fun _ _ h => h, by rw [c2, List.append_nil], by rw [c1]; rfl, rfl, rfl, rfl, hl, h, [], Turn.refl _ _, by simp⟩

/-- The kids of a branch, the first i of them written. -/
structure WRow (w w' : World) (O : Nat → Prop) (t p b m sm rb : Nat) (s : St) (q : Pg) (Dn S : Stt) (D : Dk) (G : Gh) (Rw : Nat → Prop) (h : Nat) (ks : List (ByteArray × Nat)) (l : List (En (h + 1))) (i : Nat) (done : List (En (h + 1))) (ns : List Nat) (s' : St) (q' : Pg) (D' : Dk) (G' : Gh) : Prop where
  len : done.length = i
  like : LikeN (l.take i) done
  both : Both (KidIs G' (Means G' D' h)) ks (done ++ l.drop i)
  disk : ∀ e ∈ done, OnDisk D' h (pageOf e) (kidsOf e)
  wrt : Wrt G G' (fun x => ∃ k ∈ ks, Und G h k.2 x)
  more : ∀ n x, D n = some x → D' n = some x
  pages : (pagesN done).Perm ((pagesN (l.take i)).filter (fun x => decide (x ≠ 0)) ++ ns)
  cnt : ns.length = (pagesN (l.take i)).count 0
  als : Als s.n q ns q'
  k : s'.k = s.k + ns.length
  n : s'.n = s.n
  left : s'.left < 0
  tm : TM w' O t p b m sm rb s' q' Dn S D' G' Rw
  turn : ∃ X, Turn X w w' ∧ ∀ x ∈ X, x = p ∨ x = b ∨ x = m ∨ x = sm ∨ G x ≠ none

theorem wrow_start {w : World} {O : Nat → Prop} {t p b m sm rb : Nat} {s : St} {q : Pg} {Dn S : Stt} {D : Dk} {G : Gh} {Rw : Nat → Prop} (h : TM w O t p b m sm rb s q Dn S D G Rw) {hh : Nat} {ks : List (ByteArray × Nat)} {l : List (En (hh + 1))} (hb : Both (KidIs G (Means G D hh)) ks l) (hl : s.left < 0) : WRow w w O t p b m sm rb s q Dn S D G Rw hh ks l 0 [] [] s q D G :=
  ⟨rfl, trivial, by simpa using hb, by simp, Wrt.refl _ _, fun _ _ h => h, by simp [pagesN], by simp [pagesN], rfl, rfl, rfl, hl, h, [], Turn.refl _ _, by simp⟩

theorem set_mid {α : Type} {a l : List α} {i : Nat} (ha : a.length = i) (hi : i < l.length) (e : α) : (a ++ l.drop i).set i e = a ++ [e] ++ l.drop (i + 1) := by
  subst ha
  rw [List.set_append_right _ _ (Nat.le_refl _), Nat.sub_self, List.drop_eq_getElem_cons hi, List.set_cons_zero, List.append_assoc]
  rfl

set_option maxRecDepth 100000 in
/-- What is asked of the next kid. -/
theorem WRow.win {w w' : World} {O : Nat → Prop} {t p b m sm rb : Nat} {s : St} {q : Pg} {Dn S : Stt} {D : Dk} {G : Gh} {Rw : Nat → Prop} {h : Nat} {ks : List (ByteArray × Nat)} {l : List (En (h + 1))} {i : Nat} {done : List (En (h + 1))} {ns : List Nat} {s' : St} {q' : Pg} {D' : Dk} {G' : Gh} (hr : WRow w w' O t p b m sm rb s q Dn S D G Rw h ks l i done ns s' q' D' G') {pg : Nat} (hw : WIn s q l pg) (hi : i < l.length) : WIn s' q' (kidsOf l[i]) (pageOf l[i]) := by
  obtain ⟨_, _, f3, f4⟩ := full_at (hw.full _ (List.getElem_mem hi))
  obtain ⟨_, f5⟩ := kid_has hw.full (List.getElem_mem hi)
  have hsplit : pagesN l = pagesN (l.take i) ++ (pagesAt (pageOf l[i]) (kidsOf l[i]) ++ pagesN (l.drop (i + 1))) := by
    conv => lhs; rw [← List.take_append_drop i l, List.drop_eq_getElem_cons hi]
    rw [pagesN_append]
    rfl
  have hc : (pagesN (l.take i)).count 0 + (pagesAt (pageOf l[i]) (kidsOf l[i])).count 0 ≤ (pagesAt pg l).count 0 := by
    show _ ≤ (pg :: pagesN l).count 0
    rw [List.count_cons, hsplit, List.count_append, List.count_append]
    omega
  have hA := hr.als.is
  have h1 := hA.left
  have h2 := hA.u
  have h3 := hr.k
  have h4 := hr.cnt
  have h5 := hw.room
  have h6 := hw.u
  have h7 := hw.k
  refine ⟨f4, f5, f3, ?_, by have := hw.hh; omega, by rw [hr.n]; omega, by omega, by omega, hr.left⟩
  have hrs := hw.rises
  rw [show l = l.take i ++ l[i] :: l.drop (i + 1) from by rw [← List.drop_eq_getElem_cons hi, List.take_append_drop], flatN_append, flatN_cons, flat_at, List.map_append, List.pairwise_append] at hrs
  have h8 := hrs.2.1
  rw [List.map_append, List.pairwise_append] at h8
  exact h8.1

/-- One kid more. -/
theorem WRow.next {w w' w'' : World} {O : Nat → Prop} {t p b m sm rb : Nat} {s : St} {q : Pg} {Dn S : Stt} {D : Dk} {G : Gh} {Rw : Nat → Prop} {h : Nat} {ks : List (ByteArray × Nat)} {l : List (En (h + 1))} {i : Nat} {done : List (En (h + 1))} {ns : List Nat} {s' : St} {q' : Pg} {D' : Dk} {G' : Gh} (hr : WRow w w' O t p b m sm rb s q Dn S D G Rw h ks l i done ns s' q' D' G') {pg : Nat} (hw : WIn s q l pg) (hi : i < l.length) (hk : i < ks.length) (ho : WOut w' w'' O t p b m sm rb s' q' Dn S D' G' Rw h ks[i].2 (kidsOf l[i]) (pageOf l[i])) : ∃ done2 ns2 s2 q2 D2 G2, WRow w w'' O t p b m sm rb s q Dn S D G Rw h ks l (i + 1) done2 ns2 s2 q2 D2 G2 := by
  obtain ⟨l', pg', ns', s2, q2, D2, G2, o1, o2, ⟨P', o3, o3'⟩, o4, o5, o6, o7, o8, o9, o10, o11, o12, o13, o14⟩ := ho.ex
  obtain ⟨e2, he2⟩ : ∃ e2 : En (h + 1), e2 = ((l[i].key, pg', l') : ByteArray × Nat × List (En h)) := ⟨_, rfl⟩
  have ek : e2.key = l[i].key := by rw [he2]; rfl
  have ep : pageOf e2 = pg' := by rw [he2]; rfl
  have ed : kidsOf e2 = l' := by rw [he2]; rfl
  have hcur := hr.both
  have hlc : LikeN l (done ++ l.drop i) := by
    have := Both.append hr.like (LikeN.refl (l.drop i))
    rwa [List.take_append_drop] at this
  have hlen := hcur.length
  have hll : l.length = (done ++ l.drop i).length := Both.length hlc
  have hrc : ((flatN (done ++ l.drop i)).map Prod.fst).Pairwise klt := by rw [← hlc.flat]; exact hw.rises
  have hfc : ∀ e ∈ done ++ l.drop i, FullE e := both_all (fun _ _ h k => LikeE.full h k) hlc hw.full
  have hset := set_mid hr.len hi e2
  have htk : l.take (i + 1) = l.take i ++ [l[i]] := List.take_succ_eq_append_getElem hi
  have hlike : LikeE (h + 1) l[i] e2 := ⟨ek.symm, by rw [ed]; exact o1⟩
  obtain ⟨X, hX, hX1⟩ := hr.turn
  obtain ⟨Y, hY, hY1⟩ := o14
  refine ⟨done ++ [e2], ns ++ ns', s2, q2, D2, G2, ⟨by rw [List.length_append, hr.len]; rfl, ?_, ?_, ?_, ?_, fun n x hx => o6 n x (hr.more n x hx), ?_, ?_, ?_, ?_, o11.trans hr.n, o12, o13, X ++ Y, (hX.mono (by intro x hx; simp [hx])).trans (hY.mono (by intro x hx; simp [hx])), fun x hx => ?_⟩⟩
  · rw [htk]
    exact Both.append hr.like ⟨hlike, trivial⟩
  · rw [← hset]
    refine Both.of_get (by rw [List.length_set, hlen]) fun j h1 h2 => ?_
    rw [List.length_set] at h2
    rw [List.getElem_set]
    by_cases hij : i = j
    · subst hij
      rw [if_pos rfl]
      refine ⟨?_, ⟨P', o3, by rw [ep]; exact o3'⟩, by rw [ed]; exact o2⟩
      rw [ek, (hcur.get i h1 h2).1, List.getElem_append_right (by rw [hr.len]; exact Nat.le_refl _)]
      simp [hr.len]
    · rw [if_neg hij]
      obtain ⟨k1, ⟨Q, k2, k3⟩, k4⟩ := hcur.get j h1 h2
      have hu : ∀ x, Und G' h ks[j].2 x → G2 x = G' x := fun x hx => o5.same x fun hx2 => by
        rcases Nat.lt_or_gt_of_ne hij with h3 | h3
        · exact kids_apart hcur hrc hfc hk h1 h3 hx2 hx
        · exact kids_apart hcur hrc hfc h1 hk h3 hx hx2
      exact ⟨k1, ⟨Q, (hu _ (Und.self _ _ _)).trans k2, k3⟩, k4.frame o6 hu⟩
  · intro e he
    rcases List.mem_append.1 he with he | he
    · exact (hr.disk e he).more o6
    · rw [List.mem_singleton.1 he, ep, ed]
      exact o4
  · exact hr.wrt.trans o5 fun x hx => ⟨ks[i], List.getElem_mem hk, hr.wrt.und hx⟩
  · have e1 : pagesN (done ++ [e2]) = pagesN done ++ pagesAt pg' l' := by
      rw [pagesN_append]
      congr 1
      rw [he2]
      show (pg' :: pagesN l') ++ [] = pg' :: pagesN l'
      rw [List.append_nil]
    have e3 : pagesN (l.take (i + 1)) = pagesN (l.take i) ++ pagesAt (pageOf l[i]) (kidsOf l[i]) := by
      rw [htk, pagesN_append]
      congr 1
      show pagesAt (pageOf l[i]) (kidsOf l[i]) ++ [] = _
      rw [List.append_nil]
    rw [e1, e3, List.filter_append]
    have p1 := hr.pages
    have p2 := o7
    rw [List.perm_iff_count] at *
    intro x
    have c1 := p1 x
    have c2 := p2 x
    simp only [List.count_append] at *
    omega
  · have e3 : pagesN (l.take (i + 1)) = pagesN (l.take i) ++ pagesAt (pageOf l[i]) (kidsOf l[i]) := by
      rw [htk, pagesN_append]
      congr 1
      show pagesAt (pageOf l[i]) (kidsOf l[i]) ++ [] = _
      rw [List.append_nil]
    rw [e3, List.length_append, List.count_append, hr.cnt, o8]
  · rw [hr.n] at o9
    exact hr.als.append o9
  · rw [o10, hr.k, List.length_append]
    omega
  · rcases List.mem_append.1 hx with hx | hx
    · exact hX1 x hx
    · rcases hY1 x hx with e | e | e | e | e
      · exact .inl e
      · exact .inr (.inl e)
      · exact .inr (.inr (.inl e))
      · exact .inr (.inr (.inr (.inl e)))
      · exact .inr (.inr (.inr (.inr (fun e2 => e (hr.wrt.none_ x e2)))))

end Go.Proofs.YthehkckdecckhaaGreatDoor

namespace Go.Proofs.YthehkckdecckhaaGreatDoor
open Go.RowKit Go.Maps

theorem pagesN_zero (l : List (En 0)) : pagesN l = [] := by
  induction l with
  | nil => rfl
  | cons e l ih => exact ih
theorem encN_lt {h : Nat} {l : List (En h)} (hF : PageFit l) : ∀ x ∈ encN l, x < 256 := by
  cases h with
  | zero => exact leafPage_lt hF.short
  | succ h =>
    intro x hx
    rcases List.mem_append.1 hx with h1 | h1
    · have := hF.1
      rw [List.mem_singleton.1 h1]
      omega
    · exact bbytes_lt hF.shortB x h1

/-- What is asked of a row that is laid into a page. -/
theorem pagefit_of {s : St} {q : Pg} {D : Dk} (hD : DkOk s q D) (hn : s.n ≤ 16384) {h : Nat} {l : List (En h)} (hf : ∀ e ∈ l, FullE e) (h0 : 0 < l.length) (hs : sizeN l ≤ 495) (hh : h ≤ 200) (hk : KidsOn D h l) : PageFit l := by
  cases h with
  | zero => exact ⟨h0, fun x hx => by
      obtain ⟨_, h2, h3⟩ := hf x hx
      exact ⟨by omega, by omega⟩, hs⟩
  | succ h => exact ⟨by omega, h0, fun e he => ⟨(hf e he).key, by have := hD.pages (hk e he); omega⟩, hs⟩

/-- Encode and Alloc of a node. -/
theorem write_enc {w1 : World} {O : Nat → Prop} {t p b m sm rb : Nat} {s : St} {q : Pg} {Dn S : Stt} {D : Dk} {G : Gh} {Rw : Nat → Prop} (h : TM w1 O t p b m sm rb s q Dn S D G Rw) {hh : Nat} {nd : Nd} {T : TypeId} {v : Value} {l : List (En hh)} (hN : NdAt w1 Rw G (hh + 1) nd T v) (hI : NodeIs G D hh nd l) (hF : PageFit l) (hroom : 0 < q.left s.n) (hu : q.u ≤ 900000) (hk : s.k ≤ 900000) (hleft : s.left < 0) {lv : Nat} (hlv : lv = hh + 1) :
    ∃ n2, Hid (Calls Tryz.prog 68 #[.iface T v, .int .i64 (lv : Nat)] w1.drew fun e w' => ∃ a2 c2, e = .returned (.slice a2 n2 c2) ∧ BytesAt w' a2 (encN l) ∧ (∀ x, a2 = some x → w1.heap.size ≤ x.block) ∧ Turn [] w1 w') ∧
      Hid (∀ (w2 : World) (a2 : Option Addr) (c2 : Nat), Turn [] w1 w2 → BytesAt w2 a2 (encN l) → (∀ x, a2 = some x → w1.heap.size ≤ x.block) → Calls Tryz.prog 67 #[.pointer (some ⟨p, 0, none⟩), .slice a2 n2 c2] w2 fun e w3 => ∃ k : Nat, e = .returned (.tuple #[.int .i64 (k : Nat), .int .i64 0]) ∧ q.Next s.n k ∧ PAt w3 p b m sm rb (s.did k (bytesOf 512 (pageB (encN l)))) (q.alloced k) ∧ Turn [p, b, m, sm] w2 w3) := by
  have hd : Turn [] w1 w1.drew := (Turn.refl [] w1).drew
  have hlen := encN_length l
  have hsz := hF.size
  have hpl := h.lts p (by simp)
  have hNd : NdAt w1.drew Rw G (hh + 1) nd T v := hN.keep (fun b hr => hd.block b (h.mem.rows b hr) (by simp)) (fun _ h => h) (fun _ Q hQ => ⟨Q, hQ, rfl⟩)
  subst hlv
  refine ⟨(encN l).length, ?_, fun w2 a2 c2 hT2 hB2 hx2 => ?_⟩
  · refine (enc_node (h.quiet hd).mem hNd hI hF).mono ?_
    rintro e w2 ⟨v2, rfl, hO2, hT2⟩
    obtain ⟨a2, c2, rfl, _, hB2, hx2⟩ := OwnB.bytes hO2
    exact ⟨a2, c2, rfl, hB2, fun x hx => (hx2 x hx).1, hd.then hT2 (by simp)⟩
  · refine (alloc_any p b m sm rb s q h.sd h.qd (by omega) (by omega) a2 c2 (encN l) _ rfl (by omega) (encN_lt hF) w2 hB2 (fun x _ hx => by have := hx2 x hx; omega) (h.pa.turn0 hT2)).mono ?_
    rintro e w3 hpost
    rcases hpost with ⟨_, hfull, _⟩ | ⟨k, rfl, hNx, _, hA3, hT3⟩ | ⟨_, _, _, h, _⟩
    · exact absurd ((Pg.left_zero q s.n).2 hfull) (by omega)
    · exact ⟨k, rfl, hNx, hA3, hT3⟩
    · omega

theorem wout_of {w w1 w4 : World} {O : Nat → Prop} {t p b m sm rb : Nat} {s s1 s4 : St} {q q1 q4 : Pg} {Dn S : Stt} {D D1 : Dk} {G G1 : Gh} {Rw : Nat → Prop} {hh a k : Nat} {P : Pl} {l l' : List (En hh)} {ns : List Nat} (hl : LikeN l l') (hW1 : Wrt G G1 (fun x => Und G hh a x)) (hD1 : ∀ n x, D n = some x → D1 n = some x) (hp : (pagesN l').Perm ((pagesN l).filter (fun x => decide (x ≠ 0)) ++ ns)) (hc : ns.length = (pagesN l).count 0) (hA : Als s.n q ns q1) (hk : s1.k = s.k + ns.length) (hn : s1.n = s.n) (hT1 : ∃ X, Turn X w w1 ∧ ∀ x ∈ X, x = p ∨ x = b ∨ x = m ∨ x = sm ∨ G x ≠ none) (hP : G1 a = some P)
    (hNx : q1.Next s1.n k) (h4k : s4.k = s1.k + 1) (h4n : s4.n = s1.n) (h4l : s4.left < 0) (h4q : q4 = q1.alloced k) (hL : ∃ D' : Dk, (∀ n x, D1 n = some x → D' n = some x) ∧ OnDisk D' hh k l' ∧ Means (G1.add a { P with pg := k }) D' hh a l' ∧ TM w4 O t p b m sm rb s4 q4 Dn S D' (G1.add a { P with pg := k }) Rw ∧ Wrt G1 (G1.add a { P with pg := k }) (fun x => x = a) ∧ Turn [a, p, b, m, sm] w1 w4) :
    WOut w w4 O t p b m sm rb s q Dn S D G Rw hh a l 0 := by
  obtain ⟨D', d1, d2, d3, d4, d5, d6⟩ := hL
  obtain ⟨X, hX, hX1⟩ := hT1
  have hGa : G a ≠ none := fun e => by rw [hW1.none_ a e] at hP; cases hP
  refine ⟨l', k, ns ++ [k], s4, q4, D', _, hl, d3, ⟨_, Gh.add_same _ _ _, rfl⟩, d2, hW1.trans d5 (fun x hx => by rw [hx]; exact Und.self _ _ _), fun n x hx => d1 n x (hD1 n x hx), ?_, ?_, ?_, ?_, h4n.trans hn, h4l, d4, X ++ [a, p, b, m, sm], (hX.mono (by intro x hx; simp [hx])).trans (d6.mono (by intro x hx; exact List.mem_append_right _ hx)), fun x hx => ?_⟩
  · show (k :: pagesN l').Perm ((0 :: pagesN l).filter _ ++ (ns ++ [k]))
    rw [List.filter_cons, if_neg (by simp)]
    rw [List.perm_iff_count] at *
    intro x
    have c1 := hp x
    simp only [List.count_append, List.count_cons, List.count_nil] at *
    omega
  · show _ = (0 :: pagesN l).count 0
    rw [List.length_append, hc]
    simp
  · rw [h4q]
    rw [hn] at hNx
    exact hA.append (Als.one hNx)
  · rw [h4k, hk, List.length_append]
    rfl
  · rcases List.mem_append.1 hx with hx | hx
    · exact hX1 x hx
    · simp at hx
      rcases hx with rfl | rfl | rfl | rfl | rfl
      · exact .inr (.inr (.inr (.inr hGa)))
      · exact .inl rfl
      · exact .inr (.inl rfl)
      · exact .inr (.inr (.inl rfl))
      · exact .inr (.inr (.inr (.inl rfl)))

theorem did_left {s : St} {j : Nat} {l : List Nat} (h : s.left < 0) : (s.did j l).left < 0 := by
  unfold St.did
  show (if _ then _ else _) < (0 : Int)
  split <;> omega

set_option maxRecDepth 100000 in
set_option maxHeartbeats 3200000 in
theorem tm_write_leaf {w : World} {O : Nat → Prop} {t p b m sm rb : Nat} {s : St} {q : Pg} {Dn S : Stt} {D : Dk} {G : Gh} {Rw : Nat → Prop} (h : TM w O t p b m sm rb s q Dn S D G Rw) {a : Nat} {l : List (En 0)} {P : Pl} (hm : Means G D 0 a l) (hP : G a = some P) (h0 : P.pg = 0) (hw : WIn s q l 0) :
    Calls Tryz.prog 46 #[.pointer (some ⟨t, 0, none⟩), .pointer (some ⟨a, 0, none⟩)] w fun e w' => e = .returned (.int .i64 0) ∧ WOut w w' O t p b m sm rb s q Dn S D G Rw 0 a l 0 := by
  obtain ⟨P', h1, hlv, h3, h4, h5⟩ := hm.out
  obtain rfl : P = P' := by rw [hP] at h1; exact Option.some.inj h1
  cases hnd : P.nd with
  | none => exact absurd h0 (h4 hnd)
  | some nd =>
    have hI := h5 nd hnd
    have hF : PageFit l := pagefit_of h.dk (by have := h.pa.laid.n16; omega) hw.full hw.some hw.size hw.hh trivial
    have hc0 : w.cell? ⟨a, 0, none⟩ = some (.int .i64 0) := by
      have := h.mem.at_ a P hP
      unfold PlOk at this
      rw [hnd] at this
      obtain ⟨_, _, _, _, hp, _⟩ := this
      have h7 := hp.c0
      rw [h0] at h7
      exact h7
    have hta := ta_lb
    have HN := hide (tm_node_some h hP hnd)
    have HH := hide (show Means G D 0 a l ∧ G a = some P ∧ P.pg = 0 ∧ P.lvl = 0 + 1 ∧ P.nd = some nd ∧ NodeIs G D 0 nd l ∧ PageFit l ∧ WIn s q l 0 from ⟨hm, hP, h0, hlv, hnd, hI, hF, hw⟩)
    have hal := lt_of_cell hc0
    clear hm hP h0 hlv hnd hF hw h1 h3 h4 h5 h hI
    go_enter Tryz.func46, Tryz.ntmps46
    go_wp2_with fail
    with_reducible refine HN.out.mono ?_
    rintro e w1 ⟨T, v, rfl, hN, hTM, hS⟩
    obtain ⟨hm, hP, h0, hlv, hnd, hI, hF, hw⟩ := HH.out
    rw [hlv] at hN
    have hcnt := hw.room
    have hone : (pagesAt 0 l).count 0 = 1 + (pagesN l).count 0 := by
      show (0 :: pagesN l).count 0 = _
      rw [List.count_cons]
      simp
      omega
    have hu := hw.u
    have hk := hw.k
    obtain ⟨n2, HCe, HAl⟩ := write_enc (lv := 0 + 1) hTM hN hI hF (by omega) (by omega) (by omega) hw.left rfl
    have HTM := hide hTM
    have HS := hide hS
    obtain rfl : nd = .inl l := hI
    obtain ⟨_, rfl, bb, off, cap, rfl, _⟩ := hN
    have h11 : w1.cell? ⟨a, 1, none⟩ = some (.int .i64 ((0 + 1 : Nat) : Int)) := by
      have := hTM.mem.at_ a P hP
      unfold PlOk at this
      rw [hnd] at this
      obtain ⟨_, _, _, _, hp, _⟩ := this
      rw [hp.c1, hlv]
    have hp0 := hTM.tr.c0
    have hs1 := hS.size
    have hna := not7 (hTM.own a (.inl (by rw [hP]; simp))).1
    have HNa := hide hna
    clear hm hP h0 hlv hnd hF hw hcnt hone hu hk hTM hS HN hna
    go_wp2_with fail
    go_region_with (first
      | (go_at_call 68; refine HCe.out.mono ?_; rintro e w2 ⟨a2, c2, rfl, hB2, hx2, hT2⟩; have hp2 := (HTM.out.tr.turn hT2 (by simp)).c0; have HB2 := hide hB2; have HX2 := hide hx2; have HT2 := hide hT2; clear hT2 hB2 hx2)
      | (go_at_call 67; refine (HAl.out w2 a2 c2 HT2.out HB2.out HX2.out).mono ?_; rintro e w3 ⟨k, rfl, hNx, hA3, hT3⟩; have HNx := hide hNx; have HA3 := hide hA3; have HT3 := hide hT3; clear hNx hA3 hT3))
    all_goals
      obtain ⟨hm, hP, h0, hlv, hnd, hI, hF, hw⟩ := HH.out
      have hT13 : Turn [p, b, m, sm] w1 w3 := (HT2.out.mono (T := [p, b, m, sm]) (by simp)).trans HT3.out
      have hL := tm_lay HTM.out hP hnd hlv hI hF trivial HNx.out HA3.out hT13
      have hc3 : w3.cell? ⟨a, 0, none⟩ ≠ none ∧ w3.frozen? ⟨a, 0, none⟩ = false := by
        have := HTM.out.mem.at_ a P hP
        unfold PlOk at this
        rw [hnd] at this
        obtain ⟨_, _, _, _, hp, _⟩ := this
        have hp3 := hp.turn hT13 (by simp; exact ⟨HNa.out.2.1, HNa.out.2.2.1, HNa.out.2.2.2.1, HNa.out.2.2.2.2.1⟩)
        exact ⟨by rw [hp3.c0]; simp, hp3.fz 0⟩
      obtain ⟨x3, hx3⟩ := Option.ne_none_iff_exists'.1 hc3.1
      have hz3 := hc3.2
      have HFin := hide (wout_of (LikeN.refl l) (Wrt.refl G _) (fun _ _ h => h) (by rw [pagesN_zero]; exact List.Perm.refl _) (by rw [pagesN_zero]; rfl) (show Als s.n q [] q from rfl) rfl rfl (by
        obtain ⟨X, hX, hX1⟩ := HS.out.turn
        exact ⟨X, hX, fun x hx => (hX1 x hx).imp id (fun h => .inr (.inr (.inr h)))⟩) hP HNx.out (show (s.did k (bytesOf 512 (pageB (encN l)))).k = s.k + 1 from rfl) rfl (did_left hw.left) rfl hL)
      clear hm hP h0 hlv hnd hI hF hw hL hc3 hT13
      go_wp2_with fail
      go_ret
      exact ⟨rfl, HFin.out⟩

end Go.Proofs.YthehkckdecckhaaGreatDoor
