/-
  What Commit makes of a tree of nothing or of one small leaf.
  A store in memory: its object, its sight, its transaction; isDead, Begin, Commits, isOver, end, walked.
  The atomic counter of commits: Store, Load, Add, walked.
-/
import Derived.Test.YthgpjkcgccdldaaGreatDoorVA
import Derived.Maps.OwnSet
namespace Go.Proofs.YthgpjkcgccdldaaGreatDoor
open Go.RowKit Go.Maps

/-- The pages to be freed, as a row. -/
theorem drop_row {w : World} {O : Nat → Prop} {B : List Nat} {v : Value} {kp : Option Nat} (h : Drop w O B v kp) : ∃ da dcap, v = .slice da kp.toList.length dcap ∧ ∀ i (_ : i < kp.toList.length), ∃ g off, da = some ⟨g, off, none⟩ ∧ w.cell? ⟨g, off + i, none⟩ = some (.int .i64 (kp.toList[i] : Nat)) ∧ ¬ O g ∧ g ∉ B := by
  cases kp with
  | none => exact ⟨none, 0, h, fun i hi => by simp at hi⟩
  | some pg =>
    obtain ⟨g, cap, h1, h2, h3, h4⟩ := h
    refine ⟨some ⟨g, 0, none⟩, cap, h1, fun i hi => ⟨g, 0, rfl, ?_, h3, h4⟩⟩
    have : i = 0 := by simpa using hi
    subst this
    exact h2

theorem there_of {q q3 : Pg} {s : St} {kp : Option Nat} (hL : Laid s q.c q.root q.K) (hK : ∀ k, q.K k = true ↔ kp = some k) (e : q3.K = q.K) (h0 : ∀ k, kp = some k → q3.si k = 0) : ∀ i (h : i < kp.toList.length), ((kp.toList.take i).foldl Pg.freed q3).thereI s.n (kp.toList[i] : Nat) = true := by
  cases kp with
  | none => intro i h; simp at h
  | some pg =>
    intro i h
    have : i = 0 := by simpa using h
    subst this
    show q3.thereI s.n (pg : Nat) = true
    have h1 := (hK pg).2 rfl
    have h2 := hL.kr pg h1
    unfold Pg.thereI Pg.there
    rw [e, Int.toNat_natCast, h1, h0 pg rfl]
    simp
    omega

/-- What is committed when a page k was allocated and those of kp were freed. -/
theorem committed_K (q : Pg) (kp : Option Nat) (k : Nat) (root : List Nat) (hK : ∀ x, q.K x = true ↔ kp = some x) (hs : ∀ x, q.si x = 0) (hk : q.K k = false) : ∀ x, ((kp.toList.foldl Pg.freed (({ q with rd := true } : Pg).alloced k)).committed root).K x = true ↔ some k = some x := by
  intro x
  cases kp with
  | none =>
    show (({ q with rd := true } : Pg).alloced k).there x = true ↔ _
    have h1 : q.K x = false := by
      cases h : q.K x with
      | false => rfl
      | true => have := (hK x).1 h; cases this
    unfold Pg.there Pg.alloced setB
    simp only [h1, hs]
    by_cases h : x = k
    · simp [h]
    · simp [h]
      exact fun e => h e.symm
  | some pg =>
    have hne : pg ≠ k := fun e => by rw [← e, (hK pg).2 rfl] at hk; cases hk
    have hsi : (({ q with rd := true } : Pg).alloced k).si pg = 0 := by
      show setB q.si k 1 pg = 0
      unfold setB
      rw [if_neg hne]
      exact hs pg
    show ((({ q with rd := true } : Pg).alloced k).freed pg).there x = true ↔ _
    unfold Pg.freed
    rw [hsi, if_neg (by omega)]
    unfold Pg.there
    show ((q.K x || (setB (setB q.si k 1) pg 2) x == 1) && !((setB (setB q.si k 1) pg 2) x == 2)) = true ↔ _
    unfold setB
    by_cases h1 : x = pg
    · subst h1
      simp
      exact fun e => hne e.symm
    · have h2 : q.K x = false := by
        cases h : q.K x with
        | false => rfl
        | true => have := (hK x).1 h; injection this with this; exact absurd this.symm h1
      simp only [h1, h2, hs, if_false]
      by_cases h : x = k
      · simp [h]
      · simp [h]
        exact fun e => h e.symm

theorem committed_none (q : Pg) (kp : Option Nat) (root : List Nat) (hK : ∀ x, q.K x = true ↔ kp = some x) (hs : ∀ x, q.si x = 0) : ∀ x, ((kp.toList.foldl Pg.freed ({ q with rd := true } : Pg)).committed root).K x = true ↔ none = some x := by
  intro x
  cases kp with
  | none =>
    show ({ q with rd := true } : Pg).there x = true ↔ _
    have h1 : q.K x = false := by
      cases h : q.K x with
      | false => rfl
      | true => have := (hK x).1 h; cases this
    unfold Pg.there
    simp [h1, hs]
  | some pg =>
    show (({ q with rd := true } : Pg).freed pg).there x = true ↔ _
    unfold Pg.freed
    rw [show ({ q with rd := true } : Pg).si pg = 0 from hs pg, if_neg (by omega)]
    unfold Pg.there
    show ((q.K x || (setB q.si pg 2) x == 1) && !((setB q.si pg 2) x == 2)) = true ↔ _
    unfold setB
    by_cases h1 : x = pg
    · subst h1
      simp
    · have h2 : q.K x = false := by
        cases h : q.K x with
        | false => rfl
        | true => have := (hK x).1 h; injection this with this; exact absurd this.symm h1
      simp [h1, h2, hs]

theorem committed_c (dr : List Nat) (q : Pg) (root : List Nat) : ((dr.foldl Pg.freed q).committed root).c = q.c + 1 := by
  show (dr.foldl Pg.freed q).c + 1 = _
  have : ∀ (dr : List Nat) (q : Pg), (dr.foldl Pg.freed q).c = q.c := by
    intro dr
    induction dr with
    | nil => intro q; rfl
    | cons x xs ih => intro q; rw [List.foldl_cons, ih]; unfold Pg.freed; split <;> rfl
  rw [this]

theorem rootBytes_lt {k keys : Nat} (hk : k ≤ 4096) (hks : keys ≤ 1000) : ∀ x ∈ rootBytes k 1 keys, x < 256 := by
  intro x hx
  unfold rootBytes at hx
  rcases List.mem_append.1 hx with h | h
  · rcases List.mem_append.1 h with h | h
    · exact be4_lt _ (by omega) x h
    · simp at h
      omega
  · exact be4_lt _ (by omega) x h

theorem committed_u (q : Pg) (root : List Nat) : (q.committed root).u = 0 := rfl
theorem committed_si (q : Pg) (root : List Nat) : ∀ x, (q.committed root).si x = 0 := fun _ => rfl
theorem committed_dead (dr : List Nat) (q : Pg) (root : List Nat) : ((dr.foldl Pg.freed q).committed root).dead = q.dead := freeds_dead dr q

set_option maxRecDepth 100000 in
set_option maxHeartbeats 800000 in
theorem write_old (t a pg : Nat) (hp : 0 < pg) (w : World) (h0 : w.cell? ⟨a, 0, none⟩ = some (.int .i64 (pg : Nat))) : Calls Tryz.prog 101 #[.pointer (some ⟨t, 0, none⟩), .pointer (some ⟨a, 0, none⟩)] w fun e w' => e = .returned (.int .i64 0) ∧ w' = w := by
  have hne : ((pg : Int) == 0) = false := by
    rw [beq_eq_false_iff_ne]
    omega
  go_enter Tryz.func101, Tryz.ntmps101
  go_wp2
  go_ret
  exact ⟨rfl, rfl⟩

theorem committed_old (q : Pg) (kp : Option Nat) (root : List Nat) (hK : ∀ x, q.K x = true ↔ kp = some x) (hs : ∀ x, q.si x = 0) : ∀ x, ((([] : List Nat).foldl Pg.freed ({ q with rd := true } : Pg)).committed root).K x = true ↔ kp = some x := by
  intro x
  show ({ q with rd := true } : Pg).there x = true ↔ _
  rw [← hK x]
  unfold Pg.there
  simp [hs]

set_option maxHeartbeats 1600000 in
/-- Commit. -/
theorem ok_commit {w : World} {O : Nat → Prop} {t p N c : Nat} {l : KVs} (h : TreeOk w O t p N c true l) (hc : c < 100) :
    Calls Tryz.prog 72 #[.pointer (some ⟨t, 0, none⟩)] w fun e w' => e = .returned (.int .i64 0) ∧ TreeOk w' O t p N (c + 1) false l ∧ Keep O w w' := by
  obtain ⟨b, m, sm, rb, s, q, D, S, kp, h, hch⟩ := h
  have hlen := h.tiny.len
  have hleft := h.left
  have hkeys := h.keys
  have hB := h.lts
  have hnoO := h.no
  have hfl := fresh_le h.shape
  have hsk := h.sk
  have hO := h.off
  have htX : ∀ x ∈ [p, b, m, sm], x ≠ t := fun x hx => by
    simp at hx
    rcases hx with rfl | rfl | rfl | rfl
    · exact hO.p.symm
    · exact hO.b.symm
    · exact hO.m.symm
    · exact hO.sm.symm
  have hkl : kp.toList.length ≤ 1 := by cases kp <;> simp
  have hxO : ∀ X : List Nat, (∀ x ∈ X, ¬ O x ∧ x ≠ 1) → ∀ x ∈ X ++ [t, p, b, m, sm], ¬ O x ∧ x ≠ 1 := fun X hX x hx => by
    rcases List.mem_append.1 hx with h' | h'
    · exact hX x h'
    · exact ⟨hnoO x (by simp at h' ⊢; omega), h.ne1 x h'⟩
  have hfin : ∀ (w' : World) (s' : St) (q' : Pg) (sm' rb' : Nat) (kp' : Option Nat) (X : List Nat), Turn (X ++ [t, p, b, m, sm]) w w' → s'.dead = false → s'.n = s.n → s'.k ≤ s.k + 3 → s'.left < 0 → w.heap.size ≤ sm' → w.heap.size ≤ rb' → rb' < w'.heap.size → TreeAt w' t p ⟨S.root, S.keys, false, 0, .slice none 0 0⟩ ⟨S.root, S.keys, false, 0, .slice none 0 0⟩ → PAt w' p b m sm' rb' s' q' → q'.dead = false → q'.u = 0 → q'.c = c + 1 → (∀ x, q'.si x = 0) → (∀ x, q'.K x = true ↔ kp' = some x) → Shape w' O [1, t, p, b, m, sm', rb'] ⟨S.root, S.keys, false, 0, .slice none 0 0⟩ kp' l → TreeOk w' O t p N (c + 1) false l := fun w' s' q' sm' rb' kp' X hT h1 h2 h3 h4 h5 h6 h7 hTr hA q1 q2 q3 q4 q5 hsh => by
    have htl := h.tr.lt
    refine ⟨b, m, sm', rb', s', q', _, _, kp', ⟨hA, hTr, ⟨hO.one, hO.p, hO.b, hO.m, by omega, by omega⟩, h7, h1, h4, h2.trans h.sn, by omega, by omega, q1, q2, q3, q4, q5, fun x hx ho => ?_, fun x hx => Nat.lt_of_lt_of_le (h.ob x hx) hT.size, hkeys, h.tiny, hsh⟩, rfl⟩
    have hxl := h.ob x ho
    exact hnoO x (by simp at hx ⊢; omega) ho
  have hB7 : ∀ (x sm' rb' : Nat), x < w.heap.size → w.heap.size ≤ sm' → w.heap.size ≤ rb' → x ∉ [1, t, p, b, m, sm, rb] → x ∉ [1, t, p, b, m, sm', rb'] := fun x sm' rb' h1 h2 h3 h4 hm => h4 (by simp at hm ⊢; omega)
  cases h.shape with
  | old a pg d bb off cap hr hf hd hp hkp hl hL ho hB' =>
    have hane := off_ne7 hB'.1
    have hbne := off_ne7 hB'.2.1
    have hal := hL.place.lt
    have hbl := hL.kv.lt ⟨bb, off, none⟩ hl rfl
    have hrv : rootV S.root = .pointer (some ⟨a, 0, none⟩) := by rw [hr]; rfl
    have hpN : pg ≤ 4096 := by
      have h1 := h.pa.laid.kr pg ((h.qK pg).2 hkp)
      have h2 := h.pa.laid.n4096
      omega
    refine (commit_gen t p b m sm rb s q D S h.sd h.qd hO (by omega) (by omega) (by omega) hch [] [] none 0 (by simp) hd (by simp) (fun w3 s3 q3 root => s3.k = s.k ∧ q3 = ({ q with rd := true } : Pg) ∧ LeafAt w3 a pg d bb off cap l) w h.rbl h.pa h.tr ?_).mono ?_
    · intro w2 hA2 hTr2 hT2
      rw [hrv]
      have hL2 : LeafAt w2 a pg d bb off cap l := ⟨hL.place.turn hT2 (by simp; omega), hL.d01, hL.kv.turn hT2 (fun x _ hx => by obtain rfl := Option.some.inj hx; simp; omega), hL.cap⟩
      refine (write_old t a pg hp w2 hL2.place.c0).mono ?_
      rintro e w3 ⟨rfl, rfl⟩
      refine ⟨rfl, s, { q with rd := true }, rootBytes pg 1 S.keys, ⟨h.sd, h.qd, by omega, h.sl, rfl, by show 9 ≤ 64; omega, rootBytes_lt hpN (by omega), by show q.u + 0 < _; rw [h.qu]; omega, fun i hi => by simp at hi, fun i hi => by simp at hi, ?_⟩, ⟨rfl, rfl, hL2⟩, hTr2, hA2, Turn.refl _ _⟩
      intro w4 hT4
      have hP4 := hL2.place.turn hT4 (by simp; omega)
      rw [hrv, hd]
      refine (bytes_some a pg 1 S.keys _ _ _ rfl rfl rfl (by omega) (by omega) (by omega) w4 hP4.c0 hP4.c1).mono ?_
      rintro e w5 ⟨v5, rfl, hO5, hT5⟩
      obtain ⟨a2, c2, rfl, hn, hB5, hx5⟩ := OwnB.bytes hO5
      exact ⟨a2, c2, rfl, hn, hB5, fun x hx => (hx5 x hx).1, hT5⟩
    · rintro e w' ⟨rfl, w3, s3, q3, root, s', sm', rb', ⟨hk3, rfl, hL3⟩, hs3, h1, h2, h3, h4, h5, h6, h7, hTr, hA, hT3, hT⟩
      have hat : a ∉ [t, p, b, m, sm] := by simp; omega
      have hbt : bb ∉ [t, p, b, m, sm] := by simp; omega
      refine ⟨rfl, hfin w' s' _ sm' rb' kp [] hT h1 h2 (by omega) h4 h5 h6 h7 hTr hA ?_ (committed_u _ _) ?_ (committed_si _ _) (committed_old q kp root h.qK h.qs) (.old a pg d bb off cap hr rfl rfl hp hkp hl ⟨hL3.place.turn hT3 hat, hL3.d01, hL3.kv.turn hT3 (fun x _ hx => by obtain rfl := Option.some.inj hx; exact hbt), hL3.cap⟩ ho ⟨hB7 a sm' rb' hal h5 h6 hB'.1, hB7 bb sm' rb' hbl h5 h6 hB'.2.1, hB'.2.2⟩), Keep.of hT (hxO _ (by simp))⟩
      · rw [committed_dead]
        exact h.qd
      · rw [committed_c]
        show q.c + 1 = c + 1
        rw [h.qc]
  | new a d bb off cap hr hf hd hl hL ho hB' =>
    obtain ⟨da, dcap, hdr, hrow⟩ := drop_row hd
    have hane := off_ne7 hB'.1
    have hbne := off_ne7 hB'.2.1
    have hal := hL.place.lt
    have hbl := hL.kv.lt ⟨bb, off, none⟩ hl rfl
    have hrv : rootV S.root = .pointer (some ⟨a, 0, none⟩) := by rw [hr]; rfl
    refine (commit_gen t p b m sm rb s q D S h.sd h.qd hO (by omega) (by omega) (by omega) hch [a, p, b, m, sm] kp.toList da dcap (by omega) hdr (by simp; exact ⟨hane.2.2.2.2.2.2.symm, hO.p, hO.b, hO.m, hO.sm⟩) (fun w3 s3 q3 root => ∃ k, q.K k = false ∧ LeafAt w3 a k 1 bb off cap l ∧ s3.k = s.k + 1 ∧ q3 = ({ q with rd := true } : Pg).alloced k ∧ 0 < k) w h.rbl h.pa h.tr ?_).mono ?_
    · intro w2 hA2 hTr2 hT2
      rw [hrv]
      have hL2 : LeafAt w2 a 0 d bb off cap l := ⟨hL.place.turn hT2 (by simp; omega), hL.d01, hL.kv.turn hT2 (fun x _ hx => by obtain rfl := Option.some.inj hx; simp; omega), hL.cap⟩
      refine (write_leaf t p b m sm rb s { q with rd := true } D S h.sd h.qd (by show q.u < _; rw [h.qu]; omega) (by omega) h.sl (by show 0 < q.left s.n; omega) hO a d bb off cap l hane ⟨hB'.2.2, hbne.2.1, hbne.2.2.1, hbne.2.2.2.1, hbne.2.2.2.2.1⟩ (by omega) h.tiny.fits.1 h.tiny.fits.2 w2 hA2 hTr2 hL2).mono ?_
      rintro e w3 ⟨rfl, k, hNx, hL3, hTr3, hA3, hT3⟩
      have hkr := hNx.range
      have hkN : k ≤ 4096 := by have := h.pa.laid.n4096; omega
      refine ⟨rfl, s.did k (bytesOf 512 (pageB (leafPage l))), ({ q with rd := true } : Pg).alloced k, rootBytes k 1 S.keys, ⟨h.sd, h.qd, by show s.k + 1 < _; omega, ?_, rfl, by show 9 ≤ 64; omega, rootBytes_lt hkN (by omega), by show q.u + 1 + _ < _; rw [h.qu]; omega, ?_, there_of h.pa.laid h.qK rfl ?_, ?_⟩, ⟨k, hkr.2.2.1, hL3, rfl, rfl, by omega⟩, hTr3, hA3, hT3⟩
      · show (if s.left < 0 then s.left else s.left - 1) < 0
        rw [if_pos h.sl]
        exact h.sl
      · intro i hi
        obtain ⟨g, off', e1, e2, e3, e4⟩ := hrow i hi
        have hga : g ≠ a := fun e => e4 (by simp [e])
        have hgn := off_ne7 (x := g) (fun hm => e4 (List.mem_cons_of_mem _ hm))
        have hgl := lt_of_cell e2
        refine ⟨g, off', e1, ?_, hgn.2.1, hgn.2.2.2.2.1⟩
        refine ((hT3.cell (p := ⟨g, off' + i, none⟩) (Nat.lt_of_lt_of_le hgl hT2.size) (by simp; omega)).trans (hT2.cell (p := ⟨g, off' + i, none⟩) hgl (by simp; omega))).trans e2
      · intro x hx
        show setB q.si k 1 x = 0
        unfold setB
        rw [if_neg]
        · exact h.qs x
        · intro e
          have := (h.qK x).2 hx
          rw [e, hkr.2.2.1] at this
          cases this
      · intro w4 hT4
        have hP4 := hL3.place.turn hT4 (by simp; omega)
        rw [hrv, hdr]
        refine (bytes_some a k 1 S.keys _ _ _ rfl rfl rfl (by omega) (by omega) (by omega) w4 hP4.c0 hP4.c1).mono ?_
        rintro e w5 ⟨v5, rfl, hO5, hT5⟩
        obtain ⟨a2, c2, rfl, hn, hB5, hx5⟩ := OwnB.bytes hO5
        exact ⟨a2, c2, rfl, hn, hB5, fun x hx => (hx5 x hx).1, hT5⟩
    · rintro e w' ⟨rfl, w3, s3, q3, root, s', sm', rb', ⟨k, hk, hL3, hk3, rfl, hk0⟩, hs3, h1, h2, h3, h4, h5, h6, h7, hTr, hA, hT3, hT⟩
      have hat : a ∉ [t, p, b, m, sm] := by simp; omega
      have hbt : bb ∉ [t, p, b, m, sm] := by simp; omega
      have hXO : ∀ x ∈ [a, p, b, m, sm], ¬ O x ∧ x ≠ 1 := fun x hx => by
        simp at hx
        rcases hx with rfl | hx
        · exact ⟨ho.1, hane.1⟩
        · exact ⟨hnoO x (by simp; omega), h.ne1 x (by simp; omega)⟩
      refine ⟨rfl, hfin w' s' _ sm' rb' (some k) [a, p, b, m, sm] hT h1 h2 (by omega) h4 h5 h6 h7 hTr hA ?_ (committed_u _ _) ?_ (committed_si _ _) (committed_K q kp k root h.qK h.qs hk) (.old a k 1 bb off cap hr rfl rfl hk0 rfl hl ⟨hL3.place.turn hT3 hat, .inr rfl, hL3.kv.turn hT3 (fun x _ hx => by obtain rfl := Option.some.inj hx; exact hbt), hL3.cap⟩ ho ⟨hB7 a sm' rb' hal h5 h6 hB'.1, hB7 bb sm' rb' hbl h5 h6 hB'.2.1, hB'.2.2⟩), Keep.of hT (hxO _ hXO)⟩
      · rw [committed_dead]
        exact h.qd
      · rw [committed_c]
        show q.c + 1 = c + 1
        rw [h.qc]
  | gone hr hf hd hl =>
    obtain ⟨da, dcap, hdr, hrow⟩ := drop_row hd
    have hrv : rootV S.root = .pointer none := by rw [hr]; rfl
    refine (commit_gen t p b m sm rb s q D S h.sd h.qd hO (by omega) (by omega) (by omega) hch [] kp.toList da dcap (by omega) hdr (by simp) (fun w3 s3 q3 root => s3.k = s.k ∧ q3 = ({ q with rd := true } : Pg)) w h.rbl h.pa h.tr ?_).mono ?_
    · intro w2 hA2 hTr2 hT2
      rw [hrv]
      refine (write_nil t w2).mono ?_
      rintro e w3 ⟨rfl, rfl⟩
      refine ⟨rfl, s, { q with rd := true }, [], ⟨h.sd, h.qd, by omega, h.sl, rfl, by simp, by simp, by show q.u + _ < _; rw [h.qu]; omega, ?_, there_of h.pa.laid h.qK rfl (fun x _ => h.qs x), ?_⟩, ⟨rfl, rfl⟩, hTr2, hA2, Turn.refl _ _⟩
      · intro i hi
        obtain ⟨g, off', e1, e2, e3, e4⟩ := hrow i hi
        have hgn := off_ne7 (x := g) e4
        exact ⟨g, off', e1, (hT2.cell (p := ⟨g, off' + i, none⟩) (lt_of_cell e2) (by simp; omega)).trans e2, hgn.2.1, hgn.2.2.2.2.1⟩
      · intro w4 _
        rw [hrv, hdr]
        refine (bytes_none S.keys _ _ _ rfl rfl rfl w4).mono ?_
        rintro e w5 ⟨rfl, hT5⟩
        exact ⟨none, 0, rfl, fun _ => rfl, .inl rfl, by simp, hT5⟩
    · rintro e w' ⟨rfl, w3, s3, q3, root, s', sm', rb', ⟨hk3, rfl⟩, hs3, h1, h2, h3, h4, h5, h6, h7, hTr, hA, hT3, hT⟩
      refine ⟨rfl, hfin w' s' _ sm' rb' none [] hT h1 h2 (by omega) h4 h5 h6 h7 hTr hA ?_ (committed_u _ _) ?_ (committed_si _ _) (committed_none q kp root h.qK h.qs) (.gone hr rfl rfl hl), Keep.of hT (hxO _ (by simp))⟩
      · rw [committed_dead]
        exact h.qd
      · rw [committed_c]
        show q.c + 1 = c + 1
        rw [h.qc]

end Go.Proofs.YthgpjkcgccdldaaGreatDoor

namespace Go.Proofs.YthgpjkcgccdldaaGreatDoor
open Go.RowKit Go.Maps

/-- A store's object. -/
structure StAt (w : World) (st p t : Nat) (tx : Option Nat) (cm vw sg : Nat) : Prop where
  c0 : w.cell? ⟨st, 0, none⟩ = some (.pointer (some ⟨p, 0, none⟩))
  c1 : w.cell? ⟨st, 1, none⟩ = some (.pointer (some ⟨t, 0, none⟩))
  c2 : w.cell? ⟨st, 2, none⟩ = some (rootV tx)
  c3 : w.cell? ⟨st, 3, none⟩ = some (.int .i64 (cm : Nat))
  c4 : w.cell? ⟨st, 4, none⟩ = some (.int .i64 (vw : Nat))
  c5 : w.cell? ⟨st, 5, none⟩ = some (.pointer (some ⟨sg, 0, none⟩))
  fz : ∀ o, w.frozen? ⟨st, o, none⟩ = false

theorem StAt.same {w w' : World} {st p t : Nat} {tx : Option Nat} {cm vw sg : Nat} (h : StAt w st p t tx cm vw sg) (hb : w'.heap[st]? = w.heap[st]?) : StAt w' st p t tx cm vw sg := by
  have hc : ∀ o, w'.cell? ⟨st, o, none⟩ = w.cell? ⟨st, o, none⟩ := fun o => World.cell?_of_block (a := ⟨st, o, none⟩) hb
  exact ⟨(hc _).trans h.c0, (hc _).trans h.c1, (hc _).trans h.c2, (hc _).trans h.c3, (hc _).trans h.c4, (hc _).trans h.c5, fun o => (World.frozen?_of_block (a := ⟨st, o, none⟩) hb).trans (h.fz o)⟩
theorem StAt.lt {w : World} {st p t : Nat} {tx : Option Nat} {cm vw sg : Nat} (h : StAt w st p t tx cm vw sg) : st < w.heap.size := lt_of_cell h.c0

/-- One cell of it is stored. -/
theorem StAt.set {w : World} {st p t : Nat} {tx tx' : Option Nat} {cm cm' vw vw' sg sg' : Nat} (h : StAt w st p t tx cm vw sg) (k : Nat) (v : Value) (h2 : 2 ≤ k) (e2 : if k = 2 then v = rootV tx' else tx' = tx) (e3 : if k = 3 then v = .int .i64 (cm' : Nat) else cm' = cm) (e4 : if k = 4 then v = .int .i64 (vw' : Nat) else vw' = vw) (e5 : if k = 5 then v = .pointer (some ⟨sg', 0, none⟩) else sg' = sg) : StAt (w.setCell ⟨st, k, none⟩ v) st p t tx' cm' vw' sg' := by
  have ho : ∀ o, o ≠ k → (w.setCell ⟨st, k, none⟩ v).cell? ⟨st, o, none⟩ = w.cell? ⟨st, o, none⟩ := fun o hne => World.cell?_setCell_other _ _ _ _ (off_ne hne.symm)
  have hz : ∀ o, (w.setCell ⟨st, k, none⟩ v).frozen? ⟨st, o, none⟩ = false := fun o => by rw [World.frozen?_setCell]; exact h.fz o
  refine ⟨(ho 0 (by omega)).trans h.c0, (ho 1 (by omega)).trans h.c1, ?_, ?_, ?_, ?_, hz⟩
  · by_cases hk : k = 2
    · subst hk; rw [World.cell?_setCell_same _ _ _ h.c2]; simp at e2; rw [e2]
    · rw [ho 2 (Ne.symm hk), h.c2]; rw [if_neg hk] at e2; rw [e2]
  · by_cases hk : k = 3
    · subst hk; rw [World.cell?_setCell_same _ _ _ h.c3]; simp at e3; rw [e3]
    · rw [ho 3 (Ne.symm hk), h.c3]; rw [if_neg hk] at e3; rw [e3]
  · by_cases hk : k = 4
    · subst hk; rw [World.cell?_setCell_same _ _ _ h.c4]; simp at e4; rw [e4]
    · rw [ho 4 (Ne.symm hk), h.c4]; rw [if_neg hk] at e4; rw [e4]
  · by_cases hk : k = 5
    · subst hk; rw [World.cell?_setCell_same _ _ _ h.c5]; simp at e5; rw [e5]
    · rw [ho 5 (Ne.symm hk), h.c5]; rw [if_neg hk] at e5; rw [e5]

/-- What a sight is: its once's word, its lock, what it shows. -/
structure SightAt (w : World) (sg : Nat) (d : Int) (v : Value) : Prop where
  c0 : w.cell? ⟨sg, 0, none⟩ = some (.int .u32 d)
  c1 : w.cell? ⟨sg, 1, none⟩ = some (.int .i32 0)
  c3 : w.cell? ⟨sg, 3, none⟩ = some v
  fz : ∀ o, w.frozen? ⟨sg, o, none⟩ = false

theorem SightAt.same {w w' : World} {sg : Nat} {d : Int} {v : Value} (h : SightAt w sg d v) (hb : w'.heap[sg]? = w.heap[sg]?) : SightAt w' sg d v := by
  have hc : ∀ o, w'.cell? ⟨sg, o, none⟩ = w.cell? ⟨sg, o, none⟩ := fun o => World.cell?_of_block (a := ⟨sg, o, none⟩) hb
  exact ⟨(hc _).trans h.c0, (hc _).trans h.c1, (hc _).trans h.c3, fun o => (World.frozen?_of_block (a := ⟨sg, o, none⟩) hb).trans (h.fz o)⟩
theorem SightAt.lt {w : World} {sg : Nat} {d : Int} {v : Value} (h : SightAt w sg d v) : sg < w.heap.size := lt_of_cell h.c0

/-- How a transaction's notes read. -/
def formerElem : Value → Option (DataW Value × List MemPlace)
  | .agg cs =>
    match cs.toList with
    | [.string _, .bool _] => some (.held (.agg cs), [])
    | _ => none
  | _ => none
theorem former_some (s : ByteArray) (b : Bool) : formerElem (.agg #[.string s, .bool b]) = some (.held (.agg #[.string s, .bool b]), []) := rfl
theorem former_form {v : Value} {x : DataW Value × List MemPlace} (h : formerElem v = some x) : ∃ s b, v = .agg #[.string s, .bool b] := by
  unfold formerElem at h
  split at h
  · split at h
    · rename_i s b e
      exact ⟨s, b, by congr; apply Array.toList_inj.1; exact e⟩
    · cases h
  · cases h

/-- A transaction's object, and its notes. -/
structure TxAt (w : World) (tb mb st : Nat) (did : Nat) : Prop where
  c0 : w.cell? ⟨tb, 0, none⟩ = some (.pointer (some ⟨st, 0, none⟩))
  c1 : w.cell? ⟨tb, 1, none⟩ = some (.map (some mb))
  c2 : w.cell? ⟨tb, 2, none⟩ = some (.bool false)
  fz : ∀ o, w.frozen? ⟨tb, o, none⟩ = false
  map : ∃ n D, n ≤ did ∧ w.ownsMap Tryz.prog 9 formerElem mb n D ∧ (0 < did → 0 < Maps.size D)

theorem TxAt.same {w w' : World} {tb mb st : Nat} {did : Nat} (h : TxAt w tb mb st did) (hb : w'.heap[tb]? = w.heap[tb]?) (hm : w'.heap[mb]? = w.heap[mb]?) : TxAt w' tb mb st did := by
  have hc : ∀ o, w'.cell? ⟨tb, o, none⟩ = w.cell? ⟨tb, o, none⟩ := fun o => World.cell?_of_block (a := ⟨tb, o, none⟩) hb
  obtain ⟨n, D, h1, h2, h3⟩ := h.map
  exact ⟨(hc _).trans h.c0, (hc _).trans h.c1, (hc _).trans h.c2, fun o => (World.frozen?_of_block (a := ⟨tb, o, none⟩) hb).trans (h.fz o), n, D, h1, ownsMap_block h2 hm, h3⟩
theorem TxAt.lt {w : World} {tb mb st : Nat} {did : Nat} (h : TxAt w tb mb st did) : tb < w.heap.size ∧ mb < w.heap.size := by
  obtain ⟨n, D, _, h2, _⟩ := h.map
  exact ⟨lt_of_cell h.c0, h2.lt⟩

/-- The transaction that is open, if one is. -/
def TxPart (w : World) (O OT : Nat → Prop) (st sg : Nat) (did : Nat) : Option Nat → Prop
  | none => True
  | some tb => ∃ mb, TxAt w tb mb st did ∧ OT tb ∧ OT mb ∧ ¬ O tb ∧ ¬ O mb ∧ tb ≠ mb ∧ tb ≠ st ∧ tb ≠ sg ∧ mb ≠ st ∧ mb ≠ sg

/-- A store, and all that it stands on, told by what its tree has; O: blocks of others; fs: nobody has looked yet. -/
structure StoreIn (w : World) (O OT : Nat → Prop) (st t p sg N c vw : Nat) (fs : Bool) (tx : Option Nat) (did : Nat) (ch : Bool) (l : KVs) : Prop where
  tree : TreeOk w OT t p N c ch l
  obj : StAt w st p t tx c vw sg
  sight : fs = true → SightAt w sg 0 (.slice none 0 0) ∧ OT sg ∧ ¬ O sg
  sub : ∀ x, O x → OT x
  ost : OT st
  nst : ¬ O st
  ne : st ≠ sg
  txp : TxPart w O OT st sg did tx
  ob : ∀ x, OT x → x < w.heap.size
  sgl : sg < w.heap.size

def StoreOk (w : World) (O : Nat → Prop) (st N c vw : Nat) (fs : Bool) (tx : Option Nat) (did : Nat) (ch : Bool) (l : KVs) : Prop :=
  ∃ OT t p sg, StoreIn w O OT st t p sg N c vw fs tx did ch l

theorem Keep.block {O : Nat → Prop} {w w' : World} (h : Keep O w w') {x : Nat} (ho : O x) (hx : x < w.heap.size) : w'.heap[x]? = w.heap[x]? := by
  obtain ⟨X, hT, hX⟩ := h
  exact hT.block x hx (fun hm => (hX x hm).1 ho)

theorem TxPart.same {w w' : World} {O OT : Nat → Prop} {st sg : Nat} {did : Nat} {tx : Option Nat} (h : TxPart w O OT st sg did tx) (hb : ∀ x, OT x → x < w.heap.size → w'.heap[x]? = w.heap[x]?) : TxPart w' O OT st sg did tx := by
  cases tx with
  | none => trivial
  | some tb =>
    obtain ⟨mb, h1, h2, h3, h4⟩ := h
    exact ⟨mb, h1.same (hb tb h2 h1.lt.1) (hb mb h3 h1.lt.2), h2, h3, h4⟩

/-- A call of the tree's. -/
theorem StoreIn.tree' {w w' : World} {O OT : Nat → Prop} {st t p sg N c vw : Nat} {fs : Bool} {tx : Option Nat} {did : Nat} {ch ch' : Bool} {l l' : KVs} (h : StoreIn w O OT st t p sg N c vw fs tx did ch l) (hK : Keep OT w w') (hT : TreeOk w' OT t p N c ch' l') : StoreIn w' O OT st t p sg N c vw fs tx did ch' l' :=
  ⟨hT, h.obj.same (hK.block h.ost h.obj.lt), fun hf => ⟨(h.sight hf).1.same (hK.block (h.sight hf).2.1 (h.sight hf).1.lt), (h.sight hf).2⟩, h.sub, h.ost, h.nst, h.ne, h.txp.same (fun _x ho hx => hK.block ho hx), fun x hx => Nat.lt_of_lt_of_le (h.ob x hx) hK.size, Nat.lt_of_lt_of_le h.sgl hK.size⟩

/-- Nothing of the store's turns. -/
theorem StoreIn.turn0 {w w' : World} {O OT : Nat → Prop} {st t p sg N c vw : Nat} {fs : Bool} {tx : Option Nat} {did : Nat} {ch : Bool} {l : KVs} (h : StoreIn w O OT st t p sg N c vw fs tx did ch l) (hT : Turn [] w w') : StoreIn w' O OT st t p sg N c vw fs tx did ch l :=
  h.tree' (Keep.of hT (by simp)) (h.tree.turn hT (by simp) (fun x hx => .inl hx) (fun x hx => Nat.lt_of_lt_of_le (h.ob x hx) hT.size))

theorem StoreOk.turn0 {w w' : World} {O : Nat → Prop} {st N c vw : Nat} {fs : Bool} {tx : Option Nat} {did : Nat} {ch : Bool} {l : KVs} (h : StoreOk w O st N c vw fs tx did ch l) (hT : Turn [] w w') : StoreOk w' O st N c vw fs tx did ch l := by
  obtain ⟨OT, t, p, sg, h⟩ := h
  exact ⟨OT, t, p, sg, h.turn0 hT⟩

/-- New blocks become other people's. -/
theorem StoreOk.more {w w' : World} {O O' : Nat → Prop} {st N c vw : Nat} {fs : Bool} {tx : Option Nat} {did : Nat} {ch : Bool} {l : KVs} (h : StoreOk w O st N c vw fs tx did ch l) (hT : Turn [] w w') (hO : ∀ x, O' x → O x ∨ w.heap.size ≤ x) (hb : ∀ x, O' x → x < w'.heap.size) : StoreOk w' O' st N c vw fs tx did ch l := by
  obtain ⟨OT, t, p, sg, h⟩ := h
  have h0 := h.turn0 hT
  have hno : ∀ x, OT x → ¬ O x → ¬ O' x := fun x h1 h2 h3 => by
    rcases hO x h3 with h4 | h4
    · exact h2 h4
    · have := h.ob x h1; omega
  refine ⟨fun x => OT x ∨ O' x, t, p, sg, ⟨h.tree.turn hT (by simp) (fun x hx => ?_) (fun x hx => ?_), h0.obj, fun hf => ⟨(h0.sight hf).1, .inl (h0.sight hf).2.1, hno _ (h0.sight hf).2.1 (h0.sight hf).2.2⟩, fun x hx => .inr hx, .inl h.ost, hno _ h.ost h.nst, h.ne, ?_, fun x hx => ?_, h0.sgl⟩⟩
  · rcases hx with hx | hx
    · exact .inl hx
    · rcases hO x hx with h4 | h4
      · exact .inl (h.sub x h4)
      · exact .inr h4
  · rcases hx with hx | hx
    · exact Nat.lt_of_lt_of_le (h.ob x hx) hT.size
    · exact hb x hx
  · have h5 := h0.txp
    cases tx with
    | none => trivial
    | some tb =>
      obtain ⟨mb, h1, h2, h3, h4, h5, h6⟩ := h5
      exact ⟨mb, h1, .inl h2, .inl h3, hno _ h2 h4, hno _ h3 h5, h6⟩
  · rcases hx with hx | hx
    · exact Nat.lt_of_lt_of_le (h.ob x hx) hT.size
    · exact hb x hx

set_option maxRecDepth 100000 in
set_option maxHeartbeats 1600000 in
theorem xdead {w : World} {O OT : Nat → Prop} {st t p sg N c vw : Nat} {fs : Bool} {tx : Option Nat} {did : Nat} {ch : Bool} {l : KVs} (h : StoreIn w O OT st t p sg N c vw fs tx did ch l) :
    Calls Tryz.prog 38 #[.pointer (some ⟨st, 0, none⟩)] w fun e w' => e = .returned (.bool false) ∧ StoreIn w' O OT st t p sg N c vw fs tx did ch l ∧ Keep OT w w' := by
  have h0 := h.obj.c0
  have HC := hide (ok_read h.tree)
  have H := hide h
  clear h
  go_enter Tryz.func38, Tryz.ntmps38
  go_wp2_with fail
  refine HC.out.mono ?_
  rintro e w1 ⟨rfl, hT1, hK1⟩
  have H1 := hide (H.out.tree' hK1 hT1)
  have HK1 := hide hK1
  clear hT1 hK1
  go_wp2_with fail
  go_ret
  exact ⟨rfl, H1.out, HK1.out⟩

theorem zero103 (w : World) : Sem.run Tryz.prog (zeroValue 103) w = .ok (.agg #[.pointer none, .map none, .bool false]) w := by kernel_rfl
theorem zero97 (w : World) : Sem.run Tryz.prog (zeroValue 97) w = .ok (.agg #[.int .u32 0, .int .i32 0, .int .u32 0, .slice none 0 0]) w := by kernel_rfl
theorem zero99 (w : World) : Sem.run Tryz.prog (zeroValue 99) w = .ok (.agg #[.pointer none, .pointer none, .pointer none, .int .i64 0, .int .i64 0, .pointer none]) w := by kernel_rfl
theorem zero107 (w : World) : Sem.run Tryz.prog (zeroValue 107) w = .ok (.agg #[.pointer none, .pointer none]) w := by kernel_rfl
theorem zero133 (w : World) : Sem.run Tryz.prog (zeroValue 133) w = .ok (.agg #[.string ⟨#[]⟩, .bool false]) w := by kernel_rfl

set_option maxRecDepth 100000 in
set_option maxHeartbeats 1600000 in
theorem xbegin {w : World} {O : Nat → Prop} {st N c vw : Nat} {fs : Bool} {did : Nat} {ch : Bool} {l : KVs} (h : StoreOk w O st N c vw fs none did ch l) :
    Calls Tryz.prog 12 #[.pointer (some ⟨st, 0, none⟩)] w fun e w' => ∃ tb, e = .returned (.tuple #[.pointer (some ⟨tb, 0, none⟩), .int .i64 0]) ∧ StoreOk w' O st N c vw fs (some tb) 0 ch l ∧ Keep O w w' := by
  obtain ⟨OT, t, p, sg, h⟩ := h
  have h2 : w.cell? ⟨st, 2, none⟩ = some (.pointer none) := h.obj.c2
  have HC := hide (xdead h)
  have hz := zero103
  have hmm := @run_makeMap Tryz.prog
  clear h
  go_enter Tryz.func12, Tryz.ntmps12
  go_wp2_with fail
  refine HC.out.mono ?_
  rintro e w1 ⟨rfl, h1, hK1⟩
  have H1 := hide h1
  have HK1 := hide hK1
  have h21 : w1.cell? ⟨st, 2, none⟩ = some (.pointer none) := h1.obj.c2
  have f21 := h1.obj.fz 2
  have hsl := h1.obj.lt
  clear h1 hK1
  go_wp2_with fail
  go_ret2
  have hTs : Turn [st] w1 (w1.setCell ⟨st, 2, none⟩ (.pointer (some ⟨w1.heap.size + 1, 0, none⟩))) := (Turn.refl [st] w1).setCell (List.mem_singleton.2 rfl) 2 _
  have hO1 : StAt (w1.setCell ⟨st, 2, none⟩ (.pointer (some ⟨w1.heap.size + 1, 0, none⟩))) st p t (some (w1.heap.size + 1)) c vw sg := H1.out.obj.set (tx' := some (w1.heap.size + 1)) 2 _ (by omega) rfl rfl rfl rfl
  have hz2 : (w1.setCell ⟨st, 2, none⟩ (.pointer (some ⟨w1.heap.size + 1, 0, none⟩))).heap.size = w1.heap.size := World.size_setCell ..
  generalize w1.setCell ⟨st, 2, none⟩ (.pointer (some ⟨w1.heap.size + 1, 0, none⟩)) = w2 at *
  rw [← hz2] at hO1 ⊢
  have hTa : Turn [] w2 ((w2.alloc (.map #[] 0)).alloc (.cells #[.pointer (some ⟨st, 0, none⟩), .map (some w2.heap.size), .bool false] 103)) := ((Turn.refl [] w2).alloc _).alloc _
  have hT : Turn [st] w1 _ := hTs.then hTa (by simp)
  have hob := H1.out.ob
  have hsub := H1.out.sub
  have hnO : ∀ x, w2.heap.size ≤ x → ¬ O x := fun x hx ho => by have := hob x (hsub x ho); omega
  have hmem : ∀ x, OT x ∨ x = w2.heap.size ∨ x = w2.heap.size + 1 → x < ((w2.alloc (.map #[] 0)).alloc (.cells #[.pointer (some ⟨st, 0, none⟩), .map (some w2.heap.size), .bool false] 103)).heap.size := fun x hx => by
    rcases hx with hx | hx | hx
    · have := hob x hx; simp; omega
    · simp; omega
    · simp; omega
  refine ⟨w2.heap.size + 1, rfl, ⟨fun x => OT x ∨ x = w2.heap.size ∨ x = w2.heap.size + 1, t, p, sg, ⟨H1.out.tree.turn hT (fun x hx => by simp at hx; subst hx; exact H1.out.ost) (fun x hx => ?_) hmem, hO1.same (hTa.block st (by omega) (by simp)), fun hf => ⟨(H1.out.sight hf).1.same (hT.block sg (H1.out.sight hf).1.lt (by simp; exact H1.out.ne.symm)), .inl (H1.out.sight hf).2.1, (H1.out.sight hf).2.2⟩, fun x hx => .inl (hsub x hx), .inl H1.out.ost, H1.out.nst, H1.out.ne, ?_, hmem, Nat.lt_of_lt_of_le H1.out.sgl hT.size⟩⟩, (HK1.out.less hsub).trans (Keep.of hT (by simp; exact ⟨H1.out.nst, H1.out.tree.not1 H1.out.ost⟩))⟩
  · rcases hx with hx | hx | hx
    · exact .inl hx
    · exact .inr (by omega)
    · exact .inr (by omega)
  · have e1 : w2.heap.size + 1 = (w2.alloc (.map #[] 0)).heap.size := by simp
    have hc : ∀ o v, #[Value.pointer (some ⟨st, 0, none⟩), .map (some w2.heap.size), .bool false][o]? = some v → ((w2.alloc (.map #[] 0)).alloc (.cells #[.pointer (some ⟨st, 0, none⟩), .map (some w2.heap.size), .bool false] 103)).cell? ⟨w2.heap.size + 1, o, none⟩ = some v := fun o v hv => by
      rw [e1]
      exact (World.cell?_alloc_at _ _ _ _ rfl).trans hv
    have hsgl := H1.out.sgl
    refine ⟨w2.heap.size, ⟨hc 0 _ rfl, hc 1 _ rfl, hc 2 _ rfl, fun o => ?_, 0, .map [], by omega, (World.ownsMap_made w2 Tryz.prog 9 formerElem).alloc _, by simp⟩, .inr (.inr rfl), .inr (.inl rfl), hnO _ (by omega), hnO _ (Nat.le_refl _), by omega, by omega, by omega, by omega, by omega⟩
    rw [e1]
    exact World.frozen?_alloc_at _ _ _ _ rfl

end Go.Proofs.YthgpjkcgccdldaaGreatDoor

namespace Go.Proofs.YthgpjkcgccdldaaGreatDoor
open Go.RowKit Go.Maps

set_option maxRecDepth 100000 in
set_option maxHeartbeats 800000 in
theorem aload {w : World} {a : Nat} {o : Nat} {x : Int} (h : w.cell? ⟨a, o, none⟩ = some (.int .i64 x)) : Calls Tryz.prog 55 #[.pointer (some ⟨a, o, none⟩)] w fun e w' => e = .returned (.int .i64 x) ∧ w' = w := by
  have hl := run_call_load (P := Tryz.prog) Tryz.func83 (by kernel_rfl) (by kernel_rfl) (by kernel_rfl) .i64 (by kernel_rfl) h
  go_enter Tryz.func55, Tryz.ntmps55
  go_wp2
  go_ret
  exact ⟨rfl, rfl⟩

set_option maxRecDepth 100000 in
set_option maxHeartbeats 800000 in
theorem astore {w : World} {a : Nat} {o : Nat} {x y : Int} (h : w.cell? ⟨a, o, none⟩ = some (.int .i64 x)) (hz : w.frozen? ⟨a, o, none⟩ = false) : Calls Tryz.prog 36 #[.pointer (some ⟨a, o, none⟩), .int .i64 y] w fun e w' => e = .returned (.tuple #[]) ∧ w' = w.setCell ⟨a, o, none⟩ (.int .i64 y) := by
  have hst := run_call_store (P := Tryz.prog) Tryz.func63 (by kernel_rfl) (by kernel_rfl) (by kernel_rfl) (by kernel_rfl) (k := .i64) (y := y) h hz
  go_enter Tryz.func36, Tryz.ntmps36
  go_wp2
  go_end0
  exact ⟨rfl, rfl⟩

set_option maxRecDepth 100000 in
set_option maxHeartbeats 800000 in
theorem aadd {w : World} {a : Nat} {o : Nat} {x : Nat} (hx : x ≤ 1000000) (h : w.cell? ⟨a, o, none⟩ = some (.int .i64 (x : Nat))) (hz : w.frozen? ⟨a, o, none⟩ = false) : Calls Tryz.prog 46 #[.pointer (some ⟨a, o, none⟩), .int .i64 1] w fun e w' => (∃ v, e = .returned v) ∧ w' = w.setCell ⟨a, o, none⟩ (.int .i64 ((x + 1 : Nat) : Int)) := by
  have hw : IntKind.i64.wrap ((x : Int) + 1) = ((x + 1 : Nat) : Int) := by
    rw [IntKind.wrap_i64]
    omega
  have hs : (Op.intArith .add .i64 (x : Int) 1).run Tryz.prog w = .ok (.int .i64 ((x + 1 : Nat) : Int)) w := by
    rw [← hw]
    rfl
  have hadd := run_call_add (P := Tryz.prog) Tryz.func73 (by kernel_rfl) (by kernel_rfl) (by kernel_rfl) .i64 (by kernel_rfl) (y := 1) (s := ((x + 1 : Nat) : Int)) h hz hs
  go_enter Tryz.func46, Tryz.ntmps46
  go_wp2
  go_ret
  exact ⟨⟨_, rfl⟩, rfl⟩

end Go.Proofs.YthgpjkcgccdldaaGreatDoor
