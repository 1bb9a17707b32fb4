/-
  Taken, then used, of lots such as may be: by itself.
-/
import Derived.Test.YtegbinlpojpffaaLUsesP
namespace Go.Proofs.Ytegbinlpojpffaa
namespace Lo

theorem rises_inj {G : List Lt} (hR : Rises G) {i j : Nat} (hi : i < G.length) (hj : j < G.length) (h : (G.getD i Lt.nil).id = (G.getD j Lt.nil).id) : i = j := by
  rcases Nat.lt_trichotomy i j with h1 | h1 | h1
  · have := hR i j h1 hj; omega
  · exact h1
  · have := hR j i h1 hi; omega
theorem getDn {is : List Nat} {j : Nat} (h : j < is.length) : is.getD j 0 = is[j] := by rw [List.getD_eq_getElem?_getD, List.getElem?_eq_getElem h]; rfl
theorem getDp {P : List (Int × Int)} {j : Nat} (h : j < P.length) : P.getD j (0, 0) = P[j] := by rw [List.getD_eq_getElem?_getD, List.getElem?_eq_getElem h]; rfl

theorem pend_of {t n N : Int} {G A : List Lt} {P : List (Int × Int)} {is : List Nat} (hG : Good t G) (hT : Turned G t is) (hK : Tkn G is n A P N) : Pend G A P := by
  have hR := hG.rises
  have hisl : ∀ j, j < P.length → is.getD j 0 < G.length := fun j hj => by
    have := hK.plen
    rw [getDn (by omega)]
    exact hT.lt _ (List.getElem_mem _)
  have hij : ∀ a b, a < P.length → b < P.length → is.getD a 0 = is.getD b 0 → a = b := fun a b ha hb e => by
    have := hK.plen
    rw [getDn (by omega), getDn (by omega)] at e
    exact (List.getElem_inj (turned_nodup hT)).1 e
  refine ⟨hK.len, fun i hi => ?_, fun i hi => ?_, fun q hq => ?_, ?_⟩
  · by_cases h : ∃ j, j < P.length ∧ is.getD j 0 = i
    · obtain ⟨j, hj, rfl⟩ := h
      rw [hK.here j hj]
      exact ⟨rfl, rfl, rfl, rfl, rfl, rfl⟩
    · rw [hK.other i (fun j hj e => h ⟨j, hj, e⟩)]
      exact ⟨rfl, rfl, rfl, rfl, rfl, rfl⟩
  · by_cases h : ∃ j, j < P.length ∧ is.getD j 0 = i
    · obtain ⟨j, hj, rfl⟩ := h
      refine .inl ⟨P.getD j (0, 0), by rw [getDp hj]; exact List.getElem_mem _, (hK.part j hj).1, ?_⟩
      rw [hK.here j hj]
      have := (hG.at hi).he
      simp only [hold]
      omega
    · refine .inr ⟨by rw [hK.other i (fun j hj e => h ⟨j, hj, e⟩)]; exact (hG.at hi).he, fun q hq e => ?_⟩
      obtain ⟨j, hj, rfl⟩ := List.getElem_of_mem hq
      have h1 := (hK.part j hj).1
      rw [getDp hj] at h1
      exact h ⟨j, hj, rises_inj hR (hisl j hj) hi (h1.symm.trans e)⟩
  · obtain ⟨j, hj, rfl⟩ := List.getElem_of_mem hq
    have h1 := hK.part j hj
    rw [getDp hj] at h1
    exact ⟨h1.2.1, is.getD j 0, hisl j hj, h1.1.symm⟩
  · rw [List.nodup_iff_pairwise_ne, List.pairwise_iff_getElem]
    intro a b ha hb hab e
    simp only [List.length_map] at ha hb
    simp only [List.getElem_map] at e
    have h1 := (hK.part a ha).1
    have h2 := (hK.part b hb).1
    rw [getDp ha] at h1
    rw [getDp hb] at h2
    have := hij a b ha hb (rises_inj hR (hisl a ha) (hisl b hb) (by rw [← h1, ← h2]; exact e))
    omega

/-- How much is held of each. -/
theorem held_of {t n N : Int} {G A : List Lt} {P : List (Int × Int)} {is : List Nat} (hG : Good t G) (hT : Turned G t is) (hK : Tkn G is n A P N) {i : Nat} (hi : i < G.length) :
    (A.getD i Lt.nil).co = (G.getD i Lt.nil).co ∧ (A.getD i Lt.nil).ex = (G.getD i Lt.nil).ex ∧ 0 ≤ (A.getD i Lt.nil).he ∧ (A.getD i Lt.nil).he ≤ rest (G.getD i Lt.nil) ∧ (0 < (A.getD i Lt.nil).he → t < (G.getD i Lt.nil).un) := by
  have hg := hG.at hi
  have hr : 0 ≤ rest (G.getD i Lt.nil) := by have := hg.he; have := hg.gr; unfold rest; omega
  by_cases h : ∃ j, j < P.length ∧ is.getD j 0 = i
  · obtain ⟨j, hj, rfl⟩ := h
    have h1 := hK.part j hj
    have hm : is.getD j 0 ∈ is := by have := hK.plen; rw [getDn (by omega)]; exact List.getElem_mem _
    have hc := ((hT.mem _).1 hm).2
    unfold can vld at hc
    simp only [Bool.and_eq_true, decide_eq_true_eq] at hc
    rw [hK.here j hj]
    have := hg.he
    simp only [hold]
    exact ⟨trivial, trivial, by omega, by omega, fun _ => hc.1.2⟩
  · rw [hK.other i (fun j hj e => h ⟨j, hj, e⟩)]
    have := hg.he
    exact ⟨rfl, rfl, by omega, by omega, fun _ => by omega⟩

theorem coS_congr : ∀ {a b : List Lt}, a.length = b.length → (∀ i, i < b.length → (a.getD i Lt.nil).co = (b.getD i Lt.nil).co) → coS a = coS b
  | [], [], _, _ => rfl
  | [], y :: b, h, _ => by simp at h
  | x :: a, [], h, _ => by simp at h
  | x :: a, y :: b, h, he => by
    have h0 := he 0 (by simp)
    have ih := coS_congr (a := a) (b := b) (by simpa using h) (fun i hi => by have := he (i + 1) (by simpa using hi); simpa using this)
    simp at h0
    simp only [coS, ih, h0]
theorem exS_congr : ∀ {a b : List Lt}, a.length = b.length → (∀ i, i < b.length → (a.getD i Lt.nil).ex = (b.getD i Lt.nil).ex) → exS a = exS b
  | [], [], _, _ => rfl
  | [], y :: b, h, _ => by simp at h
  | x :: a, [], h, _ => by simp at h
  | x :: a, y :: b, h, he => by
    have h0 := he 0 (by simp)
    have ih := exS_congr (a := a) (b := b) (by simpa using h) (fun i hi => by have := he (i + 1) (by simpa using hi); simpa using this)
    simp at h0
    simp only [exS, ih, h0]
theorem coS_append (a b : List Lt) : coS (a ++ b) = coS a + coS b := by
  induction a with
  | nil => simp [coS]
  | cons x l ih => simp only [List.cons_append, coS, ih]; omega
theorem exS_append (a b : List Lt) : exS (a ++ b) = exS a + exS b := by
  induction a with
  | nil => simp [exS]
  | cons x l ih => simp only [List.cons_append, exS, ih]; omega
theorem coS_take {l : List Lt} {k : Nat} (hk : k < l.length) : coS (l.take (k + 1)) = coS (l.take k) + (l.getD k Lt.nil).co := by
  rw [List.take_succ_eq_append_getElem hk, coS_append, getD_get hk]
  simp [coS]
theorem exS_take {l : List Lt} {k : Nat} (hk : k < l.length) : exS (l.take (k + 1)) = exS (l.take k) + (l.getD k Lt.nil).ex := by
  rw [List.take_succ_eq_append_getElem hk, exS_append, getD_get hk]
  simp [exS]

theorem chkFrom_rises : ∀ {id : Int} {l : List Lt}, Rises l → (∀ i, i < l.length → id < (l.getD i Lt.nil).id) → (∀ x ∈ l, ∀ p, p < x.id → one p x = 0) → chkFrom id l = 0
  | _, [], _, _, _ => rfl
  | id, x :: l, hR, h0, ho => by
    rw [chkFrom, if_pos (ho x (List.mem_cons_self ..) id (by simpa using h0 0 (by simp)))]
    refine chkFrom_rises (fun i j hij hj => ?_) (fun i hi => ?_) (fun y hy => ho y (List.mem_cons_of_mem _ hy))
    · have := hR (i + 1) (j + 1) (by omega) (by simpa using hj)
      simpa using this
    · have := hR 0 (i + 1) (by omega) (by simpa using hi)
      simpa using this

/-- All that is so of what was taken, then used. -/
structure Both (t T n m : Int) (G b : List Lt) (taken N : Int) : Prop where
  chk : Lo.chk b = 0
  len : b.length = G.length
  each : ∀ i, i < G.length → (b.getD i Lt.nil).gr = (G.getD i Lt.nil).gr ∧ (b.getD i Lt.nil).he = (G.getD i Lt.nil).he ∧ (b.getD i Lt.nil).ro = (G.getD i Lt.nil).ro ∧ ((b.getD i Lt.nil).ex ≠ (G.getD i Lt.nil).ex → (G.getD i Lt.nil).un ≤ T) ∧ 0 ≤ (b.getD i Lt.nil).co - (G.getD i Lt.nil).co ∧ (b.getD i Lt.nil).co - (G.getD i Lt.nil).co ≤ 3000 ∧ 0 ≤ (b.getD i Lt.nil).ex - (G.getD i Lt.nil).ex ∧ (b.getD i Lt.nil).ex - (G.getD i Lt.nil).ex ≤ 3000 ∧ 0 ≤ (b.getD i Lt.nil).co ∧ (b.getD i Lt.nil).co ≤ 5000 ∧ 0 ≤ (b.getD i Lt.nil).ex ∧ (b.getD i Lt.nil).ex ≤ 5000
  used : coS b - coS G = min taken m
  over : N = m - min taken m
  gone : exS b - exS G ≤ taken - min taken m

theorem both_of {t T n m lack : Int} {G A : List Lt} {P : List (Int × Int)} {is : List Nat} (ht : t ≤ 200000) (hG : Good t G) (hT : Turned G t is) (hK : Tkn G is n A P lack) (hm : 0 ≤ m) : Both t T n m G (us T A P m).1 (n - lack) (us T A P m).2 := by
  have hp := pend_of hG hT hK
  obtain ⟨u1, u2, u3, u4, u5, u6⟩ := useds (now := T) hG.rises P A m hm hp
  generalize (us T A P m).1 = b at *
  generalize (us T A P m).2 = N at *
  have hsum := hK.sum
  have hhe : ∀ i, i < G.length → (b.getD i Lt.nil).he = 0 := fun i hi => by
    rcases u1.held i hi with ⟨q, hq, _⟩ | h
    · simp at hq
    · exact h.1
  have hcA : coS A = coS G := coS_congr hK.len (fun i hi => (held_of hG hT hK hi).1)
  have heA : exS A = exS G := exS_congr hK.len (fun i hi => (held_of hG hT hK hi).2.1)
  have hall : ∀ i, i < G.length → 0 ≤ (b.getD i Lt.nil).co - (G.getD i Lt.nil).co ∧ 0 ≤ (b.getD i Lt.nil).ex - (G.getD i Lt.nil).ex ∧ (b.getD i Lt.nil).co + (b.getD i Lt.nil).ex ≤ (G.getD i Lt.nil).co + (G.getD i Lt.nil).ex + rest (G.getD i Lt.nil) := fun i hi => by
    have a := u5 i hi
    have c := held_of hG hT hK hi
    omega
  refine ⟨?_, u1.len, fun i hi => ?_, by rw [u2, hcA, ← hsum]; omega, by rw [u4, ← hsum], by rw [← hsum, ← heA]; exact u3.2⟩
  · have hlen := hG.len
    unfold Lo.chk
    rw [u1.len, if_neg (by omega)]
    refine chkFrom_rises (fun i j hij hj => ?_) (fun i hi => ?_) (fun x hx p hpx => ?_)
    · rw [u1.len] at hj
      rw [(u1.same i (by omega)).1, (u1.same j hj).1]
      exact hG.rises i j hij hj
    · rw [u1.len] at hi
      rw [(u1.same i hi).1]
      exact (ids_get hG.ids i hi).1
    · obtain ⟨i, hi, rfl⟩ := List.getElem_of_mem hx
      rw [u1.len] at hi
      rw [← getD_get (by rw [u1.len]; exact hi)] at hpx ⊢
      have s := u1.same i hi
      have g := hG.at hi
      have c := hall i hi
      have d := hhe i hi
      have e := (ids_get hG.ids i hi).2
      have hr : rest (G.getD i Lt.nil) = (G.getD i Lt.nil).gr - (G.getD i Lt.nil).co - (G.getD i Lt.nil).ex - (G.getD i Lt.nil).ro := by have := g.he; unfold rest; omega
      obtain ⟨g1, g2, g3, g4, g5, g6, g7, g8⟩ := g
      generalize b.getD i Lt.nil = y at *
      generalize G.getD i Lt.nil = x at *
      unfold one
      rw [if_neg (by omega), if_neg (by omega), if_neg (by omega), if_pos]
      rw [adds_five]
      refine ⟨fun q hq => ?_, by unfold rest; omega⟩
      rw [fit_iff]
      obtain rfl | rfl | rfl | rfl | rfl : q = 0 ∨ q = 1 ∨ q = 2 ∨ q = 3 ∨ q = 4 := by omega
      all_goals simp only [five]; omega
  · have s := u1.same i hi
    have g := hG.at hi
    have c := hall i hi
    have d := hhe i hi
    have f := held_of hG hT hK hi
    have a := (u5 i hi).2.2.2
    have hr : rest (G.getD i Lt.nil) = (G.getD i Lt.nil).gr - (G.getD i Lt.nil).co - (G.getD i Lt.nil).ex - (G.getD i Lt.nil).ro := by have := g.he; unfold rest; omega
    obtain ⟨g1, g2, g3, g4, g5, g6, g7, g8⟩ := g
    refine ⟨s.2.2.2.2.1, by omega, s.2.2.2.2.2, fun h => (a (by omega)).1, c.1, by omega, c.2.1, by omega, by omega, by omega, by omega, by omega⟩

theorem back_of {t n lack : Int} {G A : List Lt} {P : List (Int × Int)} {is : List Nat} (hG : Good t G) (hT : Turned G t is) (hK : Tkn G is n A P lack) : (us t A P 0).1 = G := by
  have hp := pend_of hG hT hK
  obtain ⟨u1, u2, u3, u4, u5, u6⟩ := useds (now := t) hG.rises P A 0 (Int.le_refl 0) hp
  generalize (us t A P 0).1 = b at *
  refine List.ext_getElem u1.len fun i h1 h2 => ?_
  rw [← getD_get h1, ← getD_get h2]
  have s := u1.same i h2
  have f := held_of hG hT hK h2
  have a := u5 i h2
  have c := u6 rfl i h2
  have d : (b.getD i Lt.nil).he = 0 := by
    rcases u1.held i h2 with ⟨q, hq, _⟩ | h
    · simp at hq
    · exact h.1
  have e := (hG.at h2).he
  have hex : (b.getD i Lt.nil).ex = (A.getD i Lt.nil).ex := by
    by_cases h : (b.getD i Lt.nil).ex = (A.getD i Lt.nil).ex
    · exact h
    · have := a.2.2.2 h
      have := f.2.2.2.2 this.2
      omega
  generalize b.getD i Lt.nil = y at *
  generalize G.getD i Lt.nil = x at *
  obtain ⟨y1, y2, y3, y4, y5, y6, y7, y8, y9⟩ := y
  obtain ⟨x1, x2, x3, x4, x5, x6, x7, x8, x9⟩ := x
  simp only at *
  obtain ⟨s1, s2, s3, s4, s5, s6⟩ := s
  subst s1 s2 s3 s4 s5 s6
  congr 1
  · omega
  · omega
  · omega

end Lo
end Go.Proofs.Ytegbinlpojpffaa
