/-
  What is left behind a take: by itself.
-/
import Derived.Test.YtegbinlpojpffaaLUsesQ
namespace Go.Proofs.Ytegbinlpojpffaa
namespace Lo

/-- What a lot adds to what is left. -/
def tm (now : Int) (x : Lt) : Int := if vld x now = true then rest x else 0
theorem lf_set {now : Int} : ∀ {l : List Lt} {i : Nat} {y : Lt}, i < l.length → lf now (l.set i y) = lf now l - tm now (l.getD i Lt.nil) + tm now y
  | [], i, _, h => by simp at h
  | x :: l, 0, y, _ => by simp [lf, tm]; omega
  | x :: l, i + 1, y, h => by
    have := lf_set (now := now) (l := l) (i := i) (y := y) (by simpa using h)
    simp only [List.set_cons_succ, lf, this]
    simp
    omega
theorem lf_hold {now : Int} {l : List Lt} {i : Nat} {t : Int} (hi : i < l.length) (hc : can (l.getD i Lt.nil) now = true) : lf now (l.set i (hold (l.getD i Lt.nil) t)) = lf now l - t := by
  have hv : vld (l.getD i Lt.nil) now = true := by unfold can at hc; simp at hc; exact hc.1
  have hv2 : vld (hold (l.getD i Lt.nil) t) now = true := hv
  rw [lf_set hi, tm, tm, if_pos hv, if_pos hv2, rest_hold]
  omega
theorem lf_tk : ∀ (is : List Nat) (l : List Lt) (n now : Int), Turned l now is → 0 ≤ n → lf now (tk l is n []).1 = lf now l - (n - (tk l is n []).2.2)
  | [], l, n, now, _, _ => by simp [tk]
  | i :: is, l, n, now, h, h0 => by
    obtain ⟨hi, hc⟩ := h.head
    by_cases hn : n = 0
    · subst hn
      rw [tk_stop _ _ _ _ (Int.le_refl 0)]
      simp
    · rw [tk_fst (by omega), tk_lack (by omega)]
      by_cases hlt : n < rest (l.getD i Lt.nil)
      · have e1 : min (rest (l.getD i Lt.nil)) n = n := by omega
        rw [e1, Int.sub_self, tk_stop _ _ _ _ (Int.le_refl 0)]
        simp only
        rw [lf_hold hi hc]
        omega
      · have e1 : min (rest (l.getD i Lt.nil)) n = rest (l.getD i Lt.nil) := by omega
        rw [e1, lf_tk is _ _ now h.tail (by omega), lf_hold hi hc]
        omega
theorem lf_none {now : Int} : ∀ {l : List Lt}, (∀ x ∈ l, 0 ≤ rest x) → (∀ x ∈ l, can x now = false) → lf now l = 0
  | [], _, _ => rfl
  | x :: l, hr, hc => by
    have ih := lf_none (l := l) (fun y hy => hr y (List.mem_cons_of_mem _ hy)) (fun y hy => hc y (List.mem_cons_of_mem _ hy))
    have a := hr x (List.mem_cons_self ..)
    have b := hc x (List.mem_cons_self ..)
    simp only [lf, ih]
    split
    · rename_i hv
      unfold can at b
      rw [hv] at b
      simp at b
      omega
    · rfl
theorem lf_nonneg {now : Int} : ∀ {l : List Lt}, (∀ x ∈ l, 0 ≤ rest x) → 0 ≤ lf now l
  | [], _ => Int.le_refl 0
  | x :: l, hr => by
    have ih := lf_nonneg (now := now) (l := l) (fun y hy => hr y (List.mem_cons_of_mem _ hy))
    have a := hr x (List.mem_cons_self ..)
    simp only [lf]
    split <;> omega
theorem lf_full : ∀ (is : List Nat) (l : List Lt) (n now : Int), Turned l now is → 0 ≤ n → (∀ x ∈ l, 0 ≤ rest x) → 0 < (tk l is n []).2.2 → lf now (tk l is n []).1 = 0
  | [], l, n, now, h, _, hr, _ => by
    show lf now l = 0
    refine lf_none hr (fun x hx => ?_)
    obtain ⟨i, hi, rfl⟩ := List.getElem_of_mem hx
    rw [Bool.eq_false_iff]
    intro e
    have := (h.mem i).2 ⟨hi, by rw [getD_get hi]; exact e⟩
    simp at this
  | i :: is, l, n, now, h, h0, hr, hN => by
    obtain ⟨hi, hc⟩ := h.head
    by_cases hn : n = 0
    · subst hn
      rw [tk_stop _ _ _ _ (Int.le_refl 0)] at hN
      simp at hN
    · rw [tk_lack (by omega)] at hN
      rw [tk_fst (by omega)]
      by_cases hlt : n < rest (l.getD i Lt.nil)
      · have e1 : min (rest (l.getD i Lt.nil)) n = n := by omega
        rw [e1, Int.sub_self, tk_stop _ _ _ _ (Int.le_refl 0)] at hN
        simp at hN
      · have e1 : min (rest (l.getD i Lt.nil)) n = rest (l.getD i Lt.nil) := by omega
        rw [e1] at hN ⊢
        refine lf_full is _ _ now h.tail (by omega) (fun x hx => ?_) hN
        rcases List.mem_or_eq_of_mem_set hx with h1 | h1
        · exact hr x h1
        · rw [h1, rest_hold]; omega

theorem good_rest {t : Int} {G : List Lt} (hG : Good t G) : ∀ x ∈ G, 0 ≤ rest x := fun x hx => by
  have g := hG.all x hx
  have := g.he; have := g.gr
  unfold rest
  omega
theorem take_rest {t n N : Int} {G A : List Lt} {P : List (Int × Int)} {is : List Nat} (hG : Good t G) (_hT : Turned G t is) (hK : Tkn G is n A P N) : ∀ x ∈ A, 0 ≤ rest x := fun x hx => by
  obtain ⟨i, hi, rfl⟩ := List.getElem_of_mem hx
  have hi' : i < G.length := by rw [← hK.len]; exact hi
  rw [← getD_get hi]
  by_cases h : ∃ j, j < P.length ∧ is.getD j 0 = i
  · obtain ⟨j, hj, rfl⟩ := h
    rw [hK.here j hj, rest_hold]
    have := hK.part j hj
    omega
  · rw [hK.other i (fun j hj e => h ⟨j, hj, e⟩), getD_get hi']
    exact good_rest hG _ (List.getElem_mem _)

/-- What lacks, and what is left. -/
theorem lack_of {t n N : Int} {G A : List Lt} {P : List (Int × Int)} {is : List Nat} (hG : Good t G) (hT : Turned G t is) (h0 : 0 ≤ n) (hK : Tkn G is n A P N) (htk : tk G is n [] = (A, P, N)) : N = max 0 (n - lf t G) ∧ lf t A = lf t G - (n - N) := by
  have h1 := lf_tk is G n t hT h0
  rw [htk] at h1
  simp only at h1
  have h2 := lf_nonneg (now := t) (take_rest hG hT hK)
  have h3 := hK.lack
  refine ⟨?_, h1⟩
  by_cases hN : 0 < N
  · have h4 := lf_full is G n t hT h0 (good_rest hG) (by rw [htk]; exact hN)
    rw [htk] at h4
    simp only at h4
    omega
  · omega

theorem take_chk {t n N : Int} {G A : List Lt} {P : List (Int × Int)} {is : List Nat} (ht : t ≤ 200000) (hG : Good t G) (hT : Turned G t is) (hK : Tkn G is n A P N) : chk A = 0 := by
  have u1 := pend_of hG hT hK
  have hlen := hG.len
  unfold Lo.chk
  rw [u1.len, if_neg (by omega)]
  refine chkFrom_rises (fun i j hij hj => ?_) (fun i hi => ?_) (fun x hx p hpx => ?_)
  · rw [u1.len] at hj
    rw [(u1.same i (by omega)).1, (u1.same j hj).1]
    exact hG.rises i j hij hj
  · rw [u1.len] at hi
    rw [(u1.same i hi).1]
    exact (ids_get hG.ids i hi).1
  · obtain ⟨i, hi, rfl⟩ := List.getElem_of_mem hx
    rw [u1.len] at hi
    rw [← getD_get (by rw [u1.len]; exact hi)] at hpx ⊢
    have s := u1.same i hi
    have g := hG.at hi
    have c := held_of hG hT hK hi
    have e := (ids_get hG.ids i hi).2
    have hr : rest (G.getD i Lt.nil) = (G.getD i Lt.nil).gr - (G.getD i Lt.nil).co - (G.getD i Lt.nil).ex - (G.getD i Lt.nil).ro := by have := g.he; unfold rest; omega
    obtain ⟨g1, g2, g3, g4, g5, g6, g7, g8⟩ := g
    generalize A.getD i Lt.nil = y at *
    generalize G.getD i Lt.nil = x at *
    unfold one
    rw [if_neg (by omega), if_neg (by omega), if_neg (by omega), if_pos]
    rw [adds_five]
    refine ⟨fun q hq => ?_, by unfold rest; omega⟩
    rw [fit_iff]
    obtain rfl | rfl | rfl | rfl | rfl : q = 0 ∨ q = 1 ∨ q = 2 ∨ q = 3 ∨ q = 4 := by omega
    all_goals simp only [five]; omega

/-- The place of a part. -/
theorem part_at {t n N : Int} {G A : List Lt} {P : List (Int × Int)} {is : List Nat} (hG : Good t G) (hT : Turned G t is) (hK : Tkn G is n A P N) {j : Nat} (hj : j < P.length) :
    is.getD j 0 < G.length ∧ atOf (P.getD j (0, 0)).1 G = (is.getD j 0 : Nat) ∧ vld (G.getD (is.getD j 0) Lt.nil) t = true ∧ (0 < j → (G.getD (is.getD (j - 1) 0) Lt.nil).un ≤ (G.getD (is.getD j 0) Lt.nil).un) := by
  have hp := hK.plen
  have hm : is.getD j 0 ∈ is := by rw [getDn (by omega)]; exact List.getElem_mem _
  have hl := (hT.mem _).1 hm
  refine ⟨hl.1, ?_, ?_, fun h0 => ?_⟩
  · rw [(hK.part j hj).1]
    refine atOf_hit hl.1 (fun k hk => ?_) rfl
    have := hG.rises k _ hk hl.1
    omega
  · have := hl.2
    unfold can at this
    simp at this
    exact this.1
  · have h := List.pairwise_iff_getElem.1 hT.ord (j - 1) j (by omega) (by omega) (by omega)
    rw [getDn (by omega), getDn (by omega)]
    unfold lt2 at h
    omega

end Lo
end Go.Proofs.Ytegbinlpojpffaa
