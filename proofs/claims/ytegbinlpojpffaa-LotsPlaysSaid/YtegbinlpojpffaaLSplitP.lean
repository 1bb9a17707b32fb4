/-
  Taken in two, or at once: by itself.
-/
import Derived.Test.YtegbinlpojpffaaLUniq
namespace Go.Proofs.Ytegbinlpojpffaa
namespace Lo

theorem rest_hold (x : Lt) (t : Int) : rest (hold x t) = rest x - t := by unfold rest hold; simp only; omega
theorem hold_hold (x : Lt) (s t : Int) : hold (hold x s) t = hold x (s + t) := by unfold hold; simp only [Int.add_assoc]
theorem can_rest {x : Lt} {now : Int} (h : can x now = true) : 0 < rest x := by unfold can at h; simp at h; exact h.2
theorem can_hold {x : Lt} {now t : Int} (h : can x now = true) : can (hold x t) now = decide (t < rest x) := by
  unfold can at h ⊢
  rw [rest_hold]
  simp at h
  have hv : vld (hold x t) now = true := h.1
  rw [hv, Bool.true_and]
  congr 1
  rw [eq_iff_iff]
  omega
theorem Turned.head {l : List Lt} {now : Int} {i : Nat} {is : List Nat} (h : Turned l now (i :: is)) : i < l.length ∧ can (l.getD i Lt.nil) now = true := (h.mem i).1 (List.mem_cons_self ..)
theorem lt2_hold {x y : Lt} {s t : Int} : lt2 (hold x s) (hold y t) ↔ lt2 x y := Iff.rfl
theorem set_lt2 {l : List Lt} {i : Nat} {t : Int} (hi : i < l.length) (j k : Nat) : lt2 ((l.set i (hold (l.getD i Lt.nil) t)).getD j Lt.nil) ((l.set i (hold (l.getD i Lt.nil) t)).getD k Lt.nil) ↔ lt2 (l.getD j Lt.nil) (l.getD k Lt.nil) := by
  rw [getD_set hi, getD_set hi]
  split <;> split
  · rename_i e1 e2; subst e1 e2; exact lt2_hold
  · rename_i e1 e2; subst e1; exact Iff.rfl
  · rename_i e1 e2; subst e2; exact Iff.rfl
  · exact Iff.rfl
theorem pairwise_set {l : List Lt} {i : Nat} {t : Int} {is : List Nat} (hi : i < l.length) (h : is.Pairwise fun i j => lt2 (l.getD i Lt.nil) (l.getD j Lt.nil)) : is.Pairwise fun j k => lt2 ((l.set i (hold (l.getD i Lt.nil) t)).getD j Lt.nil) ((l.set i (hold (l.getD i Lt.nil) t)).getD k Lt.nil) :=
  h.imp fun hab => (set_lt2 hi _ _).2 hab
/-- All of the first one is taken. -/
theorem Turned.tail {l : List Lt} {now : Int} {i : Nat} {is : List Nat} (h : Turned l now (i :: is)) : Turned (l.set i (hold (l.getD i Lt.nil) (rest (l.getD i Lt.nil)))) now is := by
  obtain ⟨hi, hc⟩ := h.head
  have ho := List.pairwise_cons.1 h.ord
  refine ⟨pairwise_set hi ho.2, fun k => ?_⟩
  have hm := h.mem k
  rw [List.length_set, getD_set hi]
  constructor
  · intro hk
    have hne : k ≠ i := fun e => by subst e; exact lt2_irrefl _ (ho.1 k hk)
    rw [if_neg hne]
    exact hm.1 (List.mem_cons_of_mem _ hk)
  · rintro ⟨h1, h2⟩
    by_cases e : k = i
    · rw [if_pos e, can_hold hc] at h2
      simp at h2
    · rw [if_neg e] at h2
      rcases List.mem_cons.1 (hm.2 ⟨h1, h2⟩) with e' | e'
      · exact absurd e' e
      · exact e'
/-- Not all of the first one is taken. -/
theorem Turned.keep {l : List Lt} {now : Int} {i : Nat} {is : List Nat} {t : Int} (h : Turned l now (i :: is)) (ht : t < rest (l.getD i Lt.nil)) : Turned (l.set i (hold (l.getD i Lt.nil) t)) now (i :: is) := by
  obtain ⟨hi, hc⟩ := h.head
  refine ⟨pairwise_set hi h.ord, fun k => ?_⟩
  rw [h.mem k, List.length_set, getD_set hi]
  by_cases e : k = i
  · subst e
    rw [if_pos rfl, can_hold hc, hc]
    simp only [decide_eq_true_eq]
    exact ⟨fun e => ⟨e.1, ht⟩, fun e => ⟨e.1, trivial⟩⟩
  · rw [if_neg e]

theorem tk_acc : ∀ (is : List Nat) (l : List Lt) (n : Int) (p : List (Int × Int)), tk l is n p = ((tk l is n []).1, p ++ (tk l is n []).2.1, (tk l is n []).2.2)
  | [], l, n, p => by simp [tk]
  | i :: is, l, n, p => by
    by_cases h : n ≤ 0
    · rw [tk_stop _ _ _ _ h, tk_stop _ _ _ _ h]; simp
    · rw [tk_cons _ _ _ _ _ (by omega), tk_cons _ _ _ _ _ (by omega), tk_acc is _ _ (p ++ _), tk_acc is _ _ ([] ++ _)]
      simp

theorem tk_fst {l : List Lt} {i : Nat} {is : List Nat} {n : Int} (h : 0 < n) : (tk l (i :: is) n []).1 = (tk (l.set i (hold (l.getD i Lt.nil) (min (rest (l.getD i Lt.nil)) n))) is (n - min (rest (l.getD i Lt.nil)) n) []).1 := by
  rw [tk_cons _ _ _ _ _ h, tk_acc]
theorem tk_par {l : List Lt} {i : Nat} {is : List Nat} {n : Int} (h : 0 < n) : (tk l (i :: is) n []).2.1 = ((l.getD i Lt.nil).id, min (rest (l.getD i Lt.nil)) n) :: (tk (l.set i (hold (l.getD i Lt.nil) (min (rest (l.getD i Lt.nil)) n))) is (n - min (rest (l.getD i Lt.nil)) n) []).2.1 := by
  rw [tk_cons _ _ _ _ _ h, tk_acc]
  simp
theorem tk_lack {l : List Lt} {i : Nat} {is : List Nat} {n : Int} (h : 0 < n) : (tk l (i :: is) n []).2.2 = (tk (l.set i (hold (l.getD i Lt.nil) (min (rest (l.getD i Lt.nil)) n))) is (n - min (rest (l.getD i Lt.nil)) n) []).2.2 := by
  rw [tk_cons _ _ _ _ _ h, tk_acc]
theorem set_set {l : List Lt} {i : Nat} {x y : Lt} : (l.set i x).set i y = l.set i y := by simp

theorem split_tk : ∀ (is : List Nat) (l : List Lt) (n m : Int) (js : List Nat) (now : Int), Turned l now is → 0 ≤ n → 0 ≤ m → Turned (tk l is n []).1 now js →
    (tk (tk l is n []).1 js m []).1 = (tk l is (n + m) []).1 ∧ (tk l is (n + m) []).2.2 = (tk l is n []).2.2 + (tk (tk l is n []).1 js m []).2.2
  | [], l, n, m, js, now, h, _, _, hj => by
    have e : js = [] := hj.unique h
    subst e
    simp [tk]
  | i :: is, l, n, m, js, now, h, h0, h1, hj => by
    obtain ⟨hi, hc⟩ := h.head
    have hr := can_rest hc
    by_cases hn : n = 0
    · subst hn
      rw [tk_stop _ _ _ _ (Int.le_refl 0)] at hj ⊢
      have e : js = i :: is := hj.unique h
      subst e
      simp
    · rw [tk_fst (show 0 < n by omega)] at hj ⊢
      rw [tk_lack (show 0 < n by omega), tk_fst (show 0 < n + m by omega), tk_lack (show 0 < n + m by omega)]
      by_cases hlt : n < rest (l.getD i Lt.nil)
      · have e1 : min (rest (l.getD i Lt.nil)) n = n := by omega
        rw [e1, Int.sub_self] at hj ⊢
        rw [tk_stop _ _ _ _ (Int.le_refl 0)] at hj ⊢
        simp only at hj ⊢
        have e : js = i :: is := hj.unique (h.keep hlt)
        subst e
        by_cases hm : m = 0
        · subst hm
          rw [Int.add_zero, e1, Int.sub_self, tk_stop _ _ _ _ (Int.le_refl 0), tk_stop _ _ _ _ (Int.le_refl 0)]
          simp
        · rw [tk_fst (show 0 < m by omega), tk_lack (show 0 < m by omega), getD_set hi, if_pos rfl, rest_hold, hold_hold, set_set]
          have e2 : min (rest (l.getD i Lt.nil)) (n + m) = n + min (rest (l.getD i Lt.nil) - n) m := by omega
          rw [e2, show n + m - (n + min (rest (l.getD i Lt.nil) - n) m) = m - min (rest (l.getD i Lt.nil) - n) m by omega]
          simp
      · have e1 : min (rest (l.getD i Lt.nil)) n = rest (l.getD i Lt.nil) := by omega
        have e2 : min (rest (l.getD i Lt.nil)) (n + m) = rest (l.getD i Lt.nil) := by omega
        rw [e1] at hj ⊢
        rw [e2, show n + m - rest (l.getD i Lt.nil) = n - rest (l.getD i Lt.nil) + m by omega]
        exact split_tk is _ _ m js now h.tail (by omega) h1 hj

theorem Rises.hold {l : List Lt} (h : Rises l) (i : Nat) (t : Int) (hi : i < l.length) : Rises (l.set i (hold (l.getD i Lt.nil) t)) := by
  intro j k hjk hk
  rw [List.length_set] at hk
  rw [getD_set hi, getD_set hi]
  have := h j k hjk hk
  split <;> split
  · rename_i e1 e2; omega
  · rename_i e1 e2; subst e1; exact this
  · rename_i e1 e2; subst e2; exact this
  · exact this
theorem tk_rises : ∀ (is : List Nat) (l : List Lt) (n : Int), (∀ i ∈ is, i < l.length) → Rises l → Rises (tk l is n []).1
  | [], l, n, _, h => h
  | i :: is, l, n, hm, h => by
    by_cases hn : n ≤ 0
    · rw [tk_stop _ _ _ _ hn]; exact h
    · rw [tk_cons _ _ _ _ _ (by omega), tk_acc]
      exact tk_rises is _ _ (fun j hj => by rw [List.length_set]; exact hm j (List.mem_cons_of_mem _ hj)) (h.hold i _ (hm i (List.mem_cons_self ..)))
theorem getD_off {l : List Lt} {i j : Nat} {x : Lt} (h : i ≠ j) : (l.set i x).getD j Lt.nil = l.getD j Lt.nil := by
  simp only [List.getD_eq_getElem?_getD]
  rw [List.getElem?_set_ne h]
theorem turned_nodup {l : List Lt} {now : Int} {is : List Nat} (h : Turned l now is) : is.Nodup := h.ord.imp fun hab e => by subst e; exact lt2_irrefl _ hab
theorem tk_lack_bd : ∀ (is : List Nat) (l : List Lt) (n : Int), 0 ≤ n → (∀ i ∈ is, 0 < rest (l.getD i Lt.nil)) → is.Nodup → 0 ≤ (tk l is n []).2.2 ∧ (tk l is n []).2.2 ≤ n
  | [], l, n, h, _, _ => ⟨h, Int.le_refl _⟩
  | i :: is, l, n, h, hr, hd => by
    by_cases hn : n ≤ 0
    · rw [tk_stop _ _ _ _ hn]; exact ⟨h, Int.le_refl _⟩
    · have hi := hr i (List.mem_cons_self ..)
      rw [List.nodup_cons] at hd
      rw [tk_lack (by omega)]
      have := tk_lack_bd is (l.set i (hold (l.getD i Lt.nil) (min (rest (l.getD i Lt.nil)) n))) (n - min (rest (l.getD i Lt.nil)) n) (by omega) (fun j hj => by
        have hne : i ≠ j := fun e => hd.1 (by rw [e]; exact hj)
        rw [getD_off hne]
        exact hr j (List.mem_cons_of_mem _ hj)) hd.2
      omega
theorem Turned.lt {l : List Lt} {now : Int} {is : List Nat} (h : Turned l now is) : ∀ i ∈ is, i < l.length := fun i hi => ((h.mem i).1 hi).1

end Lo
end Go.Proofs.Ytegbinlpojpffaa
