/-
  What is taken, part by part: by itself.
-/
import Derived.Test.YtegbinlpojpffaaLSplitP
namespace Go.Proofs.Ytegbinlpojpffaa
namespace Lo

def sumP : List (Int × Int) → Int
  | [] => 0
  | p :: l => p.2 + sumP l
theorem sumP_append (a b : List (Int × Int)) : sumP (a ++ b) = sumP a + sumP b := by
  induction a with
  | nil => simp [sumP]
  | cons x l ih => simp only [List.cons_append, sumP, ih]; omega
theorem sumP_take {p : List (Int × Int)} {k : Nat} (hk : k < p.length) : sumP (p.take (k + 1)) = sumP (p.take k) + (p.getD k (0, 0)).2 := by
  rw [List.take_succ_eq_append_getElem hk, sumP_append, List.getD_eq_getElem?_getD, List.getElem?_eq_getElem hk]
  simp [sumP]

/-- What was taken: the lots L, the parts P, what lacks N. -/
structure Tkn (l : List Lt) (is : List Nat) (n : Int) (L : List Lt) (P : List (Int × Int)) (N : Int) : Prop where
  plen : P.length ≤ is.length
  part : ∀ j, j < P.length → (P.getD j (0, 0)).1 = (l.getD (is.getD j 0) Lt.nil).id ∧ 1 ≤ (P.getD j (0, 0)).2 ∧ (P.getD j (0, 0)).2 ≤ rest (l.getD (is.getD j 0) Lt.nil) ∧ (j + 1 < P.length → (P.getD j (0, 0)).2 = rest (l.getD (is.getD j 0) Lt.nil))
  here : ∀ j, j < P.length → L.getD (is.getD j 0) Lt.nil = hold (l.getD (is.getD j 0) Lt.nil) (P.getD j (0, 0)).2
  other : ∀ k, (∀ j, j < P.length → is.getD j 0 ≠ k) → L.getD k Lt.nil = l.getD k Lt.nil
  len : L.length = l.length
  sum : sumP P = n - N
  lack : 0 ≤ N ∧ N ≤ n
  full : 0 < N → P.length = is.length ∧ ∀ j, j < P.length → (P.getD j (0, 0)).2 = rest (l.getD (is.getD j 0) Lt.nil)

theorem tkn_stop {l : List Lt} {is : List Nat} : Tkn l is 0 l [] 0 :=
  ⟨Nat.zero_le _, fun j h => by simp at h, fun j h => by simp at h, fun _ _ => rfl, rfl, rfl, by omega, fun h => by omega⟩

theorem tkn_of : ∀ (is : List Nat) (l : List Lt) (n : Int), 0 ≤ n → (∀ i ∈ is, i < l.length ∧ 0 < rest (l.getD i Lt.nil)) → is.Nodup → Tkn l is n (tk l is n []).1 (tk l is n []).2.1 (tk l is n []).2.2
  | [], l, n, h, _, _ => ⟨Nat.le_refl _, fun j h => by simp [tk] at h, fun j h => by simp [tk] at h, fun _ _ => rfl, rfl, by simp [tk, sumP], ⟨h, Int.le_refl _⟩, fun _ => ⟨rfl, fun j h => by simp [tk] at h⟩⟩
  | i :: is, l, n, h, hr, hd => by
    by_cases hn : n = 0
    · subst hn
      rw [tk_stop _ _ _ _ (Int.le_refl 0)]
      exact tkn_stop
    · obtain ⟨hi, hri⟩ := hr i (List.mem_cons_self ..)
      rw [List.nodup_cons] at hd
      rw [tk_fst (by omega), tk_par (by omega), tk_lack (by omega)]
      obtain ⟨t, ht⟩ : ∃ t, t = min (rest (l.getD i Lt.nil)) n := ⟨_, rfl⟩
      rw [← ht]
      have hoff : ∀ j, j ∈ is → (l.set i (hold (l.getD i Lt.nil) t)).getD j Lt.nil = l.getD j Lt.nil := fun j hj => getD_off (fun e => hd.1 (by rw [e]; exact hj))
      have ih := tkn_of is (l.set i (hold (l.getD i Lt.nil) t)) (n - t) (by omega) (fun j hj => by
        rw [List.length_set, hoff j hj]
        exact hr j (List.mem_cons_of_mem _ hj)) hd.2
      generalize (tk (l.set i (hold (l.getD i Lt.nil) t)) is (n - t) []).1 = L at *
      generalize (tk (l.set i (hold (l.getD i Lt.nil) t)) is (n - t) []).2.1 = P at *
      generalize (tk (l.set i (hold (l.getD i Lt.nil) t)) is (n - t) []).2.2 = N at *
      obtain ⟨p1, p2, p3, p4, p5, p6, p7, p8⟩ := ih
      have hmem : ∀ j, j < P.length → is.getD j 0 ∈ is := fun j hj => by
        rw [List.getD_eq_getElem?_getD, List.getElem?_eq_getElem (by omega)]
        exact List.getElem_mem _
      have hne : ∀ j, j < P.length → is.getD j 0 ≠ i := fun j hj e => hd.1 (by rw [← e]; exact hmem j hj)
      refine ⟨by simp; omega, fun j hj => ?_, fun j hj => ?_, fun k hk => ?_, by rw [p5, List.length_set], by simp only [sumP]; omega, by omega, fun hN => ⟨by simp; exact (p8 hN).1, fun j hj => ?_⟩⟩
      · cases j with
        | zero =>
          refine ⟨rfl, ?_, ?_, fun h2 => ?_⟩
          · show 1 ≤ t; omega
          · show t ≤ rest (l.getD i Lt.nil); omega
          · show t = rest (l.getD i Lt.nil)
            have hP0 : 0 < P.length := by simpa using h2
            have := (p2 0 hP0).2.1
            have hs : 0 < sumP P := by
              cases P with
              | nil => simp at hP0
              | cons y P =>
                have : ∀ z ∈ P, 1 ≤ z.2 := fun z hz => by
                  obtain ⟨q, hq, rfl⟩ := List.getElem_of_mem hz
                  have := (p2 (q + 1) (by simpa using hq)).2.1
                  simpa [List.getD_eq_getElem?_getD, List.getElem?_eq_getElem hq] using this
                have hge : 0 ≤ sumP P := by
                  clear p1 p2 p3 p4 p5 p6 p7 p8 hmem hne hP0 h2 hj
                  induction P with
                  | nil => simp [sumP]
                  | cons u P ih2 =>
                    have a := this u (List.mem_cons_self ..)
                    have b := ih2 (by assumption) (fun z hz => this z (List.mem_cons_of_mem _ hz))
                    simp only [sumP]
                    omega
                simp only [sumP]
                have h0 : 1 ≤ y.2 := by simpa using (p2 0 (by simp)).2.1
                omega
            omega
        | succ j =>
          have hj' : j < P.length := by simpa using hj
          have := p2 j hj'
          rw [hoff _ (hmem j hj')] at this
          refine ⟨this.1, this.2.1, this.2.2.1, fun h2 => this.2.2.2 (by simpa using h2)⟩
      · cases j with
        | zero =>
          show L.getD i Lt.nil = hold (l.getD i Lt.nil) t
          rw [p4 i hne, getD_set hi, if_pos rfl]
        | succ j =>
          have hj' : j < P.length := by simpa using hj
          have := p3 j hj'
          rw [hoff _ (hmem j hj')] at this
          exact this
      · have hki : i ≠ k := hk 0 (by simp)
        rw [p4 k (fun j hj => hk (j + 1) (by simpa using hj)), getD_off hki]
      · cases j with
        | zero => show t = rest (l.getD i Lt.nil); omega
        | succ j =>
          have hj' : j < P.length := by simpa using hj
          have := (p8 hN).2 j hj'
          rw [hoff _ (hmem j hj')] at this
          exact this

end Lo
end Go.Proofs.Ytegbinlpojpffaa
