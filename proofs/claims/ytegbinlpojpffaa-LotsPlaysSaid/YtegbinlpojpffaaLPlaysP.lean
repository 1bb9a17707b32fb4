/-
  What Take and Use keep: bounds, order, parts.
-/
import Derived.Test.YtegbinlpojpffaaLSplitP
namespace Go.Proofs.Ytegbinlpojpffaa
open Lo
namespace Lo

theorem Bd.hold {K : Int} {x : Lt} (h : Bd K x) {m : Int} (h0 : 0 ≤ m) : Bd (K + m) (hold x m) := by
  obtain ⟨h1, h2, h3, h4, h5, h6, h7, h8⟩ := h
  unfold Lo.hold
  exact ⟨by simp only; omega, by simp only; omega, by simp only; omega, by simp only; omega, by simp only; omega, by simp only; omega, by simp only; omega, by simp only; omega⟩

theorem tk_bds : ∀ (is : List Nat) (l : List Lt) (n K now : Int), Turned l now is → 0 ≤ n → Bds K l → Bds (K + n) (tk l is n []).1
  | [], l, n, K, now, _, h0, hB => hB.mono (by omega)
  | i :: is, l, n, K, now, hT, h0, hB => by
    by_cases hn : n ≤ 0
    · rw [tk_stop _ _ _ _ hn]; exact hB.mono (by omega)
    · obtain ⟨hi, hc⟩ := hT.head
      have hr := can_rest hc
      rw [tk_fst (by omega)]
      by_cases hrn : rest (l.getD i Lt.nil) ≤ n
      · have e : min (rest (l.getD i Lt.nil)) n = rest (l.getD i Lt.nil) := by omega
        rw [e]
        have := tk_bds is _ (n - rest (l.getD i Lt.nil)) (K + rest (l.getD i Lt.nil)) now hT.tail (by omega) ((hB.mono (by omega)).set i ((hB.at hi).hold (by omega)))
        rw [show K + rest (l.getD i Lt.nil) + (n - rest (l.getD i Lt.nil)) = K + n by omega] at this
        exact this
      · have e : min (rest (l.getD i Lt.nil)) n = n := by omega
        rw [e, tk_stop _ _ _ _ (by omega)]
        exact (hB.mono (by omega)).set i ((hB.at hi).hold (by omega))
theorem tk_parts : ∀ (is : List Nat) (l : List Lt) (n now : Int), Turned l now is → ∀ q ∈ (tk l is n []).2.1, 1 ≤ q.2 ∧ q.2 ≤ n
  | [], l, n, now, _, q, hq => by simp [tk] at hq
  | i :: is, l, n, now, hT, q, hq => by
    by_cases hn : n ≤ 0
    · rw [tk_stop _ _ _ _ hn] at hq; simp at hq
    · obtain ⟨hi, hc⟩ := hT.head
      have hr := can_rest hc
      rw [tk_par (by omega)] at hq
      rcases List.mem_cons.1 hq with rfl | hq
      · simp only; omega
      · by_cases hrn : rest (l.getD i Lt.nil) ≤ n
        · have e : min (rest (l.getD i Lt.nil)) n = rest (l.getD i Lt.nil) := by omega
          rw [e] at hq
          have := tk_parts is _ _ now hT.tail q hq
          omega
        · have e : min (rest (l.getD i Lt.nil)) n = n := by omega
          rw [e, tk_stop _ _ _ _ (by omega)] at hq
          simp at hq
theorem us_keep : ∀ (p : List (Int × Int)) (l : List Lt) (n K now : Int), (∀ x ∈ p, 1 ≤ x.2 ∧ x.2 ≤ 1000000) → 0 ≤ n → Rises l → Bds K l → 0 ≤ K → Rises (us now l p n).1 ∧ Bds (K + p.length * 1000000) (us now l p n).1
  | [], l, n, K, now, _, _, hR, hB, _ => ⟨hR, hB.mono (by simp)⟩
  | (id, k) :: p, l, n, K, now, hp, hn, hR, hB, hK => by
    have hk := hp (id, k) (List.mem_cons_self ..)
    simp only at hk
    have hp' : ∀ x ∈ p, 1 ≤ x.2 ∧ x.2 ≤ 1000000 := fun x hx => hp x (List.mem_cons_of_mem _ hx)
    rw [us]
    split
    · rename_i hi
      have hR' : Rises (l.set (ix id l) (endp (l.getD (ix id l) Lt.nil) k (min k n) now)) := by
        intro a b hab hb
        rw [List.length_set] at hb
        rw [getD_set hi, getD_set hi]
        have h1 := hR a b hab hb
        split <;> split
        · omega
        · rename_i e1 e2; subst e1; exact h1
        · rename_i e1 e2; subst e2; exact h1
        · exact h1
      have := us_keep p _ (n - min k n) (K + 1000000) now hp' (by omega) hR' (hB.step (ix id l) ((hB.at hi).endp (by omega) (by omega) (by omega) (by omega))) (by omega)
      refine ⟨this.1, this.2.mono ?_⟩
      rw [List.length_cons]
      omega
    · have := us_keep p l n K now hp' hn hR hB hK
      refine ⟨this.1, this.2.mono ?_⟩
      rw [List.length_cons]
      omega

theorem nodup_len : ∀ (N : Nat) (is : List Nat), is.Nodup → (∀ i ∈ is, i < N) → is.length ≤ N
  | 0, is, _, h => by
    cases is with
    | nil => exact Nat.le_refl _
    | cons i is => exact absurd (h i (List.mem_cons_self ..)) (Nat.not_lt_zero _)
  | N + 1, is, hd, h => by
    have h1 := nodup_len N (is.erase N) (hd.erase N) (fun i hi => by
      have h2 := (hd.mem_erase_iff).1 hi
      have := h i h2.2
      have := h2.1
      omega)
    by_cases hN : N ∈ is
    · rw [List.length_erase_of_mem hN] at h1
      omega
    · rw [List.erase_of_not_mem hN] at h1
      omega
theorem turned_len {l : List Lt} {now : Int} {is : List Nat} (h : Turned l now is) : is.length ≤ l.length := nodup_len _ _ (turned_nodup h) h.lt

end Lo
end Go.Proofs.Ytegbinlpojpffaa
