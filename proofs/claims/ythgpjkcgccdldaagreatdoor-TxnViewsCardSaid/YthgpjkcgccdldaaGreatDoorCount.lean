/-
  How many pages can be allocated: bounds and steps.
-/
import Derived.Test.YthgpjkcgccdldaaGreatDoorPops
namespace Go.Proofs.YthgpjkcgccdldaaGreatDoor

set_option maxRecDepth 100000 in
theorem fc_succ (t : Nat → Bool) (n : Nat) : freeCount t (n + 1) = freeCount t n + if t n = true then 0 else 1 := by
  unfold freeCount
  rw [List.range_succ, List.countP_append]
  congr 1
  rw [List.countP_singleton]
  cases t n <;> rfl

set_option maxRecDepth 100000 in
theorem fc_mono {s t : Nat → Bool} (n : Nat) (h : ∀ k, k < n → s k = true → t k = true) : freeCount t n ≤ freeCount s n := by
  induction n with
  | zero => exact Nat.le_refl _
  | succ n ih =>
    rw [fc_succ, fc_succ]
    have := ih fun k hk => h k (by omega)
    by_cases hs : s n = true
    · rw [if_pos hs, if_pos (h n (by omega) hs)]; omega
    · rw [if_neg hs]; split <;> omega

set_option maxRecDepth 100000 in
/-- One more is taken. -/
theorem fc_more (t : Nat → Bool) (k n : Nat) : freeCount t n ≤ freeCount (fun j => t j || decide (j = k)) n + 1 := by
  have h : ∀ n, freeCount t n ≤ freeCount (fun j => t j || decide (j = k)) n + (if k < n then 1 else 0) := by
    intro n
    induction n with
    | zero => exact Nat.zero_le _
    | succ n ih =>
      rw [fc_succ, fc_succ]
      by_cases e : n = k
      · subst e
        rw [if_pos (show n < n + 1 by omega)]
        rw [if_neg (show ¬ n < n by omega)] at ih
        have : (if (t n || decide (n = n)) = true then 0 else 1) = 0 := by simp
        rw [this]
        split <;> omega
      · have : (t n || decide (n = k)) = t n := by simp [e]
        rw [this]
        have h1 : (if k < n + 1 then 1 else 0) = (if k < n then 1 else 0) := by
          by_cases h : k < n
          · rw [if_pos h, if_pos (by omega)]
          · rw [if_neg h, if_neg (by omega)]
        rw [h1]
        omega
  have := h n
  split at this <;> omega

set_option maxRecDepth 100000 in
/-- One that was taken is let go. -/
theorem fc_less (t : Nat → Bool) (k n : Nat) (hk : k < n) (ht : t k = true) : freeCount (fun j => t j && !decide (j = k)) n = freeCount t n + 1 := by
  have h : ∀ n, freeCount (fun j => t j && !decide (j = k)) n = freeCount t n + (if k < n then 1 else 0) := by
    intro n
    induction n with
    | zero => rfl
    | succ n ih =>
      rw [fc_succ, fc_succ, ih]
      by_cases e : n = k
      · subst e
        rw [if_pos (show n < n + 1 by omega), if_neg (show ¬ n < n by omega), if_pos ht]
        have : (if (t n && !decide (n = n)) = true then 0 else 1) = 1 := by simp
        rw [this]
      · have : (t n && !decide (n = k)) = t n := by simp [e]
        rw [this]
        have h1 : (if k < n + 1 then 1 else 0) = (if k < n then 1 else 0) := by
          by_cases h : k < n
          · rw [if_pos h, if_pos (by omega)]
          · rw [if_neg h, if_neg (by omega)]
        rw [h1]
        omega
  rw [h n, if_pos hk]

set_option maxRecDepth 100000 in
theorem fc_list (t : Nat → Bool) (L : List Nat) (n : Nat) : freeCount t n ≤ freeCount (fun j => t j || decide (j ∈ L)) n + L.length := by
  induction L generalizing t with
  | nil =>
    have : (fun j => t j || decide (j ∈ ([] : List Nat))) = t := by funext j; simp
    rw [this]
    exact Nat.le_refl _
  | cons x L ih =>
    have h1 := fc_more t x n
    have h2 := ih (fun j => t j || decide (j = x))
    have e : (fun j => (t j || decide (j = x)) || decide (j ∈ L)) = fun j => t j || decide (j ∈ x :: L) := by
      funext j
      by_cases h3 : j = x <;> by_cases h4 : j ∈ L <;> simp [h3, h4]
    rw [e] at h2
    rw [List.length_cons]
    omega

set_option maxRecDepth 100000 in
theorem fc_base (N n : Nat) : freeCount (fun k => decide (k < 4) || decide (N ≤ k)) n = min n N - 4 := by
  induction n with
  | zero => simp [freeCount]
  | succ n ih =>
    rw [fc_succ, ih]
    by_cases h1 : n < 4
    · simp [h1]; omega
    · by_cases h2 : N ≤ n
      · simp [h2]; omega
      · simp [h1, h2]; omega

set_option maxRecDepth 100000 in
/-- There is room for all but those that are used. -/
theorem left_ge (q : Pg) (N : Nat) (hN : N ≤ 16384) (L : List Nat) (h : ∀ k, 4 ≤ k → k < N → (q.K k || q.si k == 1) = true → k ∈ L) : N - 4 ≤ q.left N + L.length := by
  have h1 := fc_list (fun k => decide (k < 4) || decide (N ≤ k)) L 16384
  rw [fc_base, Nat.min_eq_right hN] at h1
  have h2 : freeCount (fun k => (decide (k < 4) || decide (N ≤ k)) || decide (k ∈ L)) 16384 ≤ q.left N := fc_mono 16384 fun k _ hk => by
    unfold Pg.tk at hk
    by_cases h3 : k < 4
    · simp [h3]
    · by_cases h4 : N ≤ k
      · simp [h4]
      · have : (q.K k || q.si k == 1) = true := by simpa [h3, h4] using hk
        simp [h k (by omega) (by omega) this]
  omega

set_option maxRecDepth 100000 in
theorem left_le (q : Pg) (N : Nat) : q.left N ≤ 16384 := freeCount_le _ _

set_option maxRecDepth 100000 in
/-- None is left just where all are taken. -/
theorem fc_zero (t : Nat → Bool) (n : Nat) : freeCount t n = 0 ↔ ∀ k, k < n → t k = true := by
  induction n with
  | zero => simp [freeCount]
  | succ n ih =>
    rw [fc_succ]
    constructor
    · intro h k hk
      by_cases e : k = n
      · subst e
        by_cases ht : t k = true
        · exact ht
        · rw [if_neg ht] at h; omega
      · exact ih.1 (by omega) k (by omega)
    · intro h
      rw [if_pos (h n (by omega))]
      have := ih.2 fun k hk => h k (by omega)
      omega
end Go.Proofs.YthgpjkcgccdldaaGreatDoor
