/-
  Strings in their order: what strings.Compare answers, as an order; rows of keys that rise.
-/
import Derived.Lib.Bytealg

namespace Go.Proofs.YthgpjkcgccdldaaGreatDoor
open Go.Lib

theorem cmpL_self (a : List UInt8) : compareBytes a a = 0 := by
  induction a with
  | nil => rfl
  | cons x a ih => unfold compareBytes; rw [if_neg (UInt8.lt_irrefl x), if_neg (UInt8.lt_irrefl x)]; exact ih

theorem cmpL_zero : ∀ (a b : List UInt8), compareBytes a b = 0 → a = b
  | [], [], _ => rfl
  | [], _ :: _, h => by simp [compareBytes] at h
  | _ :: _, [], h => by simp [compareBytes] at h
  | x :: a, y :: b, h => by
    unfold compareBytes at h
    by_cases h1 : x < y
    · rw [if_pos h1] at h; omega
    · by_cases h2 : y < x
      · rw [if_neg h1, if_pos h2] at h; omega
      · rw [if_neg h1, if_neg h2] at h
        have e : x = y := UInt8.le_antisymm (UInt8.not_lt.1 h2) (UInt8.not_lt.1 h1)
        rw [e, cmpL_zero a b h]

theorem cmpL_cases : ∀ (a b : List UInt8), compareBytes a b = -1 ∨ compareBytes a b = 0 ∨ compareBytes a b = 1
  | [], [] => by simp [compareBytes]
  | [], _ :: _ => by simp [compareBytes]
  | _ :: _, [] => by simp [compareBytes]
  | x :: a, y :: b => by
    unfold compareBytes
    by_cases h1 : x < y
    · rw [if_pos h1]; simp
    · by_cases h2 : y < x
      · rw [if_neg h1, if_pos h2]; simp
      · rw [if_neg h1, if_neg h2]; exact cmpL_cases a b

theorem cmpL_swap : ∀ (a b : List UInt8), compareBytes b a = - compareBytes a b
  | [], [] => rfl
  | [], _ :: _ => by simp [compareBytes]
  | _ :: _, [] => by simp [compareBytes]
  | x :: a, y :: b => by
    unfold compareBytes
    by_cases h1 : x < y
    · have h2 : ¬ y < x := fun h => UInt8.lt_irrefl x (UInt8.lt_trans h1 h)
      rw [if_pos h1, if_neg h2, if_pos h1]
      rfl
    · by_cases h2 : y < x
      · rw [if_pos h2, if_neg h1, if_pos h2]
      · rw [if_neg h1, if_neg h2, if_neg h2, if_neg h1]; exact cmpL_swap a b

theorem cmpL_trans : ∀ (a b c : List UInt8), compareBytes a b = -1 → compareBytes b c = -1 → compareBytes a c = -1
  | [], [], _, h, _ => by simp [compareBytes] at h
  | [], _ :: _, [], _, h => by simp [compareBytes] at h
  | [], _ :: _, _ :: _, _, _ => by simp [compareBytes]
  | _ :: _, [], _, h, _ => by simp [compareBytes] at h
  | _ :: _, _ :: _, [], _, h => by simp [compareBytes] at h
  | x :: a, y :: b, z :: c, h, k => by
    unfold compareBytes at h k ⊢
    by_cases h1 : x < y
    · by_cases k1 : y < z
      · rw [if_pos (UInt8.lt_trans h1 k1)]
      · by_cases k2 : z < y
        · rw [if_neg k1, if_pos k2] at k; omega
        · have e : y = z := UInt8.le_antisymm (UInt8.not_lt.1 k2) (UInt8.not_lt.1 k1)
          rw [← e, if_pos h1]
    · by_cases h2 : y < x
      · rw [if_neg h1, if_pos h2] at h; omega
      · have e : x = y := UInt8.le_antisymm (UInt8.not_lt.1 h2) (UInt8.not_lt.1 h1)
        rw [if_neg h1, if_neg h2] at h
        subst e
        by_cases k1 : x < z
        · rw [if_pos k1]
        · by_cases k2 : z < x
          · rw [if_neg k1, if_pos k2] at k; omega
          · rw [if_neg k1, if_neg k2] at k ⊢
            exact cmpL_trans a b c h k

/-- What strings.Compare answers. -/
def cmp (a b : ByteArray) : Int := compareBytes a.data.toList b.data.toList
/-- a is ahead of b. -/
def klt (a b : ByteArray) : Prop := cmp a b = -1
instance (a b : ByteArray) : Decidable (klt a b) := inferInstanceAs (Decidable (cmp a b = -1))

theorem bytes_ext {a b : ByteArray} (h : a.data.toList = b.data.toList) : a = b := by
  cases a; cases b
  exact congrArg ByteArray.mk (Array.toList_inj.1 h)

theorem cmp_range (a b : ByteArray) : cmp a b = -1 ∨ cmp a b = 0 ∨ cmp a b = 1 := cmpL_cases _ _
theorem cmp_zero {a b : ByteArray} : cmp a b = 0 ↔ a = b := ⟨fun h => bytes_ext (cmpL_zero _ _ h), fun h => by rw [h]; exact cmpL_self _⟩
theorem cmp_neg {a b : ByteArray} : cmp a b < 0 ↔ klt a b := by
  have := cmp_range a b
  unfold klt
  omega
theorem klt_irrefl (a : ByteArray) : ¬ klt a a := by
  unfold klt
  rw [cmp_zero.2 rfl]
  omega
theorem klt_trans {a b c : ByteArray} (h : klt a b) (k : klt b c) : klt a c := cmpL_trans _ _ _ h k
theorem klt_asymm {a b : ByteArray} (h : klt a b) : ¬ klt b a := fun k => klt_irrefl a (klt_trans h k)
theorem klt_tri (a b : ByteArray) : klt a b ∨ a = b ∨ klt b a := by
  have h := cmp_range a b
  have k : cmp b a = - cmp a b := cmpL_swap _ _
  unfold klt
  rw [k]
  rcases h with h | h | h
  · exact .inl h
  · exact .inr (.inl (cmp_zero.1 h))
  · exact .inr (.inr (by omega))
theorem kle_trans {a b c : ByteArray} (h : ¬ klt b a) (k : ¬ klt c b) : ¬ klt c a := fun e => by
  rcases klt_tri b c with h1 | rfl | h1
  · exact h (klt_trans h1 e)
  · exact h e
  · exact k h1
theorem klt_of_klt_of_le {a b c : ByteArray} (h : klt a b) (k : ¬ klt c b) : klt a c := by
  rcases klt_tri b c with h1 | rfl | h1
  · exact klt_trans h h1
  · exact h
  · exact absurd h1 k
theorem klt_of_le_of_klt {a b c : ByteArray} (h : ¬ klt b a) (k : klt b c) : klt a c := by
  rcases klt_tri a b with h1 | rfl | h1
  · exact klt_trans h1 k
  · exact k
  · exact absurd h1 h

/-- Keys that rise. -/
def Rises (l : List ByteArray) : Prop := l.Pairwise klt

theorem Rises.get {l : List ByteArray} (h : Rises l) {i j : Nat} (hij : i < j) (hj : j < l.length) : klt (l[i]'(by omega)) l[j] := List.pairwise_iff_getElem.1 h i j (by omega) hj hij

/-- So many keys are ahead of one. -/
def IsPos (l : List ByteArray) (k : ByteArray) (i : Nat) : Prop :=
  i ≤ l.length ∧ (∀ m (h : m < l.length), m < i → klt l[m] k) ∧ ∀ m (h : m < l.length), i ≤ m → ¬ klt l[m] k

theorem IsPos.unique {l : List ByteArray} {k : ByteArray} {i j : Nat} (h : IsPos l k i) (g : IsPos l k j) : i = j := by
  rcases Nat.lt_trichotomy i j with e | e | e
  · have := g.1
    exact absurd (g.2.1 i (by omega) e) (h.2.2 i (by omega) (Nat.le_refl _))
  · exact e
  · have := h.1
    exact absurd (h.2.1 j (by omega) e) (g.2.2 j (by omega) (Nat.le_refl _))
end Go.Proofs.YthgpjkcgccdldaaGreatDoor
