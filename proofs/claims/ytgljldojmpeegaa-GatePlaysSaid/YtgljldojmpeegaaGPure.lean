/-
  Names by themselves (chapter 9's P901); a gate by itself.
-/
import Derived.Test.YtgljldojmpeegaaBase0
namespace Go.Proofs.Ytgljldojmpeegaa.Ga
open Go.RowKit

/-- A sign that names have. -/
def ofB (c : Int) : Bool := decide (97 ≤ c ∧ c ≤ 122 ∨ 48 ≤ c ∧ c ≤ 57 ∨ c = 45)
def sign (s : ByteArray) (k : Nat) : Int := ((s.data.toList.getD k 0).toNat : Nat)
/-- All signs ahead of k are such. -/
def Front (s : ByteArray) (k : Nat) : Prop := ∀ j, j < k → ofB (sign s j) = true
def nm (s : ByteArray) : Bool := decide (1 ≤ s.size ∧ s.size ≤ 24) && s.data.toList.all fun b => ofB (b.toNat : Nat)

theorem Front.zero (s : ByteArray) : Front s 0 := fun j h => by omega
theorem Front.step {s : ByteArray} {k : Nat} (h : Front s k) (hk : ofB (sign s k) = true) : Front s (k + 1) := fun j hj => by
  rcases Nat.lt_or_ge j k with h1 | h1
  · exact h j h1
  · obtain rfl : j = k := by omega
    exact hk
theorem sign_at {s : ByteArray} {k : Nat} (h : k < s.size) : sign s k = ((s[k].toNat : Nat) : Int) := by
  unfold sign
  have hj : k < s.data.toList.length := by simpa using h
  rw [List.getD_eq_getElem?_getD, List.getElem?_eq_getElem hj]
  rfl
theorem sign_bd (s : ByteArray) (k : Nat) : 0 ≤ sign s k ∧ sign s k ≤ 255 := by
  unfold sign
  have := (s.data.toList.getD k 0).toNat_lt
  omega
theorem front_all {s : ByteArray} (h : Front s s.size) : (s.data.toList.all fun b => ofB (b.toNat : Nat)) = true := by
  rw [List.all_eq_true]
  intro b hb
  obtain ⟨j, hj, rfl⟩ := List.getElem_of_mem hb
  have h1 := h j (by simpa using hj)
  unfold sign at h1
  rw [List.getD_eq_getElem?_getD, List.getElem?_eq_getElem hj] at h1
  exact h1
theorem front_none {s : ByteArray} {k : Nat} (hk : k < s.size) (h : ofB (sign s k) = false) : (s.data.toList.all fun b => ofB (b.toNat : Nat)) = false := by
  rw [List.all_eq_false]
  have hj : k < s.data.toList.length := by simpa using hk
  refine ⟨s.data.toList[k], List.getElem_mem hj, ?_⟩
  unfold sign at h
  rw [List.getD_eq_getElem?_getD, List.getElem?_eq_getElem hj] at h
  simpa using h
theorem nm_size {s : ByteArray} (h : ¬ (1 ≤ s.size ∧ s.size ≤ 24)) : nm s = false := by
  unfold nm
  rw [decide_eq_false h]
  rfl
theorem nm_none {s : ByteArray} {k : Nat} (hk : k < s.size) (h : ofB (sign s k) = false) : nm s = false := by
  unfold nm
  rw [front_none hk h, Bool.and_false]
theorem nm_front {s : ByteArray} (h : Front s s.size) : nm s = decide (1 ≤ s.size ∧ s.size ≤ 24) := by
  unfold nm
  rw [front_all h, Bool.and_true]
theorem nm_le {s : ByteArray} (h : nm s = true) : 1 ≤ s.size ∧ s.size ≤ 24 := by
  unfold nm at h
  rw [Bool.and_eq_true] at h
  exact of_decide_eq_true h.1

end Go.Proofs.Ytgljldojmpeegaa.Ga
