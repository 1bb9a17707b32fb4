/-
  The reference's first, walked.
-/
import Derived.Test.YtegbinlpojpffaaLFns
import Derived.Test.YtegbinlpojpffaaLSplitP
namespace Go.Proofs.Ytegbinlpojpffaa
open Go.RowKit Lo

/-- The first of the lots ahead of j that units can be taken of: m, or none. -/
structure Best (l : List Lt) (now : Int) (j : Nat) (m : Nat) : Prop where
  lt : m < j
  can : Lo.can (l.getD m Lt.nil) now = true
  least : ∀ i, i < j → Lo.can (l.getD i Lt.nil) now = true → (l.getD m Lt.nil).un ≤ (l.getD i Lt.nil).un ∧ ((l.getD m Lt.nil).un = (l.getD i Lt.nil).un → m ≤ i)
def NoneYet (l : List Lt) (now : Int) (j : Nat) : Prop := ∀ i, i < j → Lo.can (l.getD i Lt.nil) now = false
theorem NoneYet.skip {l : List Lt} {now : Int} {j : Nat} (h : NoneYet l now j) (hc : Lo.can (l.getD j Lt.nil) now = false) : NoneYet l now (j + 1) := fun i hi => by
  rcases Nat.lt_succ_iff_lt_or_eq.1 hi with h1 | rfl
  · exact h i h1
  · exact hc
theorem NoneYet.hit {l : List Lt} {now : Int} {j : Nat} (h : NoneYet l now j) (hc : Lo.can (l.getD j Lt.nil) now = true) : Best l now (j + 1) j := ⟨by omega, hc, fun i hi hci => by
  rcases Nat.lt_succ_iff_lt_or_eq.1 hi with h1 | rfl
  · rw [h i h1] at hci; cases hci
  · exact ⟨Int.le_refl _, fun _ => Nat.le_refl _⟩⟩
theorem Best.skip {l : List Lt} {now : Int} {j m : Nat} (h : Best l now j m) (hc : Lo.can (l.getD j Lt.nil) now = true → (l.getD m Lt.nil).un ≤ (l.getD j Lt.nil).un) : Best l now (j + 1) m := ⟨by have := h.lt; omega, h.can, fun i hi hci => by
  rcases Nat.lt_succ_iff_lt_or_eq.1 hi with h1 | rfl
  · exact h.least i h1 hci
  · exact ⟨hc hci, fun _ => by have := h.lt; omega⟩⟩
theorem Best.hit {l : List Lt} {now : Int} {j m : Nat} (h : Best l now j m) (hc : Lo.can (l.getD j Lt.nil) now = true) (hu : (l.getD j Lt.nil).un < (l.getD m Lt.nil).un) : Best l now (j + 1) j := ⟨by omega, hc, fun i hi hci => by
  rcases Nat.lt_succ_iff_lt_or_eq.1 hi with h1 | rfl
  · have := (h.least i h1 hci).1
    exact ⟨by omega, fun e => by omega⟩
  · exact ⟨Int.le_refl _, fun _ => Nat.le_refl _⟩⟩
theorem NoneYet.turned {l : List Lt} {now : Int} {is : List Nat} (h : NoneYet l now l.length) (hT : Turned l now is) : is = [] := by
  cases is with
  | nil => rfl
  | cons i is =>
    obtain ⟨h1, h2⟩ := hT.head
    rw [h i h1] at h2
    cases h2
theorem Best.turned {l : List Lt} {now : Int} {is : List Nat} {m : Nat} (hR : Rises l) (h : Best l now l.length m) (hT : Turned l now is) : ∃ js, is = m :: js := by
  cases is with
  | nil => exact absurd ((hT.mem m).2 ⟨h.lt, h.can⟩) (by simp)
  | cons i js =>
    obtain ⟨h1, h2⟩ := hT.head
    have hl := h.least i h1 h2
    rcases List.mem_cons.1 ((hT.mem m).2 ⟨h.lt, h.can⟩) with e | e
    · exact ⟨js, by rw [e]⟩
    · exfalso
      have hlt := (List.pairwise_cons.1 hT.ord).1 m e
      unfold lt2 at hlt
      have hne : m ≠ i := fun e' => by rw [e'] at hlt; omega
      rcases Nat.lt_or_ge m i with h3 | h3
      · have := hR m i h3 h1; omega
      · have := hl.2
        rcases hlt with h4 | ⟨h4, h5⟩
        · omega
        · have := hl.2 h4.symm; omega

/-- What first answers. -/
def firstOf (is : List Nat) : Int := match is with
  | [] => -1
  | i :: _ => (i : Nat)

end Go.Proofs.Ytegbinlpojpffaa
