/-
  Holds by themselves.
-/
import Derived.WalkKit
namespace Go.Proofs.Ytajnhdlefpeclaa.Ho
open Go.RowKit

/-- A hold. -/
structure Hd where
  id : Int
  ps : List (Int × Int)
  ov : Int
  un : Int
def Hd.nil : Hd := ⟨0, [], 0, 0⟩

/-- Holds stand by their ids, rising. -/
def Up (l : List Hd) : Prop := l.Pairwise fun a b => a.id < b.id
def lo (l : List Hd) (i : Int) : List Hd := l.filter fun h => decide (h.id < i)
def hi (l : List Hd) (i : Int) : List Hd := l.filter fun h => decide (i < h.id)
def put (l : List Hd) (h : Hd) : List Hd := lo l h.id ++ h :: hi l h.id
def drp (l : List Hd) (i : Int) : List Hd := l.filter fun h => decide (h.id ≠ i)
def due (l : List Hd) (n : Int) : List Hd := l.filter fun h => decide (h.un ≤ n)
def fnd (l : List Hd) (i : Int) : Option Hd := l.find? fun h => decide (h.id = i)

theorem Up.nil : Up [] := List.Pairwise.nil
theorem Up.filter {l : List Hd} (h : Up l) (p : Hd → Bool) : Up (l.filter p) := List.Pairwise.filter p h
theorem Up.lt {l : List Hd} (h : Up l) {i j : Nat} (hij : i < j) (hj : j < l.length) : (l.getD i Hd.nil).id < (l.getD j Hd.nil).id := by
  have := List.pairwise_iff_getElem.1 h i j (by omega) hj hij
  rw [List.getD_eq_getElem?_getD, List.getD_eq_getElem?_getD, List.getElem?_eq_getElem hj, List.getElem?_eq_getElem (by omega : i < l.length)]
  exact this
theorem mem_getD {l : List Hd} {i : Nat} (h : i < l.length) : l.getD i Hd.nil ∈ l := by
  rw [List.getD_eq_getElem?_getD, List.getElem?_eq_getElem h]
  exact List.getElem_mem h
theorem up_put {l : List Hd} (h : Up l) (x : Hd) : Up (put l x) := by
  unfold put Up
  rw [List.pairwise_append, List.pairwise_cons]
  refine ⟨h.filter _, ⟨fun b hb => ?_, h.filter _⟩, fun a ha b hb => ?_⟩
  · simpa [hi] using (List.mem_filter.1 hb).2
  · have h1 : a.id < x.id := by simpa using (List.mem_filter.1 ha).2
    rcases List.mem_cons.1 hb with rfl | hb
    · exact h1
    · have h2 : x.id < b.id := by simpa using (List.mem_filter.1 hb).2
      omega
theorem up_drp {l : List Hd} (h : Up l) (i : Int) : Up (drp l i) := h.filter _

theorem drp_split {l : List Hd} (h : Up l) (i : Int) : drp l i = lo l i ++ hi l i := by
  induction l with
  | nil => rfl
  | cons x l ih =>
    have hp := List.pairwise_cons.1 h
    have ih := ih hp.2
    unfold drp lo hi at ih ⊢
    rcases Int.lt_trichotomy x.id i with h1 | h1 | h1
    · rw [List.filter_cons_of_pos (by simp; omega), List.filter_cons_of_pos (by simp; omega), List.filter_cons_of_neg (by simp; omega), ih, List.cons_append]
    · rw [List.filter_cons_of_neg (by simp; omega), List.filter_cons_of_neg (by simp; omega), List.filter_cons_of_neg (by simp; omega), ih]
    · have e : l.filter (fun h => decide (h.id < i)) = [] := List.filter_eq_nil_iff.2 fun a ha => by have := hp.1 a ha; simp; omega
      rw [List.filter_cons_of_pos (by simp; omega), List.filter_cons_of_neg (by simp; omega), List.filter_cons_of_pos (by simp; omega), ih, e]
      rfl

/-- Where the hold of an id stands, and where the one behind it does. -/
structure Place (l : List Hd) (i : Int) (f t : Nat) : Prop where
  le : f ≤ t
  len : t ≤ l.length
  lo : l.take f = lo l i
  hi : l.drop t = hi l i
  no : f = t → fnd l i = none
  yes : f < t → fnd l i = some (l.getD f Hd.nil)

theorem place_of {l : List Hd} (h : Up l) (i : Int) (f : Nat) (hf : f ≤ l.length) (h1 : ∀ m, m < f → (l.getD m Hd.nil).id < i) (h2 : ∀ m, f ≤ m → m < l.length → i ≤ (l.getD m Hd.nil).id) :
    if f < l.length ∧ (l.getD f Hd.nil).id = i then Place l i f (f + 1) else Place l i f f := by
  have hA : ∀ a ∈ l.take f, a.id < i := fun a ha => by
    obtain ⟨m, hm, rfl⟩ := List.getElem_of_mem ha
    have hm' : m < f := by rw [List.length_take] at hm; omega
    have := h1 m hm'
    rw [List.getD_eq_getElem?_getD, List.getElem?_eq_getElem (by omega)] at this
    simpa using this
  have hB : ∀ a ∈ l.drop f, i ≤ a.id := fun a ha => by
    obtain ⟨m, hm, rfl⟩ := List.getElem_of_mem ha
    rw [List.length_drop] at hm
    have := h2 (f + m) (by omega) (by omega)
    rw [List.getD_eq_getElem?_getD, List.getElem?_eq_getElem (by omega)] at this
    simpa using this
  have hsp : l = l.take f ++ l.drop f := (List.take_append_drop f l).symm
  have eAl : (l.take f).filter (fun h => decide (h.id < i)) = l.take f := List.filter_eq_self.2 fun a ha => by simpa using hA a ha
  have eBl : (l.drop f).filter (fun h => decide (h.id < i)) = [] := List.filter_eq_nil_iff.2 fun a ha => by have := hB a ha; simpa using this
  have eAh : (l.take f).filter (fun h => decide (i < h.id)) = [] := List.filter_eq_nil_iff.2 fun a ha => by have := hA a ha; simp; omega
  have hlo : l.take f = lo l i := by
    show _ = List.filter _ l
    conv => rhs; rw [hsp]
    rw [List.filter_append, eAl, eBl, List.append_nil]
  have eh : Ho.hi l i = (l.drop f).filter (fun h => decide (i < h.id)) := by
    show List.filter _ l = _
    conv => lhs; rw [hsp]
    rw [List.filter_append, eAh, List.nil_append]
  have ef : fnd l i = (l.drop f).find? (fun h => decide (h.id = i)) := by
    show List.find? _ l = _
    conv => lhs; rw [hsp]
    rw [List.find?_append, List.find?_eq_none.2 (fun a ha => by have := hA a ha; simp; omega), Option.none_or]
  split
  · rename_i hc
    obtain ⟨hc1, hc2⟩ := hc
    have hd : l.drop f = l[f] :: l.drop (f + 1) := List.drop_eq_getElem_cons hc1
    have hg : l.getD f Hd.nil = l[f] := by rw [List.getD_eq_getElem?_getD, List.getElem?_eq_getElem hc1]; rfl
    rw [hg] at hc2
    have hU : Up (l.drop f) := h.sublist (List.drop_sublist _ _)
    rw [hd] at hU
    have hp := (List.pairwise_cons.1 hU).1
    refine ⟨by omega, by omega, hlo, ?_, fun e => by omega, fun _ => ?_⟩
    · rw [eh, hd, List.filter_cons_of_neg (by simp; omega)]
      exact (List.filter_eq_self.2 fun a ha => by have := hp a ha; simp; omega).symm
    · rw [ef, hd, List.find?_cons_of_pos (by simpa using hc2), hg]
  · rename_i hc
    refine ⟨Nat.le_refl _, hf, hlo, ?_, fun _ => ?_, fun e => by omega⟩
    all_goals
      have hall : ∀ a ∈ l.drop f, i < a.id := fun a ha => by
        obtain ⟨m, hm, rfl⟩ := List.getElem_of_mem ha
        rw [List.length_drop] at hm
        have h3 : (l.getD (f + m) Hd.nil).id = (l.drop f)[m].id := by
          rw [List.getD_eq_getElem?_getD, List.getElem?_eq_getElem (by omega : f + m < l.length)]
          simp
        rw [← h3]
        have h4 := h2 (f + m) (by omega) (by omega)
        by_cases hm0 : m = 0
        · subst hm0
          have : ¬ (l.getD f Hd.nil).id = i := fun e => hc ⟨by omega, e⟩
          simp only [Nat.add_zero] at h4 ⊢
          omega
        · have := h.lt (i := f) (j := f + m) (by omega) (by omega)
          have := h2 f (Nat.le_refl _) (by omega)
          omega
    · rw [eh]
      exact (List.filter_eq_self.2 fun a ha => by simpa using hall a ha).symm
    · rw [ef]
      exact List.find?_eq_none.2 fun a ha => by have := hall a ha; simp; omega

/-- What a hold has in all. -/
def tot (x : Hd) : Int := x.ps.foldl (fun s p => wrap64 (s + p.2)) x.ov

/-- Bounds on the lengths. -/
def Fit (n : Nat) (l : List Hd) : Prop := ∀ x ∈ l, x.ps.length ≤ n
theorem Fit.filter {n : Nat} {l : List Hd} (h : Fit n l) (p : Hd → Bool) : Fit n (l.filter p) := fun x hx => h x (List.mem_filter.1 hx).1
theorem Fit.put {n : Nat} {l : List Hd} (h : Fit n l) {x : Hd} (hx : x.ps.length ≤ n) : Fit n (put l x) := fun y hy => by
  rcases List.mem_append.1 hy with h1 | h1
  · exact (h.filter _) y h1
  · rcases List.mem_cons.1 h1 with rfl | h1
    · exact hx
    · exact (h.filter _) y h1
theorem put_length (l : List Hd) (x : Hd) : (put l x).length ≤ l.length + 1 := by
  have h1 : (lo l x.id).length + (hi l x.id).length ≤ l.length := by
    unfold lo hi
    induction l with
    | nil => simp
    | cons y l ih =>
      rw [List.filter_cons, List.filter_cons]
      split <;> split <;> simp_all <;> omega
  unfold put
  rw [List.length_append, List.length_cons]
  omega

end Go.Proofs.Ytajnhdlefpeclaa.Ho
