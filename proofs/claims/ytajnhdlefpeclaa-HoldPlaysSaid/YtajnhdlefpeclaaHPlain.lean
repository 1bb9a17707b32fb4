/-
  What was put, dropped, found: by itself.
-/
import Derived.Test.YtajnhdlefpeclaaHPure
namespace Go.Proofs.Ytajnhdlefpeclaa.Ho

theorem mem_lo {l : List Hd} {i : Int} {y : Hd} : y ∈ lo l i ↔ y ∈ l ∧ y.id < i := by unfold lo; rw [List.mem_filter]; simp
theorem mem_hi {l : List Hd} {i : Int} {y : Hd} : y ∈ hi l i ↔ y ∈ l ∧ i < y.id := by unfold hi; rw [List.mem_filter]; simp
theorem drp_put {l : List Hd} (h : Up l) (x : Hd) : drp (put l x) x.id = drp l x.id := by
  rw [drp_split h]
  unfold put
  unfold drp
  rw [List.filter_append, List.filter_cons_of_neg (by simp), List.filter_eq_self.2 (fun a ha => by have := (mem_lo.1 ha).2; simp; omega), List.filter_eq_self.2 (fun a ha => by have := (mem_hi.1 ha).2; simp; omega)]
theorem drp_drp (l : List Hd) (i : Int) : drp (drp l i) i = drp l i := by
  unfold drp
  rw [List.filter_filter]
  simp
theorem fnd_put (l : List Hd) (x : Hd) : fnd (put l x) x.id = some x := by
  unfold fnd put
  rw [List.find?_append, List.find?_eq_none.2 (fun a ha => by have := (mem_lo.1 ha).2; simp; omega), Option.none_or, List.find?_cons_of_pos (by simp)]
theorem fnd_put_other (l : List Hd) (x : Hd) {i : Int} (hi' : i ≠ x.id) : fnd (put l x) i = fnd l i := by
  have key : ∀ m : List Hd, fnd (lo m x.id) i = (if i < x.id then fnd m i else none) ∧ fnd (hi m x.id) i = (if x.id < i then fnd m i else none) := fun m => by
    induction m with
    | nil => constructor <;> split <;> rfl
    | cons y m ih =>
      unfold fnd lo hi at ih ⊢
      constructor
      · rw [List.filter_cons]
        split
        · rename_i h
          rw [List.find?_cons, List.find?_cons, ih.1]
          simp at h
          by_cases e : y.id = i
          · simp [e]; omega
          · simp [e]
        · rename_i h
          rw [ih.1, List.find?_cons]
          simp at h
          split
          · rename_i h2
            have : ¬ y.id = i := by omega
            simp [this]
          · rfl
      · rw [List.filter_cons]
        split
        · rename_i h
          rw [List.find?_cons, List.find?_cons, ih.2]
          simp at h
          by_cases e : y.id = i
          · simp [e]; omega
          · simp [e]
        · rename_i h
          rw [ih.2, List.find?_cons]
          simp at h
          split
          · rename_i h2
            have : ¬ y.id = i := by omega
            simp [this]
          · rfl
  have k1 := (key l).1
  have k2 := (key l).2
  show List.find? _ (lo l x.id ++ x :: hi l x.id) = _
  rw [List.find?_append, List.find?_cons_of_neg (by simp; omega)]
  show (fnd (lo l x.id) i).or (fnd (hi l x.id) i) = _
  rw [k1, k2]
  rcases Int.lt_or_lt_of_ne hi' with h | h
  · rw [if_pos h, if_neg (by omega), Option.or_none]
  · rw [if_neg (by omega), if_pos h, Option.none_or]
theorem fnd_drp (l : List Hd) (i : Int) : fnd (drp l i) i = none := List.find?_eq_none.2 fun a ha => by
  have := (List.mem_filter.1 ha).2
  simpa using this
theorem fnd_drp_other (l : List Hd) {i j : Int} (h : j ≠ i) : fnd (drp l i) j = fnd l j := by
  induction l with
  | nil => rfl
  | cons y m ih =>
    unfold fnd drp at ih ⊢
    rw [List.filter_cons]
    split
    · rw [List.find?_cons, List.find?_cons, ih]
    · rename_i h2
      rw [ih, List.find?_cons_of_neg]
      simp at h2 ⊢
      omega
theorem fnd_id {l : List Hd} {i : Int} {x : Hd} (h : fnd l i = some x) : x ∈ l ∧ x.id = i := by
  refine ⟨List.mem_of_find?_eq_some h, ?_⟩
  have := List.find?_some h
  simpa using this
theorem fnd_mem {l : List Hd} (h : Up l) {x : Hd} (hx : x ∈ l) : fnd l x.id = some x := by
  induction l with
  | nil => cases hx
  | cons y m ih =>
    have hp := List.pairwise_cons.1 h
    unfold fnd at ih ⊢
    rcases List.mem_cons.1 hx with rfl | hx
    · rw [List.find?_cons_of_pos (by simp)]
    · rw [List.find?_cons_of_neg (by have := hp.1 x hx; simp; omega)]
      exact ih hp.2 hx

theorem lo_step {l : List Hd} (h : Up l) (j : Int) : (lo l (j + 1)).length = (lo l j).length + (if (fnd l j).isSome then 1 else 0) := by
  induction l with
  | nil => rfl
  | cons y m ih =>
    have hp := List.pairwise_cons.1 h
    have ih := ih hp.2
    unfold lo fnd at ih ⊢
    rcases Int.lt_trichotomy y.id j with h1 | h1 | h1
    · rw [List.filter_cons_of_pos (by simp; omega), List.filter_cons_of_pos (by simp; omega), List.find?_cons_of_neg (by simp; omega), List.length_cons, List.length_cons, ih]
      omega
    · have e1 : m.filter (fun h => decide (h.id < j + 1)) = [] := List.filter_eq_nil_iff.2 fun a ha => by have := hp.1 a ha; simp; omega
      have e2 : m.filter (fun h => decide (h.id < j)) = [] := List.filter_eq_nil_iff.2 fun a ha => by have := hp.1 a ha; simp; omega
      rw [List.filter_cons_of_pos (by simp; omega), List.filter_cons_of_neg (by simp; omega), List.find?_cons_of_pos (by simp; omega), e1, e2]
      rfl
    · rw [List.filter_cons_of_neg (by simp; omega), List.filter_cons_of_neg (by simp; omega), List.find?_cons_of_neg (by simp; omega), ih]
/-- Ids lie within. -/
def In40 (l : List Hd) : Prop := ∀ x ∈ l, 0 ≤ x.id ∧ x.id < 40
theorem In40.put {l : List Hd} (h : In40 l) {x : Hd} (h0 : 0 ≤ x.id) (h1 : x.id < 40) : In40 (put l x) := fun y hy => by
  rcases List.mem_append.1 hy with h2 | h2
  · exact h y (mem_lo.1 h2).1
  · rcases List.mem_cons.1 h2 with rfl | h2
    · exact ⟨h0, h1⟩
    · exact h y (mem_hi.1 h2).1
theorem In40.drp {l : List Hd} (h : In40 l) (i : Int) : In40 (drp l i) := fun y hy => h y (List.mem_filter.1 hy).1
theorem In40.lo0 {l : List Hd} (h : In40 l) : (lo l 0).length = 0 := by
  unfold lo
  rw [List.filter_eq_nil_iff.2 (fun a ha => by have := h a ha; simp; omega)]
  rfl
theorem In40.lo40 {l : List Hd} (h : In40 l) : (lo l 40).length = l.length := by
  unfold lo
  rw [List.filter_eq_self.2 (fun a ha => by have := h a ha; simp; omega)]
theorem some_put (l : List Hd) (x : Hd) (j : Int) : (fnd (put l x) j).isSome = if j = x.id then true else (fnd l j).isSome := by
  by_cases h : j = x.id
  · rw [if_pos h, h, fnd_put]; rfl
  · rw [if_neg h, fnd_put_other l x h]
theorem some_drp (l : List Hd) (i j : Int) : (fnd (drp l i) j).isSome = if j = i then false else (fnd l j).isSome := by
  by_cases h : j = i
  · rw [if_pos h, h, fnd_drp]; rfl
  · rw [if_neg h, fnd_drp_other l h]
theorem lo_le (l : List Hd) (i : Int) : (lo l i).length ≤ l.length := List.length_filter_le _ _

end Go.Proofs.Ytajnhdlefpeclaa.Ho
