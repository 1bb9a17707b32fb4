/-
  Windows by themselves.
-/
import Derived.WalkKit
namespace Go.Proofs.Ytbkphdemmnjhcaa.Wi
open Go.RowKit

/-- An answer. -/
structure An where
  er : Int
  lf : Int
  ov : Int
  n : Int
  nm : ByteArray
  s1 : Int
  s2 : Int
  s3 : Int
  s4 : Int
  s5 : Int
  s6 : Int
  s7 : Int
  s8 : Int
def An.nil : An := ⟨0, 0, 0, 0, ⟨#[]⟩, 0, 0, 0, 0, 0, 0, 0, 0⟩
/-- An entry. -/
structure Ent where
  id : Int
  an : An
def Ent.nil : Ent := ⟨0, An.nil⟩

/-- Entries stand by their ids, rising. -/
def Up (l : List Ent) : Prop := l.Pairwise fun a b => a.id < b.id
/-- Where an id stands, or would stand. -/
def pos : List Ent → Int → Nat
  | [], _ => 0
  | e :: l, i => if i ≤ e.id then 0 else pos l i + 1
def has (l : List Ent) (i : Int) : Prop := pos l i < l.length ∧ (l.getD (pos l i) Ent.nil).id = i
/-- What Ask tells. -/
def kindOf (l : List Ent) (i : Int) : Int := if pos l i < l.length ∧ (l.getD (pos l i) Ent.nil).id = i then 1 else if pos l i = 0 ∧ 12 ≤ l.length then 2 else 0
def ansOf (l : List Ent) (i : Int) : An := if pos l i < l.length ∧ (l.getD (pos l i) Ent.nil).id = i then (l.getD (pos l i) Ent.nil).an else An.nil
/-- All that was there, and the new one at its place. -/
def ins (l : List Ent) (e : Ent) : List Ent := l.take (pos l e.id) ++ e :: l.drop (pos l e.id)
def note (l : List Ent) (e : Ent) : List Ent := if 12 < (ins l e).length then (ins l e).drop 1 else ins l e

theorem pos_le (l : List Ent) (i : Int) : pos l i ≤ l.length := by
  induction l with
  | nil => exact Nat.le_refl _
  | cons e l ih => rw [pos, List.length_cons]; split <;> omega
theorem pos_lt (l : List Ent) (i : Int) : ∀ m, m < pos l i → (l.getD m Ent.nil).id < i := by
  induction l with
  | nil => intro m h; simp [pos] at h
  | cons e l ih =>
    intro m h
    rw [pos] at h
    split at h
    · omega
    · cases m with
      | zero => simp only [List.getD_cons_zero]; omega
      | succ m => rw [List.getD_cons_succ]; exact ih m (by omega)
theorem pos_ge (l : List Ent) (i : Int) (h : pos l i < l.length) : i ≤ (l.getD (pos l i) Ent.nil).id := by
  induction l with
  | nil => simp at h
  | cons e l ih =>
    rw [pos] at h ⊢
    split
    · rename_i h1; simpa using h1
    · rename_i h1
      rw [if_neg h1] at h
      rw [List.getD_cons_succ]
      exact ih (by simpa using h)
/-- There is but one such place. -/
theorem pos_of {l : List Ent} {i : Int} {k : Nat} (h0 : k ≤ l.length) (h1 : ∀ m, m < k → (l.getD m Ent.nil).id < i) (h2 : k < l.length → i ≤ (l.getD k Ent.nil).id) : pos l i = k := by
  induction l generalizing k with
  | nil => simp at h0; simp [pos, h0]
  | cons e l ih =>
    rw [pos]
    cases k with
    | zero => rw [if_pos (by simpa using h2 (by simp))]
    | succ k =>
      have := h1 0 (by omega)
      simp only [List.getD_cons_zero] at this
      rw [if_neg (by omega), ih (k := k) (by simpa using h0) (fun m hm => by have := h1 (m + 1) (by omega); rwa [List.getD_cons_succ] at this) (fun hk => by have := h2 (by simpa using hk); rwa [List.getD_cons_succ] at this)]
theorem getD_mem {l : List Ent} {k : Nat} (h : k < l.length) : l.getD k Ent.nil ∈ l := by
  rw [List.getD_eq_getElem?_getD, List.getElem?_eq_getElem h]
  exact List.getElem_mem h
theorem mem_getD {l : List Ent} {e : Ent} (h : e ∈ l) : ∃ k, k < l.length ∧ l.getD k Ent.nil = e := by
  obtain ⟨k, hk, rfl⟩ := List.getElem_of_mem h
  exact ⟨k, hk, by rw [List.getD_eq_getElem?_getD, List.getElem?_eq_getElem hk]; rfl⟩
theorem pos_end {l : List Ent} {i : Int} (h : ∀ e ∈ l, e.id < i) : pos l i = l.length := pos_of (Nat.le_refl _) (fun _ hm => h _ (getD_mem hm)) (fun h => absurd h (Nat.lt_irrefl _))
theorem pos_zero {l : List Ent} {i : Int} (h : ∀ e ∈ l, i ≤ e.id) : pos l i = 0 := pos_of (Nat.zero_le _) (fun _m hm => absurd hm (Nat.not_lt_zero _)) (fun hk => h _ (getD_mem hk))
theorem Up.lt {l : List Ent} (h : Up l) {i j : Nat} (hij : i < j) (hj : j < l.length) : (l.getD i Ent.nil).id < (l.getD j Ent.nil).id := by
  have := List.pairwise_iff_getElem.1 h i j (by omega) hj hij
  rw [List.getD_eq_getElem?_getD, List.getD_eq_getElem?_getD, List.getElem?_eq_getElem hj, List.getElem?_eq_getElem (by omega : i < l.length)]
  exact this
theorem pos_at {l : List Ent} (h : Up l) {k : Nat} (hk : k < l.length) {i : Int} (hi : (l.getD k Ent.nil).id = i) : pos l i = k :=
  pos_of (by omega) (fun m hm => by rw [← hi]; exact h.lt hm hk) (fun _ => by omega)
theorem has_at {l : List Ent} (h : Up l) {k : Nat} (hk : k < l.length) {i : Int} (hi : (l.getD k Ent.nil).id = i) : has l i := by
  have := pos_at h hk hi
  unfold has
  rw [this]
  exact ⟨hk, hi⟩
theorem has_iff {l : List Ent} (h : Up l) {i : Int} : has l i ↔ ∃ e ∈ l, e.id = i := by
  constructor
  · intro hh
    exact ⟨_, getD_mem hh.1, hh.2⟩
  · rintro ⟨e, he, hi⟩
    obtain ⟨k, hk, hke⟩ := mem_getD he
    exact has_at h hk (by rw [hke]; exact hi)
theorem kind_has {l : List Ent} {i : Int} (h : has l i) : kindOf l i = 1 := if_pos h
theorem ans_has {l : List Ent} {i : Int} (h : has l i) : ansOf l i = (l.getD (pos l i) Ent.nil).an := if_pos h
theorem kind_no {l : List Ent} {i : Int} (h : ¬ has l i) : kindOf l i = if pos l i = 0 ∧ 12 ≤ l.length then 2 else 0 := if_neg h
theorem ans_no {l : List Ent} {i : Int} (h : ¬ has l i) : ansOf l i = An.nil := if_neg h
theorem kind_cases (l : List Ent) (i : Int) : kindOf l i = 0 ∨ kindOf l i = 1 ∨ kindOf l i = 2 := by
  unfold kindOf
  split
  · exact .inr (.inl rfl)
  · split
    · exact .inr (.inr rfl)
    · exact .inl rfl
theorem not_has_ne {l : List Ent} {i : Int} (h : ∀ e ∈ l, e.id ≠ i) : ¬ has l i := fun hh => h _ (getD_mem hh.1) hh.2

theorem ins_length (l : List Ent) (e : Ent) : (ins l e).length = l.length + 1 := by
  have := pos_le l e.id
  unfold ins
  rw [List.length_append, List.length_take, List.length_cons, List.length_drop]
  omega
theorem note_length (l : List Ent) (e : Ent) : (note l e).length = if 12 < l.length + 1 then l.length else l.length + 1 := by
  unfold note
  rw [ins_length]
  split
  · rw [List.length_drop, ins_length]; omega
  · exact ins_length l e
theorem note_len12 {l : List Ent} (e : Ent) (h : l.length ≤ 12) : (note l e).length ≤ 12 := by
  rw [note_length]; split <;> omega
theorem mem_ins {l : List Ent} {e x : Ent} : x ∈ ins l e ↔ x = e ∨ x ∈ l := by
  unfold ins
  rw [List.mem_append, List.mem_cons]
  constructor
  · rintro (h | h | h)
    · exact .inr (List.mem_of_mem_take h)
    · exact .inl h
    · exact .inr (List.mem_of_mem_drop h)
  · rintro (h | h)
    · exact .inr (.inl h)
    · rw [← List.take_append_drop (pos l e.id) l, List.mem_append] at h
      rcases h with h | h
      · exact .inl h
      · exact .inr (.inr h)
theorem mem_take_lt {l : List Ent} {i : Int} {x : Ent} (h : x ∈ l.take (pos l i)) : x.id < i := by
  obtain ⟨k, hk, hx⟩ := mem_getD h
  rw [List.length_take] at hk
  rw [← hx, List.getD_eq_getElem?_getD, List.getElem?_take, if_pos (by omega), ← List.getD_eq_getElem?_getD]
  exact pos_lt l i k (by omega)
theorem mem_drop_ge {l : List Ent} (hU : Up l) {i : Int} {x : Ent} (h : x ∈ l.drop (pos l i)) : i ≤ x.id := by
  obtain ⟨k, hk, hx⟩ := mem_getD h
  rw [List.length_drop] at hk
  rw [← hx, List.getD_eq_getElem?_getD, List.getElem?_drop, ← List.getD_eq_getElem?_getD]
  have h1 := pos_ge l i (by omega)
  rcases Nat.eq_zero_or_pos k with rfl | hp
  · simpa using h1
  · have := hU.lt (i := pos l i) (j := pos l i + k) (by omega) (by omega)
    omega
/-- What is noted where it was not is in order. -/
theorem up_ins {l : List Ent} (h : Up l) {e : Ent} (hn : ¬ has l e.id) : Up (ins l e) := by
  have hne : ∀ x ∈ l, x.id ≠ e.id := fun x hx he => hn ((has_iff h).2 ⟨x, hx, he⟩)
  unfold ins Up
  rw [List.pairwise_append]
  refine ⟨List.Pairwise.take h, ?_, ?_⟩
  · rw [List.pairwise_cons]
    refine ⟨fun x hx => ?_, List.Pairwise.drop h⟩
    have h1 := mem_drop_ge h hx
    have h2 := hne x (List.mem_of_mem_drop hx)
    omega
  · intro a ha b hb
    have h1 := mem_take_lt ha
    rcases List.mem_cons.1 hb with rfl | hb
    · exact h1
    · have := mem_drop_ge h hb
      omega
theorem up_note {l : List Ent} (h : Up l) {e : Ent} (hn : ¬ has l e.id) : Up (note l e) := by
  unfold note
  split
  · exact List.Pairwise.drop (up_ins h hn)
  · exact up_ins h hn
/-- Behind all. -/
theorem ins_end {l : List Ent} {e : Ent} (h : ∀ x ∈ l, x.id < e.id) : ins l e = l ++ [e] := by
  unfold ins
  rw [pos_end h, List.take_length, List.drop_length]
theorem kind_new_not {l : List Ent} {i : Int} (h : kindOf l i = 0) : ¬ has l i := fun hh => by rw [kind_has hh] at h; cases h

end Go.Proofs.Ytbkphdemmnjhcaa.Wi
