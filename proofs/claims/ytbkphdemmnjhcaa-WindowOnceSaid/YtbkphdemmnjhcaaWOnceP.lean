/-
  What was noted, by itself.
-/
import Derived.Test.YtbkphdemmnjhcaaWPure
namespace Go.Proofs.Ytbkphdemmnjhcaa.Wi
open Go.RowKit

/-- The window has the greatest ids that were noted, each with its answer; what is stale lies below. -/
structure Once (x : List Ent) (N : Nat → Int) (S : Nat → Bool) : Prop where
  up : Up x
  len : x.length ≤ 12
  mem : ∀ e ∈ x, ∃ k : Nat, 1 ≤ k ∧ k ≤ 99 ∧ e.id = (k : Int) ∧ N k = e.an.n ∧ 0 < N k
  all : ∀ k : Nat, 0 < N k → (∃ e ∈ x, e.id = (k : Int)) ∨ (x.length = 12 ∧ ∀ e ∈ x, (k : Int) < e.id)
  stale : ∀ k : Nat, S k = true → x.length = 12 ∧ ∀ e ∈ x, (k : Int) < e.id
  pos : ∀ k : Nat, 0 ≤ N k
theorem Once.nil : Once [] (fun _ => 0) (fun _ => false) :=
  ⟨List.Pairwise.nil, by simp, by simp, fun k h => by simp at h, fun k h => by simp at h, fun _ => by simp⟩

theorem below_kind {x : List Ent} {i : Int} (h12 : x.length = 12) (h : ∀ y ∈ x, i < y.id) : kindOf x i = 2 := by
  rw [kind_no (not_has_ne fun e he => by have := h e he; omega), if_pos]
  exact ⟨pos_zero fun e he => by have := h e he; omega, by omega⟩
/-- New is what was not noted, and is not stale. -/
theorem Once.new {x : List Ent} {N : Nat → Int} {S : Nat → Bool} (h : Once x N S) {k : Nat} (hk : kindOf x (k : Int) = 0) : N k = 0 ∧ S k = false := by
  constructor
  · rcases Int.lt_or_le 0 (N k) with h1 | h1
    · exfalso
      rcases h.all k h1 with h2 | ⟨h2, h3⟩
      · exact kind_new_not hk ((has_iff h.up).2 h2)
      · rw [below_kind h2 h3] at hk
        cases hk
    · have := h.pos k
      omega
  · cases hs : S k with
    | false => rfl
    | true =>
      obtain ⟨h2, h3⟩ := h.stale k hs
      rw [below_kind h2 h3] at hk
      cases hk
/-- Known is what was noted, with its answer. -/
theorem Once.known {x : List Ent} {N : Nat → Int} {S : Nat → Bool} (h : Once x N S) {k : Nat} (hk : kindOf x (k : Int) = 1) : 0 < N k ∧ (ansOf x (k : Int)).n = N k := by
  have hh : has x (k : Int) := by
    by_cases hh : has x (k : Int)
    · exact hh
    · rw [kind_no hh] at hk
      split at hk <;> cases hk
  obtain ⟨k', _, _, h3, h4, h5⟩ := h.mem _ (getD_mem hh.1)
  rw [hh.2] at h3
  obtain rfl : k = k' := by omega
  rw [ans_has hh]
  exact ⟨h5, h4.symm⟩
theorem stale_all {x : List Ent} (hU : Up x) {i : Int} (hk : kindOf x i = 2) (hl : x.length ≤ 12) : x.length = 12 ∧ ∀ e ∈ x, i < e.id := by
  have hh : ¬ has x i := fun h => by rw [kind_has h] at hk; cases hk
  rw [kind_no hh] at hk
  split at hk
  · rename_i h1
    refine ⟨by omega, fun e he => ?_⟩
    have h2 := mem_drop_ge hU (i := i) (x := e) (by rw [h1.1]; exact he)
    have h3 : e.id ≠ i := fun e' => hh ((has_iff hU).2 ⟨e, he, e'⟩)
    omega
  · cases hk
theorem Once.stales {x : List Ent} {N : Nat → Int} {S : Nat → Bool} (h : Once x N S) {k : Nat} (hk : kindOf x (k : Int) = 2) : Once x N (fun j => if j = k then true else S j) := by
  refine ⟨h.up, h.len, h.mem, h.all, fun j hj => ?_, h.pos⟩
  by_cases e : j = k
  · subst e
    exact stale_all h.up hk h.len
  · rw [if_neg e] at hj
    exact h.stale j hj

theorem pos_ne_zero {x : List Ent} {i : Int} (hk : kindOf x i = 0) (h12 : 12 ≤ x.length) : pos x i ≠ 0 := fun e => by
  rw [kind_no (kind_new_not hk), if_pos ⟨e, h12⟩] at hk
  cases hk
/-- What is noted, with its neighbours. -/
theorem note_full {x : List Ent} {e : Ent} (hU : Up x) (hk : kindOf x e.id = 0) (h12 : x.length = 12) : ∃ y l, x = y :: l ∧ y.id < e.id ∧ ins x e = y :: note x e ∧ ∀ z ∈ note x e, y.id < z.id := by
  have hp := pos_ne_zero hk (by omega)
  cases x with
  | nil => simp at h12
  | cons y l =>
    have h1 := pos_lt (y :: l) e.id 0 (by omega)
    simp only [List.getD_cons_zero] at h1
    have h2 : ins (y :: l) e = y :: note (y :: l) e := by
      unfold note
      rw [ins_length, h12, if_pos (by omega)]
      unfold ins
      obtain ⟨p, hpp⟩ : ∃ p, pos (y :: l) e.id = p + 1 := ⟨pos (y :: l) e.id - 1, by omega⟩
      rw [hpp]
      rfl
    refine ⟨y, l, rfl, h1, h2, fun z hz => ?_⟩
    have := up_ins hU (kind_new_not hk)
    rw [h2] at this
    exact (List.pairwise_cons.1 this).1 z hz
theorem note_some {x : List Ent} {e : Ent} (h12 : ¬ 12 < x.length + 1) : note x e = ins x e := by
  unfold note
  rw [ins_length, if_neg h12]

/-- A new one is noted. -/
theorem Once.note {x : List Ent} {N : Nat → Int} {S : Nat → Bool} (h : Once x N S) {k : Nat} (hk1 : 1 ≤ k) (hk2 : k ≤ 99) {a : An} (ha : 0 < a.n) (hk : kindOf x (k : Int) = 0) : Once (note x ⟨(k : Int), a⟩) (fun j => if j = k then a.n else N j) S := by
  have hnh := kind_new_not hk
  have hsub : ∀ e ∈ Wi.note x ⟨(k : Int), a⟩, e ∈ ins x ⟨(k : Int), a⟩ := fun e he => by
    unfold Wi.note at he
    split at he
    · exact List.mem_of_mem_drop he
    · exact he
  have hmem : ∀ e ∈ Wi.note x ⟨(k : Int), a⟩, ∃ j : Nat, 1 ≤ j ∧ j ≤ 99 ∧ e.id = (j : Int) ∧ (if j = k then a.n else N j) = e.an.n ∧ 0 < (if j = k then a.n else N j) := fun e he => by
    rcases mem_ins.1 (hsub e he) with rfl | h1
    · exact ⟨k, hk1, hk2, rfl, by rw [if_pos rfl], by rw [if_pos rfl]; exact ha⟩
    · obtain ⟨j, j1, j2, j3, j4, j5⟩ := h.mem e h1
      have hne : j ≠ k := fun e' => hnh ((has_iff h.up).2 ⟨e, h1, by rw [j3, e']⟩)
      exact ⟨j, j1, j2, j3, by rw [if_neg hne]; exact j4, by rw [if_neg hne]; exact j5⟩
  have hpos : ∀ j : Nat, 0 ≤ (if j = k then a.n else N j) := fun j => by
    split
    · omega
    · exact h.pos j
  by_cases h12 : 12 < x.length + 1
  · have hl : x.length = 12 := by have := h.len; omega
    obtain ⟨y, l, hx, hy, hi, hall⟩ := note_full (e := ⟨(k : Int), a⟩) h.up hk hl
    have hnl : (Wi.note x ⟨(k : Int), a⟩).length = 12 := by rw [note_length, if_pos h12]; exact hl
    have hbel : ∀ j : Nat, (∀ e ∈ x, (j : Int) < e.id) → ∀ e ∈ Wi.note x ⟨(k : Int), a⟩, (j : Int) < e.id := fun j hj e he => by
      have h1 := hall e he
      have h2 := hj y (by rw [hx]; exact List.mem_cons_self)
      omega
    refine ⟨up_note h.up hnh, by omega, hmem, fun j hj => ?_, fun j hj => ⟨hnl, hbel j (h.stale j hj).2⟩, hpos⟩
    by_cases e : j = k
    · subst e
      have : (⟨(j : Int), a⟩ : Ent) ∈ ins x ⟨(j : Int), a⟩ := mem_ins.2 (.inl rfl)
      rw [hi] at this
      rcases List.mem_cons.1 this with h1 | h1
      · rw [← h1] at hy
        exact absurd hy (Int.lt_irrefl _)
      · exact .inl ⟨_, h1, rfl⟩
    · rw [if_neg e] at hj
      rcases h.all j hj with ⟨z, hz, hzj⟩ | ⟨_, h2⟩
      · have : z ∈ ins x ⟨(k : Int), a⟩ := mem_ins.2 (.inr hz)
        rw [hi] at this
        rcases List.mem_cons.1 this with h1 | h1
        · subst h1
          exact .inr ⟨hnl, fun e he => by rw [← hzj]; exact hall e he⟩
        · exact .inl ⟨z, h1, hzj⟩
      · exact .inr ⟨hnl, hbel j h2⟩
  · have hno : ∀ {P : Prop}, x.length = 12 → P := fun h => by omega
    refine ⟨up_note h.up hnh, note_len12 _ h.len, hmem, fun j hj => ?_, fun j hj => hno (h.stale j hj).1, hpos⟩
    rw [note_some h12]
    by_cases e : j = k
    · subst e
      exact .inl ⟨_, mem_ins.2 (.inl rfl), rfl⟩
    · rw [if_neg e] at hj
      rcases h.all j hj with ⟨z, hz, hzj⟩ | ⟨h2, _⟩
      · exact .inl ⟨z, mem_ins.2 (.inr hz), hzj⟩
      · exact hno h2

/-- How many lie above. -/
def cnt (x : List Ent) (j : Int) : Nat := (x.filter fun e => decide (j < e.id)).length
theorem cnt_le (x : List Ent) (j : Int) : cnt x j ≤ x.length := List.length_filter_le _ _
theorem cnt_out {x : List Ent} {j : Int} (h : ∀ e ∈ x, e.id ≠ j) : cnt x (j - 1) = cnt x j := by
  unfold cnt
  congr 1
  refine List.filter_congr fun e he => ?_
  have := h e he
  rw [decide_eq_decide]
  omega
theorem cnt_cons (e : Ent) (x : List Ent) (j : Int) : cnt (e :: x) j = (if j < e.id then 1 else 0) + cnt x j := by
  unfold cnt
  by_cases h : j < e.id
  · rw [List.filter_cons_of_pos (by simpa using h), List.length_cons, if_pos h]; omega
  · rw [List.filter_cons_of_neg (by simpa using h), if_neg h]; omega
theorem cnt_in {x : List Ent} (hU : Up x) {j : Int} (h : ∃ e ∈ x, e.id = j) : cnt x (j - 1) = cnt x j + 1 := by
  induction x with
  | nil => obtain ⟨e, he, _⟩ := h; simp at he
  | cons y l ih =>
    have hl := List.pairwise_cons.1 hU
    rw [cnt_cons, cnt_cons]
    by_cases hy : y.id = j
    · rw [if_pos (by omega), if_neg (by omega), cnt_out fun e he => by have := hl.1 e he; omega]
      omega
    · obtain ⟨e, he, hej⟩ := h
      rcases List.mem_cons.1 he with rfl | he
      · exact absurd hej hy
      · rw [ih hl.2 ⟨e, he, hej⟩]
        by_cases h2 : j < y.id
        · rw [if_pos (by omega), if_pos h2]; omega
        · rw [if_neg (by omega), if_neg h2]; omega
theorem cnt_all {x : List Ent} {j : Int} (h : ∀ e ∈ x, j < e.id) : cnt x j = x.length := by
  unfold cnt
  rw [List.filter_eq_self.2 fun e he => by simpa using h e he]
theorem all_cnt {x : List Ent} {j : Int} (h : cnt x j = x.length) : ∀ e ∈ x, j < e.id := by
  have := List.length_filter_eq_length_iff.1 h
  intro e he
  simpa using this e he
theorem Once.top {x : List Ent} {N : Nat → Int} {S : Nat → Bool} (h : Once x N S) : cnt x (99 : Int) = 0 := by
  unfold cnt
  rw [List.length_eq_zero_iff, List.filter_eq_nil_iff]
  intro e he
  obtain ⟨k, _, h2, h3, _⟩ := h.mem e he
  simp
  omega
theorem Once.bottom {x : List Ent} {N : Nat → Int} {S : Nat → Bool} (h : Once x N S) : cnt x (0 : Int) = x.length := cnt_all fun e he => by
  obtain ⟨k, h1, _, h3, _⟩ := h.mem e he
  omega
/-- One that was noted, and has room, is known. -/
theorem Once.room {x : List Ent} {N : Nat → Int} {S : Nat → Bool} (h : Once x N S) {k : Nat} (hN : 0 < N k) (hc : cnt x (k : Int) < 12) : kindOf x (k : Int) = 1 ∧ cnt x ((k : Int) - 1) = cnt x (k : Int) + 1 := by
  rcases h.all k hN with h1 | ⟨h1, h2⟩
  · exact ⟨kind_has ((has_iff h.up).2 h1), cnt_in h.up h1⟩
  · rw [cnt_all h2] at hc
    omega
theorem Once.none {x : List Ent} {N : Nat → Int} {S : Nat → Bool} (h : Once x N S) {k : Nat} (hN : ¬ 0 < N k ∨ ¬ cnt x (k : Int) < 12) : cnt x ((k : Int) - 1) = cnt x (k : Int) := by
  refine cnt_out fun e he hek => ?_
  rcases hN with hN | hN
  · obtain ⟨j, _, _, h3, _, h5⟩ := h.mem e he
    obtain rfl : j = k := by omega
    exact hN h5
  · have h1 := cnt_le x (k : Int)
    have h2 := h.len
    have := all_cnt (j := (k : Int)) (by omega) e he
    omega

end Go.Proofs.Ytbkphdemmnjhcaa.Wi
