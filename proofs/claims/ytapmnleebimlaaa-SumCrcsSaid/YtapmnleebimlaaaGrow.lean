/-
  'append' of bytes to a slice of the call's own, whatever the source; what is owned, as bytes.
-/
import Derived.Test.YtapmnleebimlaaaTurns
import Derived.Laws.AppendOwnNone
namespace Go.Proofs.Ytapmnleebimlaaa
open Go.RowKit

theorem grownBy_refl (w : World) (row : Option Nat) : w.grownBy w row := ⟨rfl, rfl, rfl, Nat.le_refl _, fun _ _ _ => rfl⟩

theorem append_bytes {ops : Array Oper} {rest : List Oper} {o : Oper} {a : Act} {Q : Exit → Act → World → Prop} {w : World} (hgd : o.guard = none) (s x : Operand)
    (ho : o.op = .call { callee := .builtin .append, args := #[s, x], argTypes := #[28, 28] }) (base : Nat) (v : Value) (n : Nat) (xs : List Nat) (hs : a.eval s = v) (hown : w.ownsRow base 5 1 v n (xs.map byteCell))
    (ak : Option Addr) (m c : Nat) (l : List Nat) (hx : a.eval x = .slice ak m c) (hm : l.length = m) (hnone : ak = none → c = 0) (hb : BytesAt w ak l) (hbound : n + m ≤ 140737488355328) (hbase : base ≤ w.heap.size)
    (h : ∀ v' w', w'.ownsRow base 5 1 v' (n + m) ((xs ++ l).map byteCell) → w.grownBy w' v.ownBlock → (v' = .slice none 0 0 ↔ v = .slice none 0 0 ∧ m = 0) → wpList Try.prog ops Q rest (a.put o.dst v') w') :
    wpList Try.prog ops Q (o :: rest) a w := by
  obtain ⟨i0, hi, hz0, hz1, hz2⟩ := info_parts info5
  cases ak with
  | none =>
    obtain rfl := hnone rfl
    have hl : l = [] := by
      rcases hb with h | ⟨_, _, e, _⟩
      · exact h
      · cases e
    subst hl
    obtain rfl : 0 = m := hm
    refine wpList_append_own_none hgd s x 28 ho base 5 i0 1 Try.underlying28 hi v n _ hs hown hx (h v w ?_ (grownBy_refl _ _) (by simp))
    simpa using hown
  | some ad =>
    refine wpList_append_own w hgd s x 28 ho base 5 i0 (.int .u8 0) 1 1 Try.underlying28 hi hz0 hz1 hz2 rfl (by decide) v n (xs.map byteCell) hs hown ad m c (l.map byteCell) hx (by simp [hm]) ?_ (src_one l) (by unfold maxLen; omega) (by omega) hbase ?_
    · by_cases hl : l = []
      · subst hl; intro j u hj; simp at hj
      · rcases hb with h | ⟨b, off, e, hc⟩
        · exact absurd h hl
        · obtain rfl := Option.some.inj e
          exact src_bytes (.inr ⟨b, off, rfl, hc⟩)
    · intro v' w' h1 h2 h3
      exact h v' w' (by rw [List.map_append]; exact h1) h2 h3

/-- A row of the call's own: where it lies. -/
theorem own_any {w : World} {base : Nat} {v : Value} {n : Nat} {l : List Nat} (h : w.ownsRow base 5 1 v n (l.map byteCell)) :
    ∃ a cap, v = .slice a l.length cap ∧ n = l.length ∧ BytesAt w a l ∧ (a = none → cap = 0) := by
  have hn : n = l.length := by have := h.1; simpa using this.symm
  by_cases h0 : 0 < n
  · obtain ⟨g, cap, hv, _, _, _, hb, _⟩ := own_bytes h h0
    exact ⟨_, cap, hv, hn, hb, fun e => by cases e⟩
  · have hl : l = [] := List.eq_nil_of_length_eq_zero (by omega)
    subst hl
    obtain ⟨_, ⟨rfl, _⟩ | ⟨g, cap, cur, rfl, _⟩⟩ := h
    · exact ⟨none, 0, rfl, hn, .inl rfl, fun _ => rfl⟩
    · exact ⟨some ⟨g, 0, none⟩, cap, by rw [hn], hn, .inl rfl, fun e => by cases e⟩

/-- A row of the call's own that is not nil. -/
theorem own_some {w : World} {base : Nat} {v : Value} {n : Nat} {l : List Nat} (h : w.ownsRow base 5 1 v n (l.map byteCell)) (hv : v ≠ .slice none 0 0) :
    ∃ g cap, v = .slice (some ⟨g, 0, none⟩) l.length cap ∧ n = l.length ∧ base ≤ g ∧ g < w.heap.size ∧ BytesAt w (some ⟨g, 0, none⟩) l ∧ ∀ o, w.frozen? ⟨g, o, none⟩ = false := by
  have hn : n = l.length := by have := h.1; simpa using this.symm
  by_cases h0 : 0 < n
  · exact own_bytes h h0
  · have hl : l = [] := List.eq_nil_of_length_eq_zero (by omega)
    subst hl
    obtain ⟨_, ⟨rfl, _⟩ | ⟨g, cap, cur, rfl, hb, hg, _⟩⟩ := h
    · exact absurd rfl hv
    · refine ⟨g, cap, by rw [hn], hn, hb, ?_, .inl rfl, fun o => ?_⟩
      · rcases Nat.lt_or_ge g w.heap.size with h | h
        · exact h
        · rw [Array.getElem?_eq_none h] at hg; cases hg
      · unfold World.frozen?
        rw [hg]
        simp

/-- What is owned stays so where one block that is below turned. -/
theorem own_only {w w' : World} {base b : Nat} {v : Value} {n : Nat} {xs : List Value} (h : w.ownsRow base 5 1 v n xs) (hO : Only b w w') (hb : ∀ k, v.ownBlock = some k → k ≠ b) : w'.ownsRow base 5 1 v n xs := by
  refine h.kept (row := some b) ⟨hO.os, hO.tape, hO.output, by rw [hO.size]; exact Nat.le_refl _, fun k _ hk => hO.block k (fun e => hk (by rw [e]))⟩ ?_
  cases hv : v.ownBlock with
  | none => exact .inl rfl
  | some k => exact .inr (fun e => hb k hv (Option.some.inj e))

/-- The rows that came in. -/
def RowsAt (w : World) (a : Option Addr) (n : Nat) : Prop :=
  ∀ k, k < n → ∃ b off ak ck, ∃ lk : List Nat, a = some ⟨b, off, none⟩ ∧ b < w.heap.size ∧ w.cell? ⟨b, off + k, none⟩ = some (.slice ak lk.length ck) ∧ BytesAt w ak lk ∧ (ak = none → ck = 0) ∧ (∀ x ∈ lk, x < 256) ∧ lk.length ≤ maxLen

end Go.Proofs.Ytapmnleebimlaaa
