/-
  A copy of a row of pages: append([]Page{}, l...).
-/
import Derived.Test.YtjbjcjcahkfgbaaDoorPages2
namespace Go.Proofs.YtjbjcjcahkfgbaaDoor
open Go.RowKit Go.Maps

theorem PagesOf.of_row {w : World} {base : Nat} {v : Value} {n : Nat} {l : List (Nat × List Nat)} (h : w.ownsRow base 38 2 v n (l.flatMap pageCells)) (hn : n = l.length) : PagesOf w v l ∧ ∀ g, v.ownBlock = some g → base ≤ g := by
  subst hn
  obtain ⟨hl, ⟨rfl, h0⟩ | ⟨g, cap, cur, rfl, hb, rest⟩⟩ := h
  · exact ⟨⟨hl, .inl ⟨rfl, h0⟩⟩, by simp [Value.ownBlock]⟩
  · exact ⟨⟨hl, .inr ⟨g, cap, cur, rfl, Nat.zero_le _, rest⟩⟩, fun g' hg' => by
      obtain rfl : g = g' := by simpa [Value.ownBlock] using hg'
      exact hb⟩

theorem pageCells_len (l : List (Nat × List Nat)) : (l.flatMap pageCells).length = l.length * 2 := by
  induction l with
  | nil => rfl
  | cons x l ih =>
    rw [List.flatMap_cons, List.length_append, ih, List.length_cons]
    show 2 + _ = _
    omega

theorem PagesAt.src {w : World} {g : Nat} {l : List (Nat × List Nat)} (h : PagesAt w (some ⟨g, 0, none⟩) l) : ∀ j u, (l.flatMap pageCells)[j]? = some u → w.cell? ((⟨g, 0, none⟩ : Addr).add j) = some u := by
  intro j u hj
  have hlen := pageCells_len l
  have hjl : j < l.length * 2 := by
    rw [← hlen]
    rcases Nat.lt_or_ge j (l.flatMap pageCells).length with h | h
    · exact h
    · rw [List.getElem?_eq_none h] at hj; cases hj
  obtain ⟨h1, h2⟩ := pageCells_get l (j / 2) (by omega)
  obtain ⟨g', e, hc, hd⟩ := h.at (i := j / 2) (by omega)
  obtain rfl : g = g' := congrArg Addr.block (Option.some.inj e)
  have ea : (⟨g, 0, none⟩ : Addr).add j = ⟨g, j, none⟩ := by
    simp [Addr.add]
    exact fun h => h.symm
  rw [ea]
  rcases Nat.mod_two_eq_zero_or_one j with hm | hm
  · have ej : j = j / 2 * 2 := by omega
    rw [← ej] at h1 hc
    rw [hc, ← hj, h1]
  · have ej : j = j / 2 * 2 + 1 := by omega
    rw [← ej] at h2 hd
    rw [hd, ← hj, h2]

theorem pageCells_one (l : List (Nat × List Nat)) : ∀ u ∈ l.flatMap pageCells, u.oneCell' = true := by
  intro u hu
  obtain ⟨x, _, hx⟩ := List.mem_flatMap.1 hu
  simp [pageCells] at hx
  rcases hx with rfl | rfl <;> rfl

theorem copy_pages {ops : Array Oper} {rest : List Oper} {o : Oper} {a : Act} {Q : Exit → Act → World → Prop} {w : World} (hgd : o.guard = none) (s x : Operand)
    (ho : o.op = .call { callee := .builtin .append, args := #[s, x], argTypes := #[32, 32] }) (u : Value) (l : List (Nat × List Nat)) (hs : a.eval s = .slice (some ⟨w.heap.size, 0, none⟩) 0 0) (hx : a.eval x = u) (hu : PagesOf w u l) (hb : l.length < 1000000)
    (h : ∀ v' w', PagesOf w' v' l → Turn [] w w' → (∀ g, v'.ownBlock = some g → w.heap.size ≤ g) → wpList Tryd.prog ops Q rest (a.put o.dst v') w') :
    wpList Tryd.prog ops Q (o :: rest) a (w.alloc (.cells #[] 38)) := by
  obtain ⟨i0, hi, hz0, hz1, hz2⟩ := info_parts info38
  have hT : Turn [] w (w.alloc (.cells #[] 38)) := (Turn.refl [] w).alloc _
  have hown : (w.alloc (.cells #[] 38)).ownsRow w.heap.size 38 2 (.slice (some ⟨w.heap.size, 0, none⟩) 0 0) 0 (([] : List (Nat × List Nat)).flatMap pageCells) := World.ownsRow_made w #[] 0 (Nat.le_refl _) (Nat.zero_le _) rfl
  have hu' := hu.turn hT (by simp)
  obtain ⟨ak, cap, rfl, hP, _⟩ := hu'.slice
  cases ak with
  | none =>
    obtain ⟨_, ⟨e, h0⟩ | ⟨g, cap', cur, e, _⟩⟩ := hu
    · obtain rfl : l = [] := List.eq_nil_of_length_eq_zero h0
      obtain rfl : cap = 0 := by injection e
      obtain ⟨h1, h2⟩ := PagesOf.of_row hown rfl
      exact wpList_append_own_none hgd s x 32 ho w.heap.size 38 i0 2 Tryd.underlying32 hi _ 0 _ hs hown hx (h _ _ h1 hT h2)
    · cases e
  | some ad =>
    obtain rfl | ⟨g, e, hc⟩ := id hP
    · refine wpList_append_own_at (w.alloc (.cells #[] 38)) hgd s x 32 ho w.heap.size 38 i0 (.agg #[.int .i64 0, .string ByteArray.empty]) 2 24 Tryd.underlying32 hi hz0 hz1 hz2 rfl (by decide) _ 0 _ hs hown ad 0 cap [] hx rfl (fun j u hj => by simp at hj) (by simp) (by unfold maxLen; omega) (by omega) (by simp) ?_
      intro v' w' h1 h2 _ _
      obtain ⟨h3, h4⟩ := PagesOf.of_row (l := []) h1 rfl
      exact h v' w' h3 (hT.grown h2 (by intro k hk; right; simp [Value.ownBlock] at hk; omega)) h4
    · obtain rfl := Option.some.inj e
      refine wpList_append_own_at (w.alloc (.cells #[] 38)) hgd s x 32 ho w.heap.size 38 i0 (.agg #[.int .i64 0, .string ByteArray.empty]) 2 24 Tryd.underlying32 hi hz0 hz1 hz2 rfl (by decide) _ 0 _ hs hown ⟨g, 0, none⟩ l.length cap (l.flatMap pageCells) hx (pageCells_len l) hP.src (pageCells_one l) (by unfold maxLen; omega) (by omega) (by simp) ?_
      intro v' w' h1 h2 _ _
      obtain ⟨h3, h4⟩ := PagesOf.of_row (l := l) h1 (by omega)
      exact h v' w' h3 (hT.grown h2 (by intro k hk; right; simp [Value.ownBlock] at hk; omega)) h4
end Go.Proofs.YtjbjcjcahkfgbaaDoor
