/-
  A row of ints of the call's own; counts of free pages, exactly; steps of a pager's states.
-/
import Derived.Test.YtjbjcjcahkfgbaaDoorPknown
import Derived.Test.YtjbjcjcahkfgbaaDoorCount
import Derived.Maps.AppendAt
namespace Go.Proofs.YtjbjcjcahkfgbaaDoor
open Go.RowKit Go.Maps

def intCell (x : Nat) : Value := .int .i64 (x : Nat)
/-- A row of ints of the call's own. -/
def IntsAt (w : World) (v : Value) (xs : List Nat) : Prop := w.ownsRow 0 3 1 v xs.length (xs.map intCell)

theorem IntsAt.nil (w : World) : IntsAt w (.slice none 0 0) [] := World.ownsRow_nil _ _ _ _

theorem IntsAt.turn {S : List Nat} {w w' : World} {v : Value} {xs : List Nat} (h : IntsAt w v xs) (hT : Turn S w w') (hn : ∀ g, v.ownBlock = some g → g ∉ S) : IntsAt w' v xs := by
  obtain ⟨hl, h | ⟨g, cap, cur, rfl, hb, hg, rest⟩⟩ := h
  · exact ⟨hl, .inl h⟩
  · have hlt : g < w.heap.size := by
      rcases Nat.lt_or_ge g w.heap.size with h | h
      · exact h
      · rw [Array.getElem?_eq_none h] at hg; cases hg
    exact ⟨hl, .inr ⟨g, cap, cur, rfl, hb, (hT.block g hlt (hn g rfl)).trans hg, rest⟩⟩

theorem IntsAt.lt {w : World} {v : Value} {xs : List Nat} (h : IntsAt w v xs) (g : Nat) (hg : v.ownBlock = some g) : g < w.heap.size := by
  obtain ⟨hl, ⟨rfl, _⟩ | ⟨g', cap, cur, rfl, hb, hg', rest⟩⟩ := h
  · simp [Value.ownBlock] at hg
  · have e : g' = g := by simpa [Value.ownBlock] using hg
    subst e
    rcases Nat.lt_or_ge g' w.heap.size with h | h
    · exact h
    · rw [Array.getElem?_eq_none h] at hg'; cases hg'

theorem IntsAt.get {w : World} {v : Value} {xs : List Nat} (h : IntsAt w v xs) {i : Nat} (hi : i < xs.length) : ∃ g cap, v = .slice (some ⟨g, 0, none⟩) xs.length cap ∧ w.cell? ⟨g, i, none⟩ = some (.int .i64 (xs[i] : Nat)) := by
  obtain ⟨hl, ⟨_, h0⟩ | ⟨g, cap, cur, rfl, hb, hg, hnc, hm, hsz, hcur⟩⟩ := h
  · omega
  · refine ⟨g, cap, rfl, ?_⟩
    unfold World.cell?
    rw [hg]
    show cur[i]? = _
    have h1 : (cur.toList.take (xs.length * 1))[i]? = (xs.map intCell)[i]? := by rw [hcur]
    rw [List.getElem?_take, if_pos (by omega), List.getElem?_map, List.getElem?_eq_getElem hi] at h1
    rw [← Array.getElem?_toList, h1]
    rfl

theorem IntsAt.slice {w : World} {v : Value} {xs : List Nat} (h : IntsAt w v xs) : ∃ a cap, v = .slice a xs.length cap := by
  obtain ⟨hl, ⟨rfl, h0⟩ | ⟨g, cap, cur, rfl, hb, hg, rest⟩⟩ := h
  · exact ⟨none, 0, by rw [h0]⟩
  · exact ⟨_, cap, rfl⟩

theorem info3 : (Tryd.prog.info? 3).map (fun i => (i.zero, i.size, i.bytes)) = some (some (.int .i64 0), 1, 8) := by kernel_rfl

theorem append_int {ops : Array Oper} {rest : List Oper} {o : Oper} {a : Act} {Q : Exit → Act → World → Prop} {w : World} (hgd : o.guard = none) (s x : Operand)
    (ho : o.op = .call { callee := .builtin .append, args := #[s, x], argTypes := #[50, 50] }) (v : Value) (xs : List Nat) (k : Nat) (hs : a.eval s = v) (hown : IntsAt w v xs) (hx : a.eval x = .slice (some ⟨w.heap.size, 0, none⟩) 1 1) (hb : xs.length < 1000000)
    (h : ∀ v' w', IntsAt w' v' (xs ++ [k]) → Turn [] w w' ∨ (∃ g, v.ownBlock = some g ∧ Turn [g] w w') → (v'.ownBlock = v.ownBlock ∨ ∃ g, v'.ownBlock = some g ∧ w.heap.size ≤ g) → wpList Tryd.prog ops Q rest (a.put o.dst v') w') :
    wpList Tryd.prog ops Q (o :: rest) a (w.alloc (.cells #[.int .i64 (k : Nat)] 3)) := by
  obtain ⟨i0, hi, hz0, hz1, hz2⟩ := info_parts info3
  have hown' : IntsAt (w.alloc (.cells #[.int .i64 (k : Nat)] 3)) v xs := hown.turn ((Turn.refl [] w).alloc _) (by simp)
  refine wpList_append_own_at (w.alloc (.cells #[.int .i64 (k : Nat)] 3)) hgd s x 50 ho 0 3 i0 (.int .i64 0) 1 8 Tryd.underlying50 hi hz0 hz1 hz2 rfl (by decide) v xs.length (xs.map intCell) hs hown' ⟨w.heap.size, 0, none⟩ 1 1 [.int .i64 (k : Nat)] hx rfl (cell_one_new _ _ _) (by simp [Value.oneCell']) (by unfold maxLen; omega) (by omega) (Nat.zero_le _) ?_
  intro v' w' h1 h2 _ h4
  refine h v' w' ?_ ?_ ?_
  · show w'.ownsRow 0 3 1 v' (xs ++ [k]).length ((xs ++ [k]).map intCell)
    rw [List.length_append, List.map_append]
    exact h1
  · cases hv : v.ownBlock with
    | none =>
      left
      rw [hv] at h2
      exact ((Turn.refl [] w).alloc _).grown h2 (by simp)
    | some g =>
      right
      rw [hv] at h2
      exact ⟨g, rfl, ((Turn.refl [g] w).alloc _).grown h2 (by simp)⟩
  · rcases h4 with h4 | h4
    · exact .inl h4
    · exact .inr ⟨_, h4, by simp⟩

/- Counts. -/
theorem fc_exact (t : Nat → Bool) (k n : Nat) (hk : k < n) (ht : t k = false) : freeCount (fun j => t j || decide (j = k)) n + 1 = freeCount t n := by
  have := fc_less (fun j => t j || decide (j = k)) k n hk (by simp)
  rw [← this]
  apply freeCount_congr
  intro j _
  by_cases e : j = k
  · subst e; simp [ht]
  · simp [e]

theorem Pg.left_alloced {q : Pg} {N k : Nat} (h : q.Next N k) : (q.alloced k).left N + 1 = q.left N := by
  have h1 := fc_exact (q.tk N) k 16384 h.1 h.2.1
  have e : freeCount ((q.alloced k).tk N) 16384 = freeCount (fun j => q.tk N j || decide (j = k)) 16384 := freeCount_congr fun j _ => by
    unfold Pg.tk Pg.alloced setB
    by_cases e : j = k
    · subst e; simp
    · simp [e]
  unfold Pg.left
  rw [e]
  exact h1

theorem Pg.left_new (N : Nat) (hN : N ≤ 16384) (c : Nat) (root : List Nat) (d r : Bool) (u : Nat) : (Pg.mk d c root (fun _ => false) (fun _ => 0) r u).left N = N - 4 := by
  have h := fc_base N 16384
  rw [Nat.min_eq_right hN] at h
  have e : freeCount ((Pg.mk d c root (fun _ => false) (fun _ => 0) r u).tk N) 16384 = freeCount (fun k => decide (k < 4) || decide (N ≤ k)) 16384 := freeCount_congr fun j _ => by
    unfold Pg.tk
    simp
  unfold Pg.left
  rw [e]
  exact h

/-- With nothing freed a Commit leaves the same room. -/
theorem Pg.left_committed {q : Pg} {N : Nat} (root : List Nat) (h : ∀ k, q.si k ≠ 2) : (q.committed root).left N = q.left N := by
  unfold Pg.left
  apply freeCount_congr
  intro j _
  unfold Pg.tk Pg.committed Pg.there
  have : (q.si j == 2) = false := by rw [beq_eq_false_iff_ne]; exact h j
  simp [this, Bool.or_assoc]

theorem Pg.left_zero (q : Pg) (N : Nat) : q.left N = 0 ↔ ∀ k, k < 16384 → q.tk N k = true := fc_zero _ _

theorem Pg.left_rd (q : Pg) (N : Nat) (r : Bool) : ({ q with rd := r } : Pg).left N = q.left N := rfl

end Go.Proofs.YtjbjcjcahkfgbaaDoor
