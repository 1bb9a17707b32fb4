/-
  Rows of bytes: appended to, cut short, turned in one place.
-/
import Derived.Test.YtmmbckchaklhaaaFREnc
namespace Go.Proofs.Ytmmbckchaklhaaa
open Go.RowKit Go.Maps


theorem own_same {w w' : World} {base e m n : Nat} {v : Value} {cs : List Value} (h : w.ownsRow base e m v n cs) (hT : ∀ x, v.ownBlock = some x → w'.heap[x]? = w.heap[x]?) : w'.ownsRow base e m v n cs := by
  obtain ⟨hl, h | ⟨g, cap, cur, rfl, hb, hg, rest⟩⟩ := h
  · exact ⟨hl, .inl h⟩
  · exact ⟨hl, .inr ⟨g, cap, cur, rfl, hb, (hT g rfl).trans hg, rest⟩⟩

theorem own_range {w : World} {base e m n : Nat} {q cap : Nat} {xs : List Value} (h : w.ownsRow base e m (.slice (some ⟨q, 0, none⟩) n cap) n xs) : w.rangeAt q 0 xs ∧ (∀ o, w.frozen? ⟨q, o, none⟩ = false) ∧ base ≤ q ∧ q < w.heap.size := by
  obtain ⟨hl, h | ⟨g, c, cur, e1, hb, hg, hc1, hc2, hc3, hc4⟩⟩ := h
  · obtain ⟨h, _⟩ := h
    cases h
  · obtain rfl : q = g := by injection e1 with e1; exact congrArg Addr.block (Option.some.inj e1)
    refine ⟨fun j v hj => ?_, fun o => ?_, hb, (Array.getElem?_eq_some_iff.1 hg).1⟩
    · unfold World.cell?
      rw [hg]
      show cur[0 + j]? = _
      rw [Nat.zero_add, ← Array.getElem?_toList, ← hj, ← hc4, List.getElem?_take]
      split
      · rfl
      · rw [← hc4] at hj
        rw [List.getElem?_eq_none (by rw [List.length_take]; omega)] at hj
        cases hj
    · unfold World.frozen?
      rw [hg]
      simp

theorem own_up {w : World} {base e m n : Nat} {v : Value} {cs : List Value} (h : w.ownsRow 0 e m v n cs) (hb : ∀ x, v.ownBlock = some x → base ≤ x) : w.ownsRow base e m v n cs := by
  obtain ⟨hl, h | ⟨g, cap, cur, rfl, _, hg, rest⟩⟩ := h
  · exact ⟨hl, .inl h⟩
  · exact ⟨hl, .inr ⟨g, cap, cur, rfl, hb g rfl, hg, rest⟩⟩

theorem info_byte : (Try.prog.info? 5).map (fun i => (i.zero, i.size, i.bytes)) = some (some (.int .u8 0), 1, 1) := by kernel_rfl
/-- An append of bytes, from wherever, to a row of the call's own. -/

theorem append_b {ops : Array Oper} {rest : List Oper} {o : Oper} {a : Act} {Q : Exit → Act → World → Prop} {w : World} (hgd : o.guard = none) (s x : Operand)
    (ho : o.op = .call { callee := .builtin .append, args := #[s, x], argTypes := #[26, 26] }) (base : Nat) (v : Value) (l : List Nat) (n : Nat) (_hn : l.length = n) (hs : a.eval s = v) (hown : w.ownsRow base 5 1 v n (l.map byteCell)) (a2 : Option Addr) (n2 c2 : Nat) (m : List Nat) (hm : m.length = n2) (hx : a.eval x = .slice a2 n2 c2) (hB : BytesAt w a2 m) (hnil : a2 = none → c2 = 0) (hb : n + n2 ≤ 1000000000) (hbase : base ≤ w.heap.size)
    (h : ∀ v' w', w'.ownsRow base 5 1 v' (n + n2) ((l ++ m).map byteCell) → w.grownBy w' v.ownBlock → (v'.ownBlock = v.ownBlock ∨ v'.ownBlock = some w.heap.size) → wpList Try.prog ops Q rest (a.put o.dst v') w') :
    wpList Try.prog ops Q (o :: rest) a w := by
  obtain ⟨i0, hi, hz0, hz1, hz2⟩ := info_parts info_byte
  have go : ∀ ad : Addr, a2 = some ad → (∀ j u, (m.map byteCell)[j]? = some u → w.cell? (ad.add j) = some u) → wpList Try.prog ops Q (o :: rest) a w := fun ad e hne => by
    subst e
    refine wpList_append_own_at _ hgd s x 26 ho base 5 i0 (.int .u8 0) 1 1 Try.underlying26 hi hz0 hz1 hz2 rfl (by decide) v n (l.map byteCell) hs hown ad n2 c2 (m.map byteCell) hx (by rw [List.length_map]; omega) hne (fun u hu => ?_) (by unfold maxLen; omega) (by omega) hbase ?_
    · obtain ⟨y, _, rfl⟩ := List.mem_map.1 hu
      rfl
    · intro v' w' h1 h2 _ h4
      rw [← List.map_append] at h1
      exact h v' w' h1 h2 h4
  cases a2 with
  | none =>
    obtain rfl := hnil rfl
    have hmn : m = [] := by
      rcases hB with h | ⟨b, off, hb, _⟩
      · exact h
      · cases hb
    subst hmn
    obtain rfl : n2 = 0 := by rw [← hm]; rfl
    refine wpList_append_own_none hgd s x 26 ho base 5 i0 1 Try.underlying26 hi v n (l.map byteCell) hs hown hx ?_
    exact h v w (by rw [List.append_nil]; exact hown) ⟨rfl, rfl, rfl, Nat.le_refl _, fun _ _ _ => rfl⟩ (.inl rfl)
  | some ad =>
    rcases hB with rfl | ⟨b, off, hb, hA⟩
    · exact go ad rfl (by simp)
    · obtain rfl := Option.some.inj hb
      refine go _ rfl fun j u hj => ?_
      rw [List.getElem?_map] at hj
      cases hmj : m[j]? with
      | none => rw [hmj] at hj; cases hj
      | some y =>
        rw [hmj] at hj
        obtain ⟨hjl, hy⟩ := List.getElem?_eq_some_iff.1 hmj
        have := hA j hjl
        rw [Addr.add_mid, this, List.getD_eq_getElem?_getD, hmj]
        exact hj
/-- A row's front. -/

theorem own_front {w : World} {base g cap n : Nat} {l : List Nat} (h : w.ownsRow base 5 1 (.slice (some ⟨g, 0, none⟩) n cap) n (l.map byteCell)) (m : Nat) (hm : m ≤ n) : w.ownsRow base 5 1 (.slice (some ⟨g, 0, none⟩) m cap) m ((l.take m).map byteCell) := by
  obtain ⟨hl, ⟨hx, _⟩ | ⟨g', cap', cur, hv, hb, hg, hnc, hmx, hsz, hcur⟩⟩ := h
  · cases hx
  · injection hv with e1 e2 e3
    cases e1
    cases e3
    rw [List.length_map] at hl
    refine ⟨by rw [List.length_map, List.length_take]; omega, .inr ⟨g, cap, cur, rfl, hb, hg, by omega, hmx, hsz, ?_⟩⟩
    have h2 : (cur.toList.take (n * 1)).take m = (l.map byteCell).take m := by rw [hcur]
    rw [List.take_take, Nat.min_eq_left (by omega)] at h2
    rw [Nat.mul_one, h2, List.map_take]

theorem heap_setCell_row {W : World} {b : Nat} {cur : Array Value} {t : TypeId} (o : Nat) (v : Value) (h : W.heap[b]? = some (.cells cur t (0, 0))) : (W.setCell ⟨b, o, none⟩ v).heap[b]? = some (.cells (cur.setIfInBounds o v) t (0, 0)) := by
  obtain ⟨hlt, hk⟩ := Array.getElem?_eq_some_iff.1 h
  show (W.heap.modify b _)[b]? = _
  rw [Array.getElem?_eq_getElem (by rw [Array.size_modify]; exact hlt), Array.getElem_modify_self, hk]
  rfl
/-- A row in which one byte was turned. -/

theorem own_byte {w w' : World} {base g cap n : Nat} {l : List Nat} (h : w.ownsRow base 5 1 (.slice (some ⟨g, 0, none⟩) n cap) n (l.map byteCell)) (k z : Nat) (_hk : k < n) (hw : w'.heap = (w.setCell ⟨g, k, none⟩ (.int .u8 (z : Nat))).heap) : w'.ownsRow base 5 1 (.slice (some ⟨g, 0, none⟩) n cap) n ((l.set k z).map byteCell) := by
  obtain ⟨hl, ⟨hx, _⟩ | ⟨g', cap', cur, hv, hb, hg, hnc, hmx, hsz, hcur⟩⟩ := h
  · cases hx
  · injection hv with e1 e2 e3
    cases e1
    cases e3
    rw [List.length_map] at hl
    refine ⟨by rw [List.length_map, List.length_set]; omega, .inr ⟨g, cap, cur.setIfInBounds k (.int .u8 (z : Nat)), rfl, hb, ?_, hnc, hmx, by rw [Array.size_setIfInBounds]; exact hsz, ?_⟩⟩
    · rw [hw]
      exact heap_setCell_row k _ hg
    · rw [Array.toList_setIfInBounds, List.take_set, hcur, List.map_set]
      rfl
/-- What its bytes are. -/

theorem own_cells {w : World} {base g cap n : Nat} {l : List Nat} (h : w.ownsRow base 5 1 (.slice (some ⟨g, 0, none⟩) n cap) n (l.map byteCell)) : w.rangeAt g 0 (l.map byteCell) ∧ (∀ o, w.frozen? ⟨g, o, none⟩ = false) ∧ n ≤ cap ∧ cap ≤ maxLen ∧ l.length = n := by
  have h' := h
  obtain ⟨hl, ⟨hx, _⟩ | ⟨g', cap', cur, hv, hb, hg, hnc, hmx, hsz, hcur⟩⟩ := h
  · cases hx
  · injection hv with e1 e2 e3
    cases e1
    cases e3
    rw [List.length_map] at hl
    exact ⟨(own_range h').1, (own_range h').2.1, hnc, hmx, by omega⟩
end Go.Proofs.Ytmmbckchaklhaaa
