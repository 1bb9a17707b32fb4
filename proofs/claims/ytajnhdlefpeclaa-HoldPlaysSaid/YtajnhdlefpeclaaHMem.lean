/-
  Holds in memory.
-/
import Derived.Test.YtajnhdlefpeclaaLMem
import Derived.Test.YtajnhdlefpeclaaHPure
namespace Go.Proofs.Ytajnhdlefpeclaa.Ho
open Go.RowKit Go.Maps

/-- A hold with where its parts lie. -/
structure Hr where
  x : Hd
  a : Option Addr
  c : Nat
def Hr.nil : Hr := ⟨Hd.nil, none, 0⟩
/-- Its value. -/
abbrev hrV (r : Hr) : Value := .agg #[.int .i64 r.x.id, .slice r.a r.x.ps.length r.c, .int .i64 r.x.ov, .int .i64 r.x.un]
/-- Its cells. -/
def hrC (r : Hr) : List Value := [.int .i64 r.x.id, .slice r.a r.x.ps.length r.c, .int .i64 r.x.ov, .int .i64 r.x.un]
/-- Its parts lie there. -/
def Hr.Ok (w : World) (r : Hr) : Prop := PartsAt w r.a r.x.ps ∧ (r.a = none → r.c = 0)
theorem Hr.Ok.turn {S : List Nat} {w w' : World} {r : Hr} (h : r.Ok w) (hT : Turn S w w') (hn : ∀ x, r.a = some x → r.x.ps ≠ [] → x.block ∉ S) : r.Ok w' := by
  refine ⟨?_, h.2⟩
  by_cases hp : r.x.ps = []
  · exact .inl hp
  · exact h.1.turn hT fun x hx => hn x hx hp
theorem Hr.Ok.turn0 {w w' : World} {r : Hr} (h : r.Ok w) (hT : Turn [] w w') : r.Ok w' := h.turn hT (by simp)
theorem Hr.Ok.lt {w : World} {r : Hr} (h : r.Ok w) {x : Addr} (hx : r.a = some x) (hp : r.x.ps ≠ []) : x.block < w.heap.size := by
  rcases h.1 with h | ⟨b, off, hb, h⟩
  · exact absurd h hp
  · rw [hb] at hx
    obtain rfl := Option.some.inj hx
    exact lt_of_cell (h 0 (List.length_pos_iff.2 hp)).1

/-- A hold's cells in memory. -/
structure HrIn (w : World) (b o : Nat) (r : Hr) : Prop where
  id : w.cell? ⟨b, o, none⟩ = some (.int .i64 r.x.id)
  ps : w.cell? ⟨b, o + 1, none⟩ = some (.slice r.a r.x.ps.length r.c)
  ov : w.cell? ⟨b, o + 2, none⟩ = some (.int .i64 r.x.ov)
  un : w.cell? ⟨b, o + 3, none⟩ = some (.int .i64 r.x.un)
theorem HrIn.lt {w : World} {b o : Nat} {r : Hr} (h : HrIn w b o r) : b < w.heap.size := lt_of_cell h.id
theorem HrIn.keep {w w' : World} {b o : Nat} {r : Hr} (h : HrIn w b o r) (hb : w'.heap[b]? = w.heap[b]?) : HrIn w' b o r :=
  ⟨(World.cell?_of_block hb).trans h.id, (World.cell?_of_block hb).trans h.ps, (World.cell?_of_block hb).trans h.ov, (World.cell?_of_block hb).trans h.un⟩
theorem HrIn.turn {S : List Nat} {w w' : World} {b o : Nat} {r : Hr} (h : HrIn w b o r) (hT : Turn S w w') (hb : b ∉ S) : HrIn w' b o r := h.keep (hT.block b h.lt hb)

/-- Holds in a block, from an offset on. -/
def HrsIn (w : World) (b off : Nat) (l : List Hr) : Prop := ∀ i, i < l.length → HrIn w b (off + i * 4) (l.getD i Hr.nil)
def HrsAt (w : World) (a : Option Addr) (l : List Hr) : Prop := l = [] ∨ ∃ b off, a = some ⟨b, off, none⟩ ∧ HrsIn w b off l
theorem HrsIn.turn {S : List Nat} {w w' : World} {b off : Nat} {l : List Hr} (h : HrsIn w b off l) (hT : Turn S w w') (hb : b ∉ S) : HrsIn w' b off l := fun i hi => (h i hi).turn hT hb
theorem HrsAt.turn0 {w w' : World} {a : Option Addr} {l : List Hr} (h : HrsAt w a l) (hT : Turn [] w w') : HrsAt w' a l := by
  rcases h with rfl | ⟨b, off, rfl, h⟩
  · exact .inl rfl
  · exact .inr ⟨b, off, rfl, h.turn hT (by simp)⟩
theorem HrsAt.at {w : World} {a : Option Addr} {l : List Hr} (h : HrsAt w a l) {i : Nat} (hi : i < l.length) : ∃ b off, a = some ⟨b, off, none⟩ ∧ HrIn w b (off + i * 4) (l.getD i Hr.nil) := by
  rcases h with rfl | ⟨b, off, rfl, h⟩
  · simp at hi
  · exact ⟨b, off, rfl, h i hi⟩
theorem getD_take {l : List Hr} {n i : Nat} (h : i < n) : (l.take n).getD i Hr.nil = l.getD i Hr.nil := by
  rw [List.getD_eq_getElem?_getD, List.getD_eq_getElem?_getD, List.getElem?_take, if_pos h]
theorem getD_drop (l : List Hr) (n i : Nat) : (l.drop n).getD i Hr.nil = l.getD (n + i) Hr.nil := by
  rw [List.getD_eq_getElem?_getD, List.getD_eq_getElem?_getD, List.getElem?_drop]
theorem HrsAt.take {w : World} {a : Option Addr} {l : List Hr} (h : HrsAt w a l) (n : Nat) : HrsAt w a (l.take n) := by
  rcases h with rfl | ⟨b, off, rfl, h⟩
  · exact .inl (by simp)
  · refine .inr ⟨b, off, rfl, fun i hi => ?_⟩
    rw [List.length_take] at hi
    rw [getD_take (by omega)]
    exact h i (by omega)
theorem HrsIn.drop {w : World} {b off : Nat} {l : List Hr} (h : HrsIn w b off l) (n : Nat) : HrsIn w b (off + n * 4) (l.drop n) := fun i hi => by
  rw [List.length_drop] at hi
  have := h (n + i) (by omega)
  rw [show off + (n + i) * 4 = off + n * 4 + i * 4 by omega] at this
  rw [getD_drop]
  exact this

/- Rows as rows of cells. -/
def flatH : List Hr → List Value
  | [] => []
  | x :: l => hrC x ++ flatH l
theorem hrC_length (x : Hr) : (hrC x).length = 4 := rfl
theorem flatH_length (l : List Hr) : (flatH l).length = l.length * 4 := by
  induction l with
  | nil => rfl
  | cons x l ih => rw [flatH, List.length_append, hrC_length, ih, List.length_cons]; omega
theorem flatH_append (a b : List Hr) : flatH (a ++ b) = flatH a ++ flatH b := by
  induction a with
  | nil => rfl
  | cons x l ih => rw [List.cons_append, flatH, flatH, ih, List.append_assoc]
theorem flatH_get (l : List Hr) : ∀ i j, i < l.length → j < 4 → (flatH l)[i * 4 + j]? = (hrC (l.getD i Hr.nil))[j]? := by
  induction l with
  | nil => intro i j h; simp at h
  | cons x l ih =>
    intro i j hi hj
    cases i with
    | zero => rw [flatH, Nat.zero_mul, Nat.zero_add, List.getElem?_append_left (by rw [hrC_length]; exact hj)]; rfl
    | succ i =>
      rw [flatH, List.getElem?_append_right (by rw [hrC_length]; omega), hrC_length, show (i + 1) * 4 + j - 4 = i * 4 + j by omega, ih i j (by simpa using hi) hj]
      rfl
theorem flatH_one (l : List Hr) : ∀ u ∈ flatH l, u.oneCell' = true := by
  induction l with
  | nil => intro u hu; simp [flatH] at hu
  | cons x l ih =>
    intro u hu
    rcases List.mem_append.1 hu with h | h
    · simp only [hrC, List.mem_cons, List.not_mem_nil, or_false] at h
      rcases h with rfl | rfl | rfl | rfl <;> rfl
    · exact ih u h
theorem HrsIn.src {w : World} {b off : Nat} {l : List Hr} (h : HrsIn w b off l) : ∀ j u, (flatH l)[j]? = some u → w.cell? ⟨b, off + j, none⟩ = some u := by
  intro j u hu
  have hj : j < l.length * 4 := by
    rw [← flatH_length]
    rcases Nat.lt_or_ge j (flatH l).length with h | h
    · exact h
    · rw [List.getElem?_eq_none h] at hu; cases hu
  obtain ⟨i, r, hr, rfl⟩ : ∃ i r, r < 4 ∧ j = i * 4 + r := ⟨j / 4, j % 4, by omega, by omega⟩
  have hi : i < l.length := by omega
  rw [flatH_get l i r hi hr] at hu
  obtain ⟨h_id, h_ps, h_ov, h_un⟩ := h i hi
  rw [← Nat.add_assoc]
  obtain rfl | rfl | rfl | rfl : r = 0 ∨ r = 1 ∨ r = 2 ∨ r = 3 := by omega
  · exact h_id.trans hu
  · exact h_ps.trans hu
  · exact h_ov.trans hu
  · exact h_un.trans hu
theorem hrsIn_src {w : World} {b off : Nat} {l : List Hr} (h : ∀ j u, (flatH l)[j]? = some u → w.cell? ⟨b, off + j, none⟩ = some u) : HrsIn w b off l := by
  intro i hi
  have hg := fun j hj u => h (i * 4 + j) u ∘ (flatH_get l i j hi hj).trans
  simp only [← Nat.add_assoc] at hg
  exact ⟨hg 0 (by omega) _ rfl, hg 1 (by omega) _ rfl, hg 2 (by omega) _ rfl, hg 3 (by omega) _ rfl⟩

/-- Holds that a slice leads to. -/
def HoldsAt (w : World) (a : Option Addr) (c : Nat) (l : List Hd) : Prop := ∃ rs : List Hr, l = rs.map Hr.x ∧ HrsAt w a rs ∧ (∀ r ∈ rs, r.Ok w) ∧ (a = none → c = 0) ∧ l.length ≤ c ∧ c ≤ 9223372036854775807
theorem HoldsAt.turn0 {w w' : World} {a : Option Addr} {c : Nat} {l : List Hd} (h : HoldsAt w a c l) (hT : Turn [] w w') : HoldsAt w' a c l := by
  obtain ⟨rs, h1, h2, h3, h4⟩ := h
  exact ⟨rs, h1, h2.turn0 hT, fun r hr => (h3 r hr).turn0 hT, h4⟩
theorem HoldsAt.nil (w : World) : HoldsAt w none 0 [] := ⟨[], rfl, .inl rfl, by simp, fun _ => rfl, by simp, by omega⟩
theorem map_getD (rs : List Hr) (i : Nat) : (rs.map Hr.x).getD i Hd.nil = (rs.getD i Hr.nil).x := by
  rw [List.getD_eq_getElem?_getD, List.getD_eq_getElem?_getD, List.getElem?_map]
  cases rs[i]? <;> rfl
theorem mem_getD' {l : List Hr} {i : Nat} (h : i < l.length) : l.getD i Hr.nil ∈ l := by
  rw [List.getD_eq_getElem?_getD, List.getElem?_eq_getElem h]
  exact List.getElem_mem h

theorem own_keepS {S : List Nat} {w w' : World} {base e m n : Nat} {v : Value} {cs : List Value} (h : w.ownsRow base e m v n cs) (hT : Turn S w w') (hS : ∀ q, v.ownBlock = some q → q ∉ S) : w'.ownsRow base e m v n cs := by
  obtain ⟨hl, h | ⟨g, cap, cur, rfl, hb, hg, rest⟩⟩ := h
  · exact ⟨hl, .inl h⟩
  · have hlt : g < w.heap.size := by
      rcases Nat.lt_or_ge g w.heap.size with h | h
      · exact h
      · rw [Array.getElem?_eq_none h] at hg; cases hg
    exact ⟨hl, .inr ⟨g, cap, cur, rfl, hb, (hT.block g hlt (hS g rfl)).trans hg, rest⟩⟩
theorem own_ge {w : World} {base e m n : Nat} {v : Value} {cs : List Value} (h : w.ownsRow base e m v n cs) {q : Nat} (hq : v.ownBlock = some q) : base ≤ q ∧ q < w.heap.size := by
  obtain ⟨hl, ⟨rfl, _⟩ | ⟨g, cap, cur, rfl, hb, hg, rest⟩⟩ := h
  · cases hq
  · have hlt : g < w.heap.size := by
      rcases Nat.lt_or_ge g w.heap.size with h | h
      · exact h
      · rw [Array.getElem?_eq_none h] at hg; cases hg
    simp only [Value.ownBlock, Option.some.injEq] at hq
    omega
theorem Turn.new {u w : World} (h : Turn [] u w) {b : Nat} (hb : u.heap.size ≤ b) (o : Nat) (v : Value) : Turn [] u (w.setCell ⟨b, o, none⟩ v) :=
  ⟨h.os, h.tape, h.output, by rw [World.size_setCell]; exact h.size, fun i hi hn => (Below.heap_setCell w ⟨b, o, none⟩ v i (fun e => by change i = b at e; omega)).trans (h.block i hi hn)⟩

/-- A row of holds of the call's own, still to be made longer. -/
structure Own (w : World) (base : Nat) (v : Value) (rs : List Hr) : Prop where
  row : w.ownsRow base 27 4 v rs.length (flatH rs)
  ok : ∀ r ∈ rs, r.Ok w
  off : ∀ q, v.ownBlock = some q → ∀ r ∈ rs, ∀ x, r.a = some x → r.x.ps ≠ [] → x.block ≠ q

theorem Own.nil (w : World) (base : Nat) : Own w base (.slice none 0 0) [] := ⟨World.ownsRow_nil _ _ _ _, by simp, by simp⟩

theorem Own.turn {w w' : World} {base : Nat} {v : Value} {rs : List Hr} (h : Own w base v rs) (hT : Turn [] w w') : Own w' base v rs := ⟨own_keepS h.row hT (by simp), fun r hr => (h.ok r hr).turn0 hT, h.off⟩

theorem Own.holds {w : World} {base : Nat} {v : Value} {rs : List Hr} (h : Own w base v rs) : ∃ a c, v = .slice a rs.length c ∧ HoldsAt w a c (rs.map Hr.x) := by
  obtain ⟨a, cap, rfl, h1, h2, h3, h4⟩ := own_row h.row
  refine ⟨a, cap, rfl, rs, rfl, ?_, h.ok, h1, by rw [List.length_map]; exact h3.1, h3.2⟩
  rcases h2 with h2 | ⟨g, rfl⟩
  · exact .inl (List.eq_nil_of_length_eq_zero (by have := congrArg List.length h2; rw [flatH_length] at this; simp at this; omega))
  · exact .inr ⟨g, 0, rfl, hrsIn_src (h4 _ rfl).2.2.2.2⟩

/-- A row that was made longer: what is known of it behind that. -/
theorem Own.more {w wa w' : World} {base : Nat} {v v' : Value} {rs ts : List Hr} (h : Own w base v rs) (hT : Turn [] w wa) (hts : ∀ r ∈ ts, r.Ok w ∧ ∀ q, v.ownBlock = some q → ∀ x, r.a = some x → r.x.ps ≠ [] → x.block ≠ q)
    (hown : w'.ownsRow base 27 4 v' (rs ++ ts).length (flatH (rs ++ ts))) (hgr : wa.grownBy w' v.ownBlock) (hb : v'.ownBlock = v.ownBlock ∨ v'.ownBlock = some wa.heap.size) : Own w' base v' (rs ++ ts) := by
  have hall : ∀ r ∈ rs ++ ts, r.Ok w ∧ ∀ q, v.ownBlock = some q → ∀ x, r.a = some x → r.x.ps ≠ [] → x.block ≠ q := fun r hr => by
    rcases List.mem_append.1 hr with hr | hr
    · exact ⟨h.ok r hr, fun q hq => h.off q hq r hr⟩
    · exact hts r hr
  refine ⟨hown, fun r hr => ?_, fun q hq r hr x hx hp => ?_⟩
  · obtain ⟨h1, h2⟩ := hall r hr
    have h1 := h1.turn0 hT
    refine ⟨?_, h1.2⟩
    rcases h1.1 with h3 | ⟨b, off, hb, h3⟩
    · exact .inl h3
    · by_cases hp : r.x.ps = []
      · exact .inl hp
      have hbq : some b ≠ v.ownBlock := fun e => h2 b e.symm _ hb hp rfl
      have hlt := lt_of_cell (h3 0 (List.length_pos_iff.2 hp)).1
      have hbl := hgr.block b hlt hbq
      exact .inr ⟨b, off, hb, fun i hi => ⟨(World.cell?_of_block (a := ⟨b, off + i * 2, none⟩) hbl).trans (h3 i hi).1, (World.cell?_of_block (a := ⟨b, off + i * 2 + 1, none⟩) hbl).trans (h3 i hi).2⟩⟩
  · obtain ⟨h1, h2⟩ := hall r hr
    rcases hb with hb | hb
    · exact h2 q (hb.symm.trans hq) x hx hp
    · rw [hb] at hq
      have := (h1.turn0 hT).lt hx hp
      have := Option.some.inj hq
      omega

theorem info_hold : (Try.prog.info? 27).map (fun i => (i.zero, i.size, i.bytes)) = some (some (hrV Hr.nil), 4, 48) := by kernel_rfl

/-- append of one hold. -/
theorem append_hold {ops : Array Oper} {rest : List Oper} {o : Oper} {a : Act} {Q : Exit → Act → World → Prop} {w : World} (hgd : o.guard = none) (s x : Operand)
    (ho : o.op = .call { callee := .builtin .append, args := #[s, x], argTypes := #[24, 24] }) (base : Nat) (v : Value) (rs : List Hr) (r : Hr) (hs : a.eval s = v) (hown : Own w base v rs) (b0 : Nat) (hb0 : b0 = w.heap.size) (hx : a.eval x = .slice (some ⟨b0, 0, none⟩) 1 1) (hb : rs.length < 1000000) (hbase : base ≤ w.heap.size)
    (hr : r.Ok w) (hrq : ∀ q, v.ownBlock = some q → ∀ x, r.a = some x → r.x.ps ≠ [] → x.block ≠ q)
    (h : ∀ v' w', Own w' base v' (rs ++ [r]) → (∀ u : World, u.heap.size ≤ base → Turn [] u w → Turn [] u w') → wpList Try.prog ops Q rest (a.put o.dst v') w') :
    wpList Try.prog ops Q (o :: rest) a (w.alloc (.cells #[.int .i64 r.x.id, .slice r.a r.x.ps.length r.c, .int .i64 r.x.ov, .int .i64 r.x.un] 27)) := by
  subst hb0
  obtain ⟨i0, hi, hz0, hz1, hz2⟩ := info_parts info_hold
  have hTa : Turn [] w (w.alloc (.cells #[.int .i64 r.x.id, .slice r.a r.x.ps.length r.c, .int .i64 r.x.ov, .int .i64 r.x.un] 27)) := (Turn.refl [] w).alloc _
  have hown' := own_keepS hown.row hTa (by simp)
  refine wpList_append_own_at _ hgd s x 24 ho base 27 i0 (hrV Hr.nil) 4 48 Try.underlying24 hi hz0 hz1 hz2 rfl (by decide) v rs.length (flatH rs) hs hown' ⟨w.heap.size, 0, none⟩ 1 1 (hrC r) hx rfl (fun j u hj => ?_) (fun u hu => flatH_one [r] u (by simpa [flatH] using hu)) (by unfold maxLen; omega) (by omega) (by simp; omega) ?_
  · rw [add_spot, Nat.zero_add, World.cell?_alloc_at _ _ _ _ rfl]
    simpa [hrC] using hj
  · intro v' w' h1 h2 _ h4
    have h1' : w'.ownsRow base 27 4 v' (rs ++ [r]).length (flatH (rs ++ [r])) := by
      rw [List.length_append, flatH_append, show flatH [r] = hrC r by simp [flatH]]
      exact h1
    refine h v' w' (hown.more hTa (fun t ht => ?_) h1' h2 h4) fun u hu hT => (hT.trans hTa).grown h2 fun k hk => .inr (by have := own_ge hown.row hk; omega)
    obtain rfl := List.mem_singleton.1 ht
    exact ⟨hr, hrq⟩

end Go.Proofs.Ytajnhdlefpeclaa.Ho
