/-
  Rows of rows of parts, in memory.
-/
import Derived.Test.YtegbinlpojpffaaLTake
import Derived.Deep.RegionHeld3
namespace Go.Proofs.Ytegbinlpojpffaa
open Go.RowKit Go.Maps Lo

/-- A row of parts with where it lies. -/
structure Pr where
  a : Option Addr
  c : Nat
  p : List (Int × Int)
def Pr.nil : Pr := ⟨none, 0, []⟩
abbrev prV (r : Pr) : Value := .slice r.a r.p.length r.c
def Pr.Ok (w : World) (r : Pr) : Prop := PartsAt w r.a r.p
theorem Pr.Ok.lt {w : World} {r : Pr} (h : r.Ok w) {x : Addr} (hx : r.a = some x) (hp : r.p ≠ []) : x.block < w.heap.size := by
  rcases h with h | ⟨b, off, hb, h⟩
  · exact absurd h hp
  · rw [hb] at hx
    obtain rfl := Option.some.inj hx
    exact lt_of_cell (h 0 (List.length_pos_iff.2 hp)).1
def flatR (rs : List Pr) : List Value := rs.map prV
theorem flatR_one (rs : List Pr) : ∀ u ∈ flatR rs, u.oneCell' = true := fun u hu => by
  obtain ⟨r, _, rfl⟩ := List.mem_map.1 hu
  rfl
theorem flatR_length (rs : List Pr) : (flatR rs).length = rs.length * 1 := by simp [flatR]

/-- A row of them, of the call's own. -/
structure OwnR (w : World) (base : Nat) (v : Value) (rs : List Pr) : Prop where
  row : w.ownsRow base 38 1 v rs.length (flatR rs)
  ok : ∀ r ∈ rs, r.Ok w
  off : ∀ q, v.ownBlock = some q → ∀ r ∈ rs, ∀ x, r.a = some x → r.p ≠ [] → x.block ≠ q
theorem OwnR.nil (w : World) (base : Nat) : OwnR w base (.slice none 0 0) [] := ⟨World.ownsRow_nil _ _ _ _, by simp, by simp⟩
theorem OwnR.turn {w w' : World} {base : Nat} {v : Value} {rs : List Pr} (h : OwnR w base v rs) (hT : Turn [] w w') : OwnR w' base v rs := ⟨own_keep h.row hT, fun r hr => (h.ok r hr).turn0 hT, h.off⟩
theorem OwnR.at {w : World} {base : Nat} {v : Value} {rs : List Pr} (h : OwnR w base v rs) : ∃ a c, v = .slice a rs.length c ∧ (a = none → c = 0) ∧ rs.length ≤ c ∧ c ≤ 9223372036854775807 ∧ ∀ k, k < rs.length → ∃ g, a = some ⟨g, 0, none⟩ ∧ base ≤ g ∧ g < w.heap.size ∧ w.cell? ⟨g, k, none⟩ = some (prV (rs.getD k Pr.nil)) := by
  obtain ⟨a, cap, rfl, h1, h2, h3, h4⟩ := own_row h.row
  refine ⟨a, cap, rfl, h1, h3.1, h3.2, fun k hk => ?_⟩
  rcases h2 with h2 | ⟨g, rfl⟩
  · have := congrArg List.length h2
    rw [flatR_length] at this
    simp at this
    rw [this] at hk
    simp at hk
  · obtain ⟨_, e2, e3, _, e5⟩ := h4 _ rfl
    refine ⟨g, rfl, e2, e3, ?_⟩
    have := e5 k (prV (rs.getD k Pr.nil)) (by
      unfold flatR
      rw [List.getElem?_map, List.getD_eq_getElem?_getD, List.getElem?_eq_getElem hk]
      rfl)
    rw [Nat.zero_add] at this
    exact this
theorem OwnR.more {w wa w' : World} {base base' : Nat} {v v' : Value} {rs ts : List Pr} (h : OwnR w base v rs) (hT : Turn [] w wa) (hts : ∀ r ∈ ts, r.Ok w ∧ ∀ q, v.ownBlock = some q → ∀ x, r.a = some x → r.p ≠ [] → x.block ≠ q)
    (hown : w'.ownsRow base' 38 1 v' (rs ++ ts).length (flatR (rs ++ ts))) (hgr : wa.grownBy w' v.ownBlock) (hb : v'.ownBlock = v.ownBlock ∨ v'.ownBlock = some wa.heap.size) : OwnR w' base' v' (rs ++ ts) := by
  have hall : ∀ r ∈ rs ++ ts, r.Ok w ∧ ∀ q, v.ownBlock = some q → ∀ x, r.a = some x → r.p ≠ [] → x.block ≠ q := fun r hr => by
    rcases List.mem_append.1 hr with hr | hr
    · exact ⟨h.ok r hr, fun q hq => h.off q hq r hr⟩
    · exact hts r hr
  refine ⟨hown, fun r hr => ?_, fun q hq r hr x hx hp => ?_⟩
  · obtain ⟨h1, h2⟩ := hall r hr
    rcases h1.turn0 hT with h3 | ⟨b, off, hb, h3⟩
    · exact .inl h3
    · by_cases hp : r.p = []
      · exact .inl hp
      have hbq : some b ≠ v.ownBlock := fun e => h2 b e.symm _ hb hp rfl
      have hlt := lt_of_cell (h3 0 (List.length_pos_iff.2 hp)).1
      have hbl := hgr.block b hlt hbq
      exact .inr ⟨b, off, hb, fun i hi => ⟨(World.cell?_of_block (a := ⟨b, off + i * 2, none⟩) hbl).trans (h3 i hi).1, (World.cell?_of_block (a := ⟨b, off + i * 2 + 1, none⟩) hbl).trans (h3 i hi).2⟩⟩
  · obtain ⟨h1, h2⟩ := hall r hr
    rcases hb with hb | hb
    · exact h2 q (hb.symm.trans hq) x hx hp
    · rw [hb] at hq
      have := Pr.Ok.lt (w := wa) (r := r) (h1.turn0 hT) hx hp
      have := Option.some.inj hq
      omega

theorem info_parts_row : (Try.prog.info? 38).map (fun i => (i.zero, i.size, i.bytes)) = some (some (.slice none 0 0), 1, 24) := by kernel_rfl

/-- append of one row of parts. -/
theorem append_prow {ops : Array Oper} {rest : List Oper} {o : Oper} {a : Act} {Q : Exit → Act → World → Prop} {w : World} (hgd : o.guard = none) (s x : Operand)
    (ho : o.op = .call { callee := .builtin .append, args := #[s, x], argTypes := #[35, 35] }) (base : Nat) (v : Value) (rs : List Pr) (r : Pr) (hs : a.eval s = v) (hown : OwnR w base v rs) (b0 : Nat) (hb0 : b0 = w.heap.size) (hx : a.eval x = .slice (some ⟨b0, 0, none⟩) 1 1) (hb : rs.length < 1000000) (hbase : base ≤ w.heap.size)
    (hr : r.Ok w) (hrq : ∀ q, v.ownBlock = some q → ∀ x, r.a = some x → r.p ≠ [] → x.block ≠ q)
    (h : ∀ v' w', OwnR w' base v' (rs ++ [r]) → w.grownBy w' v.ownBlock → (∀ q, v'.ownBlock = some q → v.ownBlock = some q ∨ w.heap.size ≤ q) → wpList Try.prog ops Q rest (a.put o.dst v') w') :
    wpList Try.prog ops Q (o :: rest) a (w.alloc (.cells #[.slice r.a r.p.length r.c] 38)) := by
  subst hb0
  obtain ⟨i0, hi, hz0, hz1, hz2⟩ := info_parts info_parts_row
  have hTa : Turn [] w (w.alloc (.cells #[.slice r.a r.p.length r.c] 38)) := (Turn.refl [] w).alloc _
  refine wpList_append_own_at _ hgd s x 35 ho base 38 i0 (.slice none 0 0) 1 24 Try.underlying35 hi hz0 hz1 hz2 rfl (by decide) v rs.length (flatR rs) hs (own_keep hown.row hTa) ⟨w.heap.size, 0, none⟩ 1 1 [prV r] hx rfl (cell_one_new _ _ _) (by simp [Value.oneCell']) (by unfold maxLen; omega) (by omega) (by simp; omega) ?_
  intro v' w' h1 h2 _ h4
  have h1' : w'.ownsRow base 38 1 v' (rs ++ [r]).length (flatR (rs ++ [r])) := by
    rw [List.length_append, show flatR (rs ++ [r]) = flatR rs ++ [prV r] by simp [flatR]]
    exact h1
  refine h v' w' (hown.more hTa (fun t ht => ?_) h1' h2 h4) ⟨h2.os, h2.tape, h2.output, Nat.le_trans hTa.size h2.size, fun k hk hne => (h2.block k (Nat.lt_of_lt_of_le hk hTa.size) hne).trans (hTa.block k hk (by simp))⟩ (fun q hq => by
    rcases h4 with e | e
    · exact .inl (e.symm.trans hq)
    · rw [e] at hq
      have h5 := Option.some.inj hq
      have h6 := hTa.size
      exact .inr (by omega))
  obtain rfl := List.mem_singleton.1 ht
  exact ⟨hr, hrq⟩

theorem lots_grown {w w' : World} {a : Option Addr} {l : List Lt} {row : Option Nat} (h : LotsAt w a l) (hg : w.grownBy w' row) (hne : ∀ q, row = some q → ∀ x, a = some x → l ≠ [] → x.block ≠ q) : LotsAt w' a l := by
  rcases h with rfl | ⟨b, off, rfl, h⟩
  · exact .inl rfl
  · by_cases hl : l = []
    · exact .inl hl
    · have hb := (h 0 (List.length_pos_iff.2 hl)).lt
      have hbl := hg.block b hb (fun e => hne b e.symm _ rfl hl rfl)
      exact .inr ⟨b, off, rfl, fun i hi => (h i hi).keep hbl⟩

/-- The row up to k, and from k on. -/
theorem prow_lo (a : Option Addr) (n c k : Nat) (w : World) (hk : k ≤ c) : (Instr.slice 35 (.slice a n c) none (some (.int .i64 (k : Nat))) none).run Try.prog w = .ok (.slice a k c) w := by
  rw [run_slice_h w 35 a n c (by kernel_rfl) .i64 k (by omega) (by omega)]
  have hs : (sizeOf (Try.prog.elem 35)).run Try.prog w = .ok 1 w := by go_simp
  rw [hs]
  simp only [Result.andThen, sliced, Int.toNat_natCast, Nat.zero_mul, Nat.sub_zero]
  congr 2
  split
  · rfl
  · cases a <;> rfl
def hiP (x : Addr) (c k : Nat) : Addr := if c = k then x else x.add k
theorem prow_hi (x : Addr) (n c k : Nat) (w : World) (hk : k + 1 ≤ n) : (Instr.slice 35 (.slice (some x) n c) (some (.int .i64 ((k : Int) + 1))) none none).run Try.prog w = .ok (.slice (some (hiP x c (k + 1))) (n - (k + 1)) (c - (k + 1))) w := by
  rw [run_slice_l w 35 (some x) n c (by kernel_rfl) .i64 ((k : Int) + 1) (by omega) (by omega)]
  have hs : (sizeOf (Try.prog.elem 35)).run Try.prog w = .ok 1 w := by go_simp
  rw [hs]
  have e : ((k : Int) + 1).toNat = k + 1 := by omega
  simp only [Result.andThen, sliced, e, Nat.mul_one, hiP]
  congr 2
  split <;> rfl

/-- append as one operation. -/
theorem oper_append {P : Program} {o : Oper} {a : Act} {w w' : World} {K : Act → World → Prop} {Q : Exit → Act → World → Prop} (s x : Operand) (t : TypeId) (v vx v' : Value) (ho : o.op = .call { callee := .builtin .append, args := #[s, x], argTypes := #[t, t] }) (hs : a.eval s = v) (hx : a.eval x = vx) (hr : (Builtin.append_ #[t, t] o.type #[v, vx]).run P w = .ok v' w') (h : K (a.put o.dst v') w') : Oper.wp P o a w K Q := by
  unfold Oper.wp execOp
  simp only [ho, resolve, invoke, builtin, Sem.run_bind, Sem.run_pure, Result.andThen_ok, List.map_toArray, List.map_cons, List.map_nil, hs, hx, hr]
  exact h

/-- One of the rows is left out: what the two appends do. -/
theorem cut_rows (w : World) (base g c : Nat) (rs : List Pr) (i : Nat) (h : OwnR w base (.slice (some ⟨g, 0, none⟩) rs.length c) rs) (hi : i < rs.length) (hl : rs.length ≤ 1000) (hb : base ≤ w.heap.size) :
    ∃ v1 w1 v2 w2, (Builtin.append_ #[35, 35] 35 #[.slice (some ⟨w.heap.size, 0, none⟩) 0 0, .slice (some ⟨g, 0, none⟩) i c]).run Try.prog (w.alloc (.cells #[] 38)).drew = .ok v1 w1 ∧
      (Builtin.append_ #[35, 35] 35 #[v1, .slice (some (hiP ⟨g, 0, none⟩ c (i + 1))) (rs.length - (i + 1)) (c - (i + 1))]).run Try.prog w1 = .ok v2 w2 ∧
      OwnR w2 base v2 (rs.take i ++ rs.drop (i + 1)) ∧ Turn [] w w2 ∧ ∀ q, v2.ownBlock = some q → w.heap.size ≤ q := by
  obtain ⟨i0, hi0, hz0, hz1, hz2⟩ := info_parts info_parts_row
  have hTW : Turn [] w (w.alloc (.cells #[] 38)).drew := ((Turn.refl [] w).alloc _).drew
  have hsW : (w.alloc (.cells #[] 38)).drew.heap.size = w.heap.size + 1 := by
    show (w.alloc (.cells #[] 38)).heap.size = _
    simp
  generalize hWe : (w.alloc (.cells #[] 38)).drew = W at *
  have hown0 : W.ownsRow base 38 1 (.slice (some ⟨w.heap.size, 0, none⟩) 0 0) 0 (flatR []) := by
    rw [← hWe]
    exact own_keep (World.ownsRow_lit w #[] 0 hb (by unfold maxLen; omega) (by simp)) ((Turn.refl [] _).drew)
  have hR0 : OwnR W base (.slice (some ⟨w.heap.size, 0, none⟩) 0 0) [] := ⟨hown0, by simp, by simp⟩
  obtain ⟨a', c', he, _, hc1, _, hat⟩ := h.at
  injection he with he1 he2 he3
  subst he1 he3
  have hcell : ∀ j, j < rs.length → w.cell? ⟨g, j, none⟩ = some (prV (rs.getD j Pr.nil)) := fun j hj => by
    obtain ⟨g', hg', _, _, hc'⟩ := hat j hj
    have := congrArg Addr.block (Option.some.inj hg')
    simp only at this
    subst this
    exact hc'
  have hgw : g < w.heap.size := lt_of_cell (hcell i hi)
  have hget : ∀ (l : List Pr) j u, (flatR l)[j]? = some u → j < l.length ∧ u = prV (l.getD j Pr.nil) := fun l j u hu => by
    unfold flatR at hu
    rw [List.getElem?_map] at hu
    rcases Nat.lt_or_ge j l.length with hj | hj
    · rw [List.getElem?_eq_getElem hj] at hu
      refine ⟨hj, ?_⟩
      rw [List.getD_eq_getElem?_getD, List.getElem?_eq_getElem hj]
      exact (Option.some.inj hu).symm
    · rw [List.getElem?_eq_none hj] at hu
      cases hu
  obtain ⟨v1, w1, hr1, hown1, hgr1, _, hb1⟩ := run_append_own_at (P := Try.prog) W base 35 35 38 i0 (.slice none 0 0) 1 24 Try.underlying35 hi0 hz0 hz1 hz2 rfl (by decide) _ 0 (flatR []) hown0 ⟨g, 0, none⟩ i c (flatR (rs.take i)) (by rw [flatR_length, List.length_take]; omega) (fun j u hu => by
      obtain ⟨hj, rfl⟩ := hget _ j u hu
      rw [List.length_take] at hj
      rw [add_spot, Nat.zero_add, hTW.cell (p := ⟨g, j, none⟩) hgw (by simp), hcell j (by omega), List.getD_eq_getElem?_getD, List.getD_eq_getElem?_getD, List.getElem?_take, if_pos (by omega)]) (flatR_one _) (by unfold maxLen; omega) (by omega) (by omega)
  have hT1 : Turn [] w w1 := hTW.grown hgr1 (fun q hq => .inr (by simp only [Value.ownBlock, Option.some.injEq] at hq; omega))
  have hR1 : OwnR w1 base v1 (rs.take i) := by
    have h1 : w1.ownsRow base 38 1 v1 ([] ++ rs.take i).length (flatR ([] ++ rs.take i)) := by
      rw [List.nil_append, List.length_take, show min i rs.length = 0 + i by omega]
      exact hown1
    have := hR0.more (Turn.refl [] W) (ts := rs.take i) (fun r hr => ⟨(h.ok r (List.mem_of_mem_take hr)).turn0 hTW, fun q hq x hx hp => by
      simp only [Value.ownBlock, Option.some.injEq] at hq
      have := (h.ok r (List.mem_of_mem_take hr)).lt hx hp
      omega⟩) h1 hgr1 hb1
    rw [List.nil_append] at this
    exact this
  have hq1 : ∀ q, v1.ownBlock = some q → w.heap.size ≤ q := fun q hq => by
    rcases hb1 with e | e
    · rw [e] at hq
      simp only [Value.ownBlock, Option.some.injEq] at hq
      omega
    · rw [e] at hq
      have := Option.some.inj hq
      omega
  obtain ⟨v2, w2, hr2, hown2, hgr2, _, hb2⟩ := run_append_own_at (P := Try.prog) w1 base 35 35 38 i0 (.slice none 0 0) 1 24 Try.underlying35 hi0 hz0 hz1 hz2 rfl (by decide) _ (rs.take i).length (flatR (rs.take i)) hR1.row (hiP ⟨g, 0, none⟩ c (i + 1)) (rs.length - (i + 1)) (c - (i + 1)) (flatR (rs.drop (i + 1))) (by rw [flatR_length, List.length_drop]) (fun j u hu => by
      obtain ⟨hj, rfl⟩ := hget _ j u hu
      rw [List.length_drop] at hj
      have e : hiP ⟨g, 0, none⟩ c (i + 1) = ⟨g, i + 1, none⟩ := by
        unfold hiP
        rw [if_neg (by omega), add_spot, Nat.zero_add]
      rw [e, add_spot, hT1.cell (p := ⟨g, i + 1 + j, none⟩) hgw (by simp), hcell (i + 1 + j) (by omega), List.getD_eq_getElem?_getD, List.getD_eq_getElem?_getD, List.getElem?_drop]) (flatR_one _) (by rw [List.length_take]; unfold maxLen; omega) (by rw [List.length_take]; omega) (by have := hT1.size; omega)
  refine ⟨v1, w1, v2, w2, hr1, hr2, ?_, hT1.grown hgr2 (fun q hq => .inr (hq1 q hq)), fun q hq => ?_⟩
  · have h2 : w2.ownsRow base 38 1 v2 (rs.take i ++ rs.drop (i + 1)).length (flatR (rs.take i ++ rs.drop (i + 1))) := by
      rw [List.length_append, List.length_drop, show flatR (rs.take i ++ rs.drop (i + 1)) = flatR (rs.take i) ++ flatR (rs.drop (i + 1)) by simp [flatR]]
      exact hown2
    exact hR1.more (Turn.refl [] w1) (fun r hr => ⟨(h.ok r (List.mem_of_mem_drop hr)).turn0 hT1, fun q hq x hx hp => by
      have h3 := (h.ok r (List.mem_of_mem_drop hr)).lt hx hp
      have h4 := hq1 q hq
      omega⟩) h2 hgr2 hb2
  · rcases hb2 with e | e
    · exact hq1 q (e.symm.trans hq)
    · rw [e] at hq
      have h3 := Option.some.inj hq
      have h4 := hT1.size
      omega

end Go.Proofs.Ytegbinlpojpffaa
