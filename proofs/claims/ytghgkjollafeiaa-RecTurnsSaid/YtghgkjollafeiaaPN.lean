/-
  The law's plain, walked.
-/
import Derived.Test.YtghgkjollafeiaaAQ
import Derived.Test.YtghgkjollafeiaaRT
import Derived.Laws.AppendOwnNone
import Derived.Maps.AppendAt
namespace Go.Proofs.Ytghgkjollafeiaa
open Go.RowKit

theorem info_stm : (Try.prog.info? 40).map (·.size) = some 9 := by kernel_rfl
theorem store_stm {ops : Array Oper} {rest : List Oper} {dst : Option Tmp} {ty : TypeId} {pos : String} {after : Array Edge} {a : Act} {w : World} {Q : Exit → Act → World → Prop} (x y : Tmp) (b off : Nat) (cs : List Value) (hl : cs.length = 9) (h1 : One cs)
    (hx : a.eval (.tmp x) = .pointer (some ⟨b, off, none⟩)) (hy : a.eval (.tmp y) = .agg cs.toArray) (ht : w.there b off 9)
    (h : wpList Try.prog ops Q rest (a.put dst undef) (w.setCells b off cs)) : wpList Try.prog ops Q (⟨dst, .store 40 (.tmp x) (.tmp y), ty, pos, after, none⟩ :: rest) a w :=
  wpList_store_mid rfl 40 (.tmp x) (.tmp y) rfl b off cs.toArray hx hy (by rw [List.size_toArray, hl]; exact ht) (by rw [info_stm, List.size_toArray, hl]) (all_oneCell_toArray h1) h
theorem results_acc1 {fn : Func} {i : Nat} (h : fn.results = #[.cell i 28]) {tmps : Array Value} {w : World} {g : Nat} {cs : List Value} (hl : cs.length = 20) (h4 : tmps.getD i undef = .pointer (some ⟨g, 0, none⟩)) (hr : w.rangeAt g 0 cs) :
    (results fn tmps).run Try.prog w = .ok (.agg cs.toArray) w := by
  have h4' : tmps[i]?.getD undef = .pointer (some ⟨g, 0, none⟩) := by simpa using h4
  obtain ⟨d, k1, k2⟩ := und_acc
  have hv : (loadVar 28 ⟨g, 0, none⟩).run Try.prog w = .ok (.agg cs.toArray) w := run_loadVar_mid w g 0 _ cs d hr k1 k2 (by rw [info_acc, hl])
  simp [results, h, h4', asAddr, hv]
theorem ent_one (d : EntD) : One (entC d) := by
  intro v hv
  simp only [entC, intC, List.mem_cons, List.mem_append, List.mem_map] at hv
  rcases hv with rfl | rfl | ⟨x, _, rfl⟩ | rfl | ⟨x, _, rfl⟩ <;> rfl

/-- An append of a row of entries to an empty row of the call's own. -/
theorem append_win {ops : Array Oper} {rest : List Oper} {o : Oper} {a : Act} {Q : Exit → Act → World → Prop} {w : World} (hgd : o.guard = none) (s x : Operand)
    (ho : o.op = .call { callee := .builtin .append, args := #[s, x], argTypes := #[26, 26] }) (base : Nat) (v : Value) (ts : List EntD) (a2 : Option Addr) (c2 : Nat) (hs : a.eval s = v) (hown : w.ownsRow base 69 14 v 0 []) (hx : a.eval x = .slice a2 ts.length c2) (hR : RowsAt w (.slice a2 ts.length c2) 14 (ts.map entC)) (hnil : a2 = none → c2 = 0) (hb : ts.length ≤ 100000) (hbase : base ≤ w.heap.size)
    (h : ∀ v' w', w'.ownsRow base 69 14 v' ts.length (ts.map entC).flatten → w.grownBy w' v.ownBlock → wpList Try.prog ops Q rest (a.put o.dst v') w') :
    wpList Try.prog ops Q (o :: rest) a w := by
  obtain ⟨i0, hi, hz0, hz1, hz2⟩ := info_parts info_entry
  obtain ⟨a', cap', e', _, _, hl, hA⟩ := hR
  injection e' with e1 _ _
  subst e1
  have hfl : (ts.map entC).flatten.length = ts.length * 14 := by rw [flatten_len _ hl, List.length_map]
  have hone : ∀ u ∈ (ts.map entC).flatten, u.oneCell' = true := fun u hu => by
    obtain ⟨l, hl1, hl2⟩ := List.mem_flatten.1 hu
    obtain ⟨d, _, rfl⟩ := List.mem_map.1 hl1
    exact ent_one d u hl2
  have go : ∀ ad : Addr, a2 = some ad → (∀ j u, (ts.map entC).flatten[j]? = some u → w.cell? (ad.add j) = some u) → wpList Try.prog ops Q (o :: rest) a w := fun ad e hn => by
    subst e
    refine wpList_append_own_at _ hgd s x 26 ho base 69 i0 _ 14 _ Try.underlying26 hi hz0 hz1 hz2 rfl (by decide) v 0 [] hs hown ad ts.length c2 (ts.map entC).flatten hx hfl hn hone (by unfold maxLen; omega) (by omega) hbase ?_
    intro v' w' h1 h2 _ _
    rw [Nat.zero_add, List.nil_append] at h1
    exact h v' w' h1 h2
  cases a2 with
  | none =>
    obtain rfl := hnil rfl
    have hts : ts = [] := by
      rcases hA with h | ⟨b, off, hb, _⟩
      · exact List.map_eq_nil_iff.1 h
      · cases hb
    subst hts
    refine wpList_append_own_none hgd s x 26 ho base 69 i0 14 Try.underlying26 hi v 0 [] hs hown hx ?_
    exact h v w hown ⟨rfl, rfl, rfl, Nat.le_refl _, fun _ _ _ => rfl⟩
  | some ad =>
    rcases hA with h0 | ⟨b, off, hb, hA⟩
    · exact go ad rfl (by rw [h0]; simp)
    · obtain rfl := Option.some.inj hb
      exact go _ rfl fun j u hj => by rw [Addr.add_mid]; exact hA j u hj

/-- Entries of which the first ones are plain. -/
def mixE (l : List EntD) (j : Nat) : List EntD := (l.take j).map plainE ++ l.drop j
theorem mixE_len (l : List EntD) (j : Nat) (hj : j ≤ l.length) : (mixE l j).length = l.length := by
  unfold mixE
  rw [List.length_append, List.length_map, List.length_take, List.length_drop]
  omega
theorem mixE_zero (l : List EntD) : mixE l 0 = l := by simp [mixE]
theorem mixE_all (l : List EntD) : mixE l l.length = l.map plainE := by simp [mixE]
theorem mixE_at (l : List EntD) (j : Nat) (hj : j < l.length) : mixE l j = (l.take j).map plainE ++ l[j] :: l.drop (j + 1) := by
  unfold mixE
  rw [List.getElem_cons_drop hj]
theorem mixE_next (l : List EntD) (j : Nat) (hj : j < l.length) : mixE l (j + 1) = (l.take j).map plainE ++ plainE l[j] :: l.drop (j + 1) := by
  unfold mixE
  rw [List.take_succ_eq_append_getElem hj, List.map_append, List.append_assoc]
  rfl
theorem plainE_len {d : EntD} (h : d.l.length = 3 ∧ d.xs.length = 8) : (plainE d).l.length = 3 ∧ (plainE d).xs.length = 8 := by
  unfold plainE
  split
  · exact ⟨h.1, rfl⟩
  · exact h
def zstm : List Value := .string noT :: intC (nz 8)
theorem zstm_one : One zstm := by unfold One; decide
theorem entC_split (d : EntD) : entC d = (.int .i64 d.id :: .int .i64 d.er :: intC d.l) ++ (.string d.nm :: intC d.xs) := by simp [entC]

/-- The statement of the j-th entry is made none. -/
theorem mix_set {w : World} {g : Nat} {l : List EntD} {j : Nat} (hj : j < l.length) (hE : ∀ e ∈ l, e.l.length = 3 ∧ e.xs.length = 8) (hz : l[j].xs.headD 0 = 0) (hR : w.rangeAt g 0 ((mixE l j).map entC).flatten) (hT : w.there g 0 (l.length * 14)) :
    (w.setCells g (j * 14 + 5) zstm).rangeAt g 0 ((mixE l (j + 1)).map entC).flatten := by
  have he := hE _ (List.getElem_mem hj)
  have hA : (((l.take j).map plainE).map entC).flatten.length = j * 14 := by
    rw [flatten_len (sz := 14) _ (fun cs hc => ?_), List.length_map, List.length_map, List.length_take, Nat.min_eq_left (by omega)]
    obtain ⟨d, hd, rfl⟩ := List.mem_map.1 hc
    obtain ⟨d0, hd0, rfl⟩ := List.mem_map.1 hd
    have := plainE_len (hE d0 (List.mem_of_mem_take hd0))
    exact entC_length this.1 this.2
  rw [mixE_at l j hj, List.map_append, List.map_cons, List.flatten_append, List.flatten_cons, entC_split l[j]] at hR
  rw [mixE_next l j hj, List.map_append, List.map_cons, List.flatten_append, List.flatten_cons]
  have hp : entC (plainE l[j]) = (.int .i64 l[j].id :: .int .i64 l[j].er :: intC l[j].l) ++ zstm := by
    unfold plainE
    rw [if_pos hz, entC_split]
    rfl
  rw [hp]
  have h5 : (Value.int .i64 l[j].id :: .int .i64 l[j].er :: intC l[j].l).length = 5 := by simp [intC_length, he.1]
  have h9 : (Value.string l[j].nm :: intC l[j].xs).length = 9 := by simp [intC_length, he.2]
  have z9 : zstm.length = 9 := rfl
  have r1 := rangeAt_left hR
  have r2 := rangeAt_right hR
  have r3 := rangeAt_left r2
  have r4 := rangeAt_left r3
  have r6 := rangeAt_right r2
  rw [hA, Nat.zero_add] at r2 r3 r4 r6
  rw [List.length_append, h5, h9] at r6
  refine app_rangeAt (World.rangeAt_setCells_apart r1 g (j * 14 + 5) zstm (.inr (.inl (by rw [hA]; omega)))) ?_
  rw [hA, Nat.zero_add]
  refine app_rangeAt (app_rangeAt (World.rangeAt_setCells_apart r4 g (j * 14 + 5) zstm (.inr (.inl (by rw [h5]; omega)))) ?_) ?_
  · rw [h5]
    refine World.rangeAt_setCells_same w g (j * 14 + 5) zstm (fun i hi => ?_)
    have := hT (j * 14 + 5 + i) (by rw [z9] at hi; omega)
    rw [Nat.zero_add] at this
    exact this
  · rw [List.length_append, h5, z9]
    exact World.rangeAt_setCells_apart r6 g (j * 14 + 5) zstm (.inr (.inr (by rw [z9]; omega)))

theorem mix_elem {w : World} {g : Nat} {l : List EntD} {j : Nat} (hj : j < l.length) (hE : ∀ e ∈ l, e.l.length = 3 ∧ e.xs.length = 8) (hR : w.rangeAt g 0 ((mixE l j).map entC).flatten) : w.rangeAt g (j * 14) (entC l[j]) := by
  have hA : (((l.take j).map plainE).map entC).flatten.length = j * 14 := by
    rw [flatten_len (sz := 14) _ (fun cs hc => ?_), List.length_map, List.length_map, List.length_take, Nat.min_eq_left (by omega)]
    obtain ⟨d, hd, rfl⟩ := List.mem_map.1 hc
    obtain ⟨d0, hd0, rfl⟩ := List.mem_map.1 hd
    have := plainE_len (hE d0 (List.mem_of_mem_take hd0))
    exact entC_length this.1 this.2
  rw [mixE_at l j hj, List.map_append, List.map_cons, List.flatten_append, List.flatten_cons] at hR
  have := rangeAt_left (rangeAt_right hR)
  rw [hA, Nat.zero_add] at this
  exact this
theorem mix_same {l : List EntD} {j : Nat} (hj : j < l.length) (hz : ¬ l[j].xs.headD 0 = 0) : mixE l (j + 1) = mixE l j := by
  rw [mixE_next l j hj, mixE_at l j hj]
  unfold plainE
  rw [if_neg hz]
theorem accL_app (nm key pn : ByteArray) (px t : List Int) (v1 : Value) (n : List Int) (v2 v3 : Value) : accL nm key pn px t v1 n v2 v3 = (.string nm :: .string key :: .string pn :: (intC px ++ (intC t ++ v1 :: (intC n ++ [v2])))) ++ [v3] := by simp [accL]
theorem acc_set {w : World} {rb : Nat} {nm key pn : ByteArray} {px t : List Int} {v1 : Value} {n : List Int} {v2 v3 : Value} (h : w.rangeAt rb 0 (accL nm key pn px t v1 n v2 v3)) (h1 : px.length = 9) (h2 : t.length = 3) (h3 : n.length = 2) (v : Value) (hf : w.frozen? ⟨rb, 19, none⟩ = false) :
    (w.setCell ⟨rb, 19, none⟩ v).rangeAt rb 0 (accL nm key pn px t v1 n v2 v) := by
  have hl : (Value.string nm :: .string key :: .string pn :: (intC px ++ (intC t ++ v1 :: (intC n ++ [v2])))).length = 19 := by simp [intC_length, h1, h2, h3]
  rw [accL_app] at h ⊢
  have r1 := rangeAt_left h
  have r2 := rangeAt_right h
  rw [hl] at r2
  refine app_rangeAt (World.rangeAt_setCells_apart r1 rb 19 [v] (.inr (.inl (by rw [hl]; omega)))) ?_
  rw [hl]
  refine World.rangeAt_setCells_same w rb 19 [v] (fun j hj => ?_)
  obtain rfl : j = 0 := by rw [List.length_singleton] at hj; omega
  exact ⟨by have := r2 0 v3 rfl; rw [Nat.zero_add, Nat.add_zero] at this; rw [Nat.add_zero, this]; rfl, hf⟩

def zaccA : Array Value := #[Value.string { data := #[] }, Value.string { data := #[] }, Value.string { data := #[] }, Value.int .i64 0, Value.int .i64 0, Value.int .i64 0, Value.int .i64 0, Value.int .i64 0, Value.int .i64 0, Value.int .i64 0, Value.int .i64 0, Value.int .i64 0, Value.int .i64 0, Value.int .i64 0, Value.int .i64 0, Value.slice none 0 0, Value.int .i64 0, Value.int .i64 0, Value.slice none 0 0, Value.slice none 0 0]
/-- What plain answers. -/
def PlainP (d : AccD) (v1 v2 : Value) (hcs : List (List Value)) (w : World) (e : Ending) (w' : World) : Prop := ∃ cs' v3', e = .returned (.agg cs'.toArray) ∧ AcIn w' cs' (plainA d) v1 v2 v3' hcs ∧ Turn [] w w'

set_option maxRecDepth 100000 in
set_option maxHeartbeats 6400000 in
theorem plain_any {w : World} {cs : List Value} {d : AccD} {v1 v2 v3 : Value} {hcs : List (List Value)} (hI : AcIn w cs d v1 v2 v3 hcs) (hn : d.win.length ≤ 100000) (hnil : ∀ n k, v3 = .slice none n k → k = 0) :
    Calls Try.prog 13 #[.agg cs.toArray] w fun e w' => PlainP d v1 v2 hcs w e w' := by
  have hI0 := hI
  obtain ⟨a3, k3, hv3, hk3, hm3, hat3⟩ := hI.r3.at
  rw [List.length_map] at hv3 hk3 hat3
  obtain ⟨w0, hw0⟩ : ∃ W, W = w.alloc (.cells cs.toArray 28) := ⟨_, rfl⟩
  obtain ⟨w1, hw1⟩ : ∃ W, W = w0.alloc (.cells zaccA 28) := ⟨_, rfl⟩
  obtain ⟨w2, hw2⟩ : ∃ W, W = w1.alloc (.cells #[] 69) := ⟨_, rfl⟩
  have hT0 : Turn [] w w0 := by rw [hw0]; exact (Turn.refl [] w).alloc _
  have hT1 : Turn [] w w1 := by rw [hw1]; exact hT0.alloc _
  have hT2 : Turn [] w w2 := by rw [hw2]; exact hT1.alloc _
  have s0 : w0.heap.size = w.heap.size + 1 := by rw [hw0]; simp
  have s1 : w1.heap.size = w.heap.size + 2 := by rw [hw1]; simp [s0]
  have s2 : w2.heap.size = w.heap.size + 3 := by rw [hw2]; simp [s1]
  have hr0 : w0.rangeAt w.heap.size 0 cs := by rw [hw0]; exact rng_new w cs cs.toArray 28 rfl
  have hb0 : w2.heap[w.heap.size]? = w0.heap[w.heap.size]? := by
    rw [hw2, Below.heap_alloc w1 _ _ (by omega), hw1, Below.heap_alloc w0 _ _ (by omega)]
  have hb1 : w2.heap[w.heap.size + 1]? = some (.cells zaccA 28 (0, 0)) := by
    rw [hw2, Below.heap_alloc w1 _ _ (by omega), hw1, ← s0]
    exact Array.getElem?_push_size
  have hb2 : w2.heap[w.heap.size + 2]? = some (.cells #[] 69 (0, 0)) := by
    rw [hw2, ← s1]
    exact Array.getElem?_push_size
  have hr : w2.rangeAt w.heap.size 0 cs := rangeAt_keep hr0 hb0
  have hA : AccAt w2 w.heap.size d.nm d.key d.pn d.px d.t v1 d.n v2 v3 := AccAt.of (by rw [← hI.e]; exact hr) hI.lp hI.lt hI.ln
  have c19 := hA.v3
  have hown : w2.ownsRow (w.heap.size + 2) 69 14 (.slice (some ⟨w.heap.size + 2, 0, none⟩) 0 0) 0 [] := ⟨rfl, .inr ⟨w.heap.size + 2, 0, #[], rfl, Nat.le_refl _, hb2, Nat.le_refl _, Nat.zero_le _, rfl, rfl⟩⟩
  have hth1 : w2.there (w.heap.size + 1) 0 20 := fun j hj => by
    refine ⟨?_, frozen_of_row w2 _ _ _ _ hb1⟩
    rw [cell_of_row w2 _ _ _ _ _ hb1, Nat.zero_add, Array.getElem?_eq_getElem (show j < zaccA.size from hj)]
    rfl
  have hth0 : w2.frozen? ⟨w.heap.size, 19, none⟩ = false := by
    rw [World.frozen?_of_block (a := ⟨w.heap.size, 19, none⟩) hb0, hw0]
    exact fz_new w cs.toArray 28 19
  have HR3 := hide (hI.r3.keep (fun x _ hx => hT2.block x hx (by simp)))
  have hnl : a3 = none → k3 = 0 := fun e => hnil _ _ (by rw [hv3, e])
  rw [hv3] at c19 HR3
  have HNl := hide hnl
  have HT2 := hide hT2
  have HI := hide hI0
  have HR := hide hr
  have HOwn := hide hown
  have HTh1 := hide hth1
  have HS2 := hide s2
  rw [hw0] at hw1
  rw [hw1] at hw2
  unfold zaccA at hw2
  clear hA hr hr0 hT0 hT1 hT2 hI hI0 hat3 hv3 hnil hb0 hb1 hb2 s0 s1 hw0 hw1 hown hth1 hnl w0 w1 s2
  have c19l := c19
  have HW2 := hide hw2
  rw [hw2] at c19l
  clear hw2
  generalize hrk : w.heap.size = rk at *
  go_enter Try.func13, Try.ntmps13
  go_wp2_with (at_builtin; rw [← HW2.out]; refine append_win rfl _ _ rfl (rk + 2) (.slice (some ⟨rk + 2, 0, none⟩) 0 0) d.win a3 k3 rfl HOwn.out rfl HR3.out HNl.out hn (by rw [HS2.out]; omega) ?_; intro v4 w4 hO4 hG4; have HO4 := hide hO4; have HG4 := hide hG4; clear hO4 hG4)
  have HRk := hide hrk
  have HW4 : Hid (∀ x, x < rk + 2 → w4.heap[x]? = w2.heap[x]?) := fun x hx => HG4.out.block x (by rw [HS2.out]; omega) (by simp only [Value.ownBlock, ne_eq, Option.some.injEq]; omega)
  have HT4 : Hid (Turn [] w w4) := HT2.out.grown HG4.out (fun k hk => .inr (by simp only [Value.ownBlock, Option.some.injEq] at hk; omega))
  have HF : Hid (∃ va vc, v4 = .slice va d.win.length vc ∧ d.win.length ≤ vc ∧ vc ≤ maxLen ∧ (0 < d.win.length → ∃ g, va = some ⟨g, 0, none⟩) ∧ ∀ g, va = some ⟨g, 0, none⟩ → 0 < d.win.length → rk + 2 ≤ g ∧ w4.rangeAt g 0 ((mixE d.win 0).map entC).flatten ∧ w4.there g 0 (d.win.length * 14)) := by
    have h := HO4.out
    rw [mixE_zero]
    obtain ⟨hl, ⟨rfl, k2⟩ | ⟨g, cap, cur, rfl, hb, hg, hc1, hc2, hc3, hc4⟩⟩ := h
    · exact ⟨none, 0, by rw [k2], by omega, by omega, fun h => by omega, fun g e => by cases e⟩
    · have h' := HO4.out
      have ho := own_range h'
      refine ⟨_, cap, rfl, hc1, hc2, fun _ => ⟨g, rfl⟩, fun g' e _ => ?_⟩
      cases e
      refine ⟨hb, ho.1, fun j hj => ⟨?_, ho.2.1 _⟩⟩
      exact ho.1.isSome j (by rw [hl]; exact hj)
  obtain ⟨va, vc, rfl, hvc, hvm, hva, hvf⟩ := HF.out
  have HF4 := hide hvf
  have HVa := hide hva
  clear hvf hva hrk c19l HG4 HO4 HF
  go_loopw [4] (fun i wr => ∃ j : Nat, j ≤ d.win.length ∧ i = .int .i64 (j : Nat) ∧ Hid (∀ x, x < rk + 2 → wr.heap[x]? = w2.heap[x]?) ∧ Hid (Turn [] w wr) ∧ Hid (∀ g, va = some ⟨g, 0, none⟩ → 0 < d.win.length → rk + 2 ≤ g ∧ wr.rangeAt g 0 ((mixE d.win j).map entC).flatten ∧ wr.there g 0 (d.win.length * 14))) (fun i _ => d.win.length - (intOf i).toNat)
  case atStart => exact ⟨0, by omega, rfl, HW4.out, HT4.out, HF4.out⟩
  case round =>
    obtain ⟨j, hj, rfl, HW, HT, HFj⟩ := hrel
    by_cases hlt : j < d.win.length
    · obtain ⟨g, rfl⟩ := HVa.out (by omega)
      obtain ⟨hg, hR, hTh⟩ := HFj.out g rfl (by omega)
      have hE := HI.out.we
      have hel := mix_elem hlt hE hR
      have hwe := hE _ (List.getElem_mem hlt)
      have HSet := hide (fun hz => mix_set hlt hE hz hR hTh)
      have HSame := hide (fun hz => mix_same hlt hz)
      have HR := hide hR
      have HTh := hide hTh
      obtain ⟨l1, l2, l3, hl3⟩ := list3 d.win[j].l hwe.1
      obtain ⟨s1, s2, s3, s4, s5, s6, s7, s8, hs8⟩ := list8' d.win[j].xs hwe.2
      have hec : entC d.win[j] = [.int .i64 d.win[j].id, .int .i64 d.win[j].er, .int .i64 l1, .int .i64 l2, .int .i64 l3, .string d.win[j].nm, .int .i64 s1, .int .i64 s2, .int .i64 s3, .int .i64 s4, .int .i64 s5, .int .i64 s6, .int .i64 s7, .int .i64 s8] := by
        unfold entC
        rw [hl3, hs8]
        rfl
      rw [hec] at hel
      have e6 : wr.cell? ⟨g, j * 14 + 6, none⟩ = some (.int .i64 s1) := hel 6 _ rfl
      have HHd : Hid (d.win[j].xs.headD 0 = s1) := by show _ = _; rw [hs8]; rfl
      have HT9 : Hid (wr.there g (j * 14 + 5) 9) := fun i hi => by
        have := HTh.out (j * 14 + 5 + i) (by omega)
        rw [Nat.zero_add] at this
        exact this
      clear hel hec hs8 hl3 hE hwe hR hTh
      by_cases hz : s1 = 0
      · have HN := hide (HSet.out (HHd.out.trans hz))
        subst hz
        go_wp2_with (first | ((with_reducible refine store_stm _ _ g (j * 14 + 5) zstm rfl zstm_one ?_ ?_ HT9.out ?_); rfl; rfl) | fail)
        go_roundw
        case rel =>
          refine ⟨j + 1, hlt, by go_num, fun x hx => ?_, Turn.setCellsN HT.out g (by rw [HRk.out]; omega) _ _, fun g' e _ => ?_⟩
          · rw [heap_setCellsN g x (by omega)]
            exact HW.out x hx
          · cases e
            exact ⟨hg, HN.out, World.there_setCells HTh.out _ _ _⟩
        case measure => simp [intOf]; omega
      · have HN := hide (HSame.out (fun h => hz (HHd.out.symm.trans h)))
        go_wp2_with fail
        go_roundw
        case rel =>
          refine ⟨j + 1, hlt, by go_num, HW, HT, fun g' e _ => ?_⟩
          cases e
          refine ⟨hg, ?_, HTh.out⟩
          rw [HN.out]
          exact HR.out
        case measure => simp [intOf]; omega
    · obtain rfl : j = d.win.length := by omega
      have hbr : wr.heap[rk]? = w2.heap[rk]? := HW.out rk (by omega)
      have c19r := (World.cell?_of_block (a := ⟨rk, 19, none⟩) hbr).trans c19
      have hfr := (World.frozen?_of_block (a := ⟨rk, 19, none⟩) hbr).trans hth0
      have hRk := rangeAt_keep HR.out hbr
      rw [HI.out.e] at hRk
      have HR5 := hide (acc_set hRk HI.out.lp HI.out.lt HI.out.ln (.slice va d.win.length vc) hfr)
      have hl20 : (accL d.nm d.key d.pn d.px d.t v1 d.n v2 (.slice va d.win.length vc)).length = 20 := accL_length HI.out.lp HI.out.lt HI.out.ln
      have hTh5 : (wr.setCell ⟨rk, 19, none⟩ (.slice va d.win.length vc)).there (rk + 1) 0 20 := World.there_setCells (b := rk) (o := 19) (vs := [.slice va d.win.length vc]) (fun j hj => by
        have h := HTh1.out j hj
        have hb : wr.heap[rk + 1]? = w2.heap[rk + 1]? := HW.out _ (by omega)
        rw [World.cell?_of_block (a := ⟨rk + 1, 0 + j, none⟩) hb, World.frozen?_of_block (a := ⟨rk + 1, 0 + j, none⟩) hb]
        exact h)
      have k1 : v1.oneCell' = true := by
        obtain ⟨_, _, e, _⟩ := HI.out.r1
        rw [e]
        rfl
      have k2 : v2.oneCell' = true := by
        obtain ⟨_, _, e, _⟩ := HI.out.r2
        rw [e]
        rfl
      have hone : One (accL d.nm d.key d.pn d.px d.t v1 d.n v2 (.slice va d.win.length vc)) := accL_one k1 k2 rfl
      have HT5 : Hid (Turn [] w (wr.setCell ⟨rk, 19, none⟩ (.slice va d.win.length vc))) := Turn.setCellsN HT.out rk (by rw [HRk.out]; omega) [.slice va d.win.length vc] 19
      have HF5 : Hid (∀ g, va = some ⟨g, 0, none⟩ → 0 < d.win.length → rk + 2 ≤ g ∧ (wr.setCell ⟨rk, 19, none⟩ (.slice va d.win.length vc)).rangeAt g 0 ((mixE d.win d.win.length).map entC).flatten) := fun g e hp => by
        obtain ⟨hg, hR, _⟩ := HFj.out g e hp
        exact ⟨hg, World.rangeAt_setCells_apart hR rk 19 [.slice va d.win.length vc] (.inl (by omega))⟩
      generalize hc5 : accL d.nm d.key d.pn d.px d.t v1 d.n v2 (.slice va d.win.length vc) = cs5 at HR5 hl20 hone
      have HCs := hide hc5.symm
      clear hc5
      have HTh5 := hide hTh5
      have HOne := hide hone
      clear hRk hbr hTh5 hone k1 k2
      go_upto_region 8 with fail
      generalize wr.setCell ⟨rk, 19, none⟩ (.slice va d.win.length vc) = w5 at *
      have HT6 := hide (Turn.setCellsN HT5.out (rk + 1) (by rw [HRk.out]; omega) cs5 0)
      have HR6 := hide (World.rangeAt_setCells_same w5 (rk + 1) 0 cs5 (by rw [hl20]; exact HTh5.out))
      go_wp2_with (first | ((with_reducible refine load_acc _ rk 0 cs5 hl20 ?_ HR5.out ?_); rfl) | ((with_reducible refine store_acc _ _ (rk + 1) 0 cs5 hl20 HOne.out ?_ ?_ HTh5.out ?_); rfl; rfl) | fail)
      refine bodyPost_ret (v := .agg cs5.toArray) (results_acc1 Try.results13 hl20 rfl HR6.out) rfl ⟨cs5, .slice va d.win.length vc, rfl, ?_, HT6.out⟩
      have hI := HI.out.turn HT6.out
      refine ⟨HCs.out, hI.lp, hI.lt, hI.ln, hI.ll, hI.r1, hI.hl, hI.r2, hI.hh, fun e he => ?_, ?_⟩
      · obtain ⟨e0, h0, rfl⟩ := List.mem_map.1 he
        exact plainE_len (hI.we e0 h0)
      · have hlen : ((plainA d).win.map entC).length = d.win.length := by rw [List.length_map]; exact List.length_map ..
        refine ⟨va, vc, ?_, by rw [hlen]; exact hvc, hvm, fun c hc => ?_, ?_⟩
        · show _ = Value.slice va ((plainA d).win.map entC).length vc
          rw [hlen]
        · obtain ⟨e1, h1, rfl⟩ := List.mem_map.1 hc
          obtain ⟨e0, h0, rfl⟩ := List.mem_map.1 h1
          have := plainE_len (hI.we e0 h0)
          exact entC_length this.1 this.2
        · by_cases h0 : 0 < d.win.length
          · obtain ⟨g, rfl⟩ := HVa.out h0
            obtain ⟨hg, hR⟩ := HF5.out g rfl h0
            rw [mixE_all] at hR
            exact .inr ⟨g, 0, rfl, World.rangeAt_setCells_apart hR (rk + 1) 0 cs5 (.inl (by omega))⟩
          · refine .inl (List.eq_nil_of_length_eq_zero ?_)
            rw [hlen]
            omega
end Go.Proofs.Ytghgkjollafeiaa
