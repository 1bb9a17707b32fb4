/-
  Scan's closure, with any end and any limit; what is found so far.
  walk, of any tree: what it keeps, rows cut off at the front, the leaf.
  walk, walked, of a leaf.
  walk, walked, of a branch; walk of any place; Scan.
  Scan, walked, of any tree: from any key, to any end, with any limit.
  Open of a tree that is there: the root's bytes, read.
  Open of a tree, whatever is committed.
  Open, by what is committed on the disk.
  What the laws of trees do themselves: a new tree, one opened anew, how much is left, how high; others' blocks.
  The law's Find on a plain row, walked.
  The law's plain rows: Find, Del, Put, Same, walked.
  The law's Put on plain rows, walked.
-/
import Derived.Test.YthgpjkcgccdldaaGreatDoorV40
import Derived.Test.YthgpjkcgccdldaaGreatDoorV36
import Derived.Deep.Cut

namespace Go.Proofs.YthgpjkcgccdldaaGreatDoor
open Go.RowKit Go.Maps

theorem less_cmp : ∀ (a b : List UInt8), Op.bytesLess a b = decide (Lib.compareBytes a b = -1)
  | [], [] => by simp [Op.bytesLess, Lib.compareBytes]
  | [], _ :: _ => by simp [Op.bytesLess, Lib.compareBytes]
  | _ :: _, [] => by simp [Op.bytesLess, Lib.compareBytes]
  | x :: a, y :: b => by
    have ih := less_cmp a b
    unfold Op.bytesLess Lib.compareBytes
    by_cases h1 : x < y
    · simp [h1]
    · by_cases h2 : x = y
      · subst h2
        simp [h1, ih]
      · have h3 : y < x := by
          rcases UInt8.lt_or_lt_of_ne h2 with h | h
          · exact absurd h h1
          · exact h
        simp [h1, h2, h3]
theorem less_klt (a b : ByteArray) : Op.bytesLess a.toList b.toList = decide (klt a b) := by
  rw [less_cmp, ByteArray.toList_eq, ByteArray.toList_eq]
  exact decide_eq_decide.2 Iff.rfl

/-- One pair more: what is found then, and whether the scan goes on. -/
def scanStep (hi : ByteArray) (lim : Int) (xs : List Kv) (x : Kv) : List Kv × Bool :=
  if hi ≠ ⟨#[]⟩ ∧ ¬ klt x.1 hi then (xs, false) else (xs ++ [x], decide (lim < 1) || decide (((xs.length + 1 : Nat) : Int) < lim))
/-- A row of pairs. -/
def scanRun (hi : ByteArray) (lim : Int) : List Kv → List Kv → List Kv × Bool
  | xs, [] => (xs, true)
  | xs, x :: l => if (scanStep hi lim xs x).2 = true then scanRun hi lim (scanStep hi lim xs x).1 l else ((scanStep hi lim xs x).1, false)
theorem scanRun_cons (hi : ByteArray) (lim : Int) (xs : List Kv) (x : Kv) (l : List Kv) : scanRun hi lim xs (x :: l) = if (scanStep hi lim xs x).2 = true then scanRun hi lim (scanStep hi lim xs x).1 l else ((scanStep hi lim xs x).1, false) := rfl
theorem scanRun_append (hi : ByteArray) (lim : Int) : (xs a b : List Kv) → scanRun hi lim xs (a ++ b) = if (scanRun hi lim xs a).2 = true then scanRun hi lim (scanRun hi lim xs a).1 b else scanRun hi lim xs a
  | xs, [], b => by simp [scanRun]
  | xs, x :: a, b => by
    rw [List.cons_append, scanRun_cons, scanRun_cons]
    by_cases h : (scanStep hi lim xs x).2 = true
    · rw [if_pos h, if_pos h]
      exact scanRun_append hi lim _ a b
    · rw [if_neg h, if_neg h]
      simp
theorem scanStep_len (hi : ByteArray) (lim : Int) (xs : List Kv) (x : Kv) : (scanStep hi lim xs x).1.length ≤ xs.length + 1 := by
  unfold scanStep
  split <;> simp
theorem scanRun_len (hi : ByteArray) (lim : Int) : (l xs : List Kv) → (scanRun hi lim xs l).1.length ≤ xs.length + l.length
  | [], xs => by simp [scanRun]
  | x :: l, xs => by
    have h1 := scanStep_len hi lim xs x
    rw [scanRun_cons]
    split
    · have := scanRun_len hi lim l (scanStep hi lim xs x).1
      rw [List.length_cons]
      omega
    · rw [List.length_cons]
      show (scanStep hi lim xs x).1.length ≤ _
      omega
/-- All of it. -/
theorem scanRun_all : (l xs : List Kv) → scanRun ⟨#[]⟩ 0 xs l = (xs ++ l, true)
  | [], xs => by simp [scanRun]
  | x :: l, xs => by
    have e : scanStep ⟨#[]⟩ 0 xs x = (xs ++ [x], true) := by
      unfold scanStep
      rw [if_neg (fun h => h.1 rfl)]
      simp
    rw [scanRun_cons, e, if_pos rfl, scanRun_all l]
    simp

/-- What is found so far: the variable in block fb, and its row in the memory of the call that began at w0. -/
structure Fd (w0 w : World) (fb hb lb : Nat) (hi : ByteArray) (lim : Int) (xs : List Kv) (r : Value) : Prop where
  f0 : w.cell? ⟨fb, 0, none⟩ = some r
  fz : w.frozen? ⟨fb, 0, none⟩ = false
  h0 : w.cell? ⟨hb, 0, none⟩ = some (.string hi)
  l0 : w.cell? ⟨lb, 0, none⟩ = some (.int .i64 lim)
  row : w.ownsRow w0.heap.size 55 2 r xs.length (flat (kvCells xs))
  ap : ∀ g, r.ownBlock = some g → g ≠ fb ∧ g ≠ hb ∧ g ≠ lb
  ne : fb ≠ hb ∧ fb ≠ lb
  new : w0.heap.size ≤ fb ∧ w0.heap.size ≤ hb ∧ w0.heap.size ≤ lb

theorem Fd.turn {X : List Nat} {w0 w w' : World} {fb hb lb : Nat} {hi : ByteArray} {lim : Int} {xs : List Kv} {r : Value} (h : Fd w0 w fb hb lb hi lim xs r) (hT : Turn X w w') (hX : fb ∉ X ∧ hb ∉ X ∧ lb ∉ X ∧ ∀ g, r.ownBlock = some g → g ∉ X) : Fd w0 w' fb hb lb hi lim xs r :=
  ⟨(hT.cb (lt_of_cell h.f0) hX.1).trans h.f0, (World.frozen?_of_block (a := ⟨fb, 0, none⟩) (hT.block fb (lt_of_cell h.f0) hX.1)).trans h.fz, (hT.cb (lt_of_cell h.h0) hX.2.1).trans h.h0, (hT.cb (lt_of_cell h.l0) hX.2.2.1).trans h.l0, own_turn h.row hT hX.2.2.2, h.ap, h.ne, h.new⟩
theorem Fd.quiet {w0 w w' : World} {fb hb lb : Nat} {hi : ByteArray} {lim : Int} {xs : List Kv} {r : Value} (h : Fd w0 w fb hb lb hi lim xs r) (hT : Turn [] w w') : Fd w0 w' fb hb lb hi lim xs r := h.turn hT (by simp)

theorem fd_step {w0 W w3 : World} {fb hb lb : Nat} {hi : ByteArray} {lim : Int} {xs : List Kv} {r v' : Value} {k v : ByteArray} (hF : Fd w0 W fb hb lb hi lim xs r) (hown : w3.ownsRow w0.heap.size 55 2 v' (xs.length + 1) (flat (kvCells xs ++ kvCells [(k, v)]))) (hg : W.grownBy w3 r.ownBlock) (hb3 : v'.ownBlock = r.ownBlock ∨ v'.ownBlock = some W.heap.size) :
    ∃ a' c', v' = .slice a' (xs.length + 1) c' ∧ w3.cell? ⟨fb, 0, none⟩ = some r ∧ w3.frozen? ⟨fb, 0, none⟩ = false ∧ (w3.setCell ⟨fb, 0, none⟩ v').cell? ⟨lb, 0, none⟩ = some (.int .i64 lim) ∧ (w3.setCell ⟨fb, 0, none⟩ v').cell? ⟨fb, 0, none⟩ = some v' ∧ Fd w0 (w3.setCell ⟨fb, 0, none⟩ v') fb hb lb hi lim (xs ++ [(k, v)]) v' ∧ ∃ X, Turn X W (w3.setCell ⟨fb, 0, none⟩ v') ∧ ∀ x ∈ X, x = fb ∨ r.ownBlock = some x := by
  have hfl := lt_of_cell hF.f0
  have hhl := lt_of_cell hF.h0
  have hll := lt_of_cell hF.l0
  have hgb : ∀ x, x < W.heap.size → (∀ g, r.ownBlock = some g → g ≠ x) → w3.heap[x]? = W.heap[x]? := fun x hx h => hg.block x hx (fun e => h x e.symm rfl)
  have f3 := (World.cell?_of_block (a := ⟨fb, 0, none⟩) (hgb fb hfl (fun g hg => (hF.ap g hg).1))).trans hF.f0
  have z3 := (World.frozen?_of_block (a := ⟨fb, 0, none⟩) (hgb fb hfl (fun g hg => (hF.ap g hg).1))).trans hF.fz
  have h3 := (World.cell?_of_block (a := ⟨hb, 0, none⟩) (hgb hb hhl (fun g hg => (hF.ap g hg).2.1))).trans hF.h0
  have l3 := (World.cell?_of_block (a := ⟨lb, 0, none⟩) (hgb lb hll (fun g hg => (hF.ap g hg).2.2))).trans hF.l0
  have hap : ∀ g, v'.ownBlock = some g → g ≠ fb ∧ g ≠ hb ∧ g ≠ lb := fun g hg => by
    rcases hb3 with e | e
    · exact hF.ap g (by rw [← e]; exact hg)
    · rw [hg] at e
      have := Option.some.inj e
      omega
  obtain ⟨a', c', rfl⟩ := own_form hown
  have l3' : (w3.setCell ⟨fb, 0, none⟩ (.slice a' (xs.length + 1) c')).cell? ⟨lb, 0, none⟩ = some (.int .i64 lim) := (World.cell?_setCell_other _ _ _ _ (fun e => hF.ne.2 (by injection e))).trans l3
  have hTs : Turn [fb] w3 (w3.setCell ⟨fb, 0, none⟩ (.slice a' (xs.length + 1) c')) := (Turn.refl [fb] w3).setCell (List.mem_singleton.2 rfl) _ _
  have hrow := own_turn hown hTs (fun g hg => by simp; exact (hap g hg).1)
  rw [← kv_append] at hrow
  refine ⟨a', c', rfl, f3, z3, l3', World.cell?_setCell_same _ _ _ f3, ⟨World.cell?_setCell_same _ _ _ f3, by rw [World.frozen?_setCell]; exact z3, (World.cell?_setCell_other _ _ _ _ (fun e => hF.ne.1 (by injection e))).trans h3, l3', by rw [List.length_append]; exact hrow, hap, hF.ne, hF.new⟩, ?_⟩
  cases hb : r.ownBlock with
  | none =>
    have h1 : Turn [] W w3 := (Turn.refl [] W).grown hg (fun k hk => by rw [hb] at hk; cases hk)
    exact ⟨[fb], (h1.mono (by simp)).trans hTs, fun x hx => .inl (List.mem_singleton.1 hx)⟩
  | some g =>
    have h1 : Turn [g] W w3 := (Turn.refl [g] W).grown hg (fun k hk => by rw [hb] at hk; cases hk; exact .inl (by simp))
    refine ⟨[g, fb], (h1.mono (by simp)).trans (hTs.mono (by simp)), fun x hx => ?_⟩
    simp at hx
    exact hx.elim (fun e => .inr (by rw [e])) .inl

theorem isEmpty_eq (k : ByteArray) : k.toList.isEmpty = decide (k = ⟨#[]⟩) := by
  rw [toList_empty]
  refine decide_eq_decide.2 ⟨fun h => ?_, fun h => by rw [h]; rfl⟩
  obtain ⟨d⟩ := k
  have hd : d.size = 0 := h
  rw [Array.eq_empty_of_size_eq_zero hd]

set_option maxRecDepth 100000 in
set_option maxHeartbeats 3200000 in
theorem scan1G (w0 : World) (fb hb lb : Nat) (hi : ByteArray) (lim : Int) (xs : List Kv) (r : Value) (k v : ByteArray) (hx : xs.length ≤ 500000) (w : World) (h0w : w0.heap.size ≤ w.heap.size) (hF : Fd w0 w fb hb lb hi lim xs r) :
    Calls Tryz.prog 75 #[.agg #[.string k, .string v], .pointer (some ⟨hb, 0, none⟩), .pointer (some ⟨fb, 0, none⟩), .pointer (some ⟨lb, 0, none⟩)] w fun e w' => e = .returned (.bool (scanStep hi lim xs (k, v)).2) ∧ ∃ r', Fd w0 w' fb hb lb hi lim (scanStep hi lim xs (k, v)).1 r' ∧ (∃ X, Turn X w w' ∧ ∀ x ∈ X, x = fb ∨ r.ownBlock = some x) ∧ ∀ x, r'.ownBlock = some x → r.ownBlock = some x ∨ w.heap.size ≤ x := by
  have hF1 := hF.quiet ((Turn.refl [] w).alloc (.cells #[.string k, .string v] 55))
  have hF2 := hF1.quiet ((Turn.refl [] _).alloc (.cells #[.string k, .string v] 55))
  have h0 := hF1.h0
  have f0 := hF1.f0
  have l0 := hF1.l0
  have hfl := lt_of_cell hF.f0
  have hhl := lt_of_cell hF.h0
  have hll := lt_of_cell hF.l0
  obtain ⟨ra, rc, rfl⟩ := own_form hF.row
  have HF1 := hide hF1
  have HF2 := hide hF2
  have HL := hide (kvCells_length [(k, v)])
  have HP : Hid (PairsAt ((w.alloc (.cells #[.string k, .string v] 55)).alloc (.cells #[.string k, .string v] 55)) (some ⟨w.heap.size + 1, 0, none⟩) (kvCells [(k, v)])) := by
    refine (KVsAt.pairs (l := [(k, v)]) (.inr ⟨w.heap.size + 1, 0, rfl, fun i hi => ?_⟩) :)
    have : i = 0 := by simpa using hi
    subst this
    have e : w.heap.size + 1 = (w.alloc (.cells #[.string k, .string v] 55)).heap.size := by simp
    rw [e]
    exact ⟨World.cell?_alloc_at _ _ _ _ rfl, World.cell?_alloc_at _ _ _ _ rfl⟩
  have HT1 : Hid (Turn [] w (w.alloc (.cells #[.string k, .string v] 55))) := (Turn.refl [] w).alloc _
  have HT2 : Hid (Turn [] w ((w.alloc (.cells #[.string k, .string v] 55)).alloc (.cells #[.string k, .string v] 55))) := ((Turn.refl [] w).alloc _).alloc _
  have hle := less_klt k hi
  have HX : Hid (xs.length ≤ 500000) := hx
  clear hF hF1 hF2
  by_cases hst : hi ≠ ⟨#[]⟩ ∧ ¬ klt k hi
  · have he : hi.toList.isEmpty = false := by rw [isEmpty_eq]; exact decide_eq_false hst.1
    rw [decide_eq_false hst.2] at hle
    have HS : Hid (scanStep hi lim xs (k, v) = (xs, false)) := if_pos hst
    clear hst
    obtain ⟨n, HN⟩ : ∃ n, Hid (xs.length = n) := ⟨_, rfl⟩
    rw [HN.out] at hx f0
    rw [HS.out]
    dsimp only
    rw [HN.out] at HF1
    rw [show Value.slice ra xs.length rc = Value.slice ra n rc from by rw [HN.out]]
    go_enter Tryz.func75, Tryz.ntmps75
    go_wp2_with fail
    go_ret
    exact ⟨rfl, _, HF1.out, ⟨[], HT1.out, by simp⟩, fun _ h => .inl h⟩
  · have HS : Hid (scanStep hi lim xs (k, v) = (xs ++ [(k, v)], decide (lim < 1) || decide (((xs.length + 1 : Nat) : Int) < lim))) := if_neg hst
    have hbr : hi.toList.isEmpty = true ∨ hi.toList.isEmpty = false ∧ Op.bytesLess k.toList hi.toList = true := by
      by_cases h : hi = ⟨#[]⟩
      · exact .inl (by rw [isEmpty_eq]; exact decide_eq_true h)
      · refine .inr ⟨by rw [isEmpty_eq]; exact decide_eq_false h, ?_⟩
        rw [hle]
        exact decide_eq_true (Classical.byContradiction fun h2 => hst ⟨h, h2⟩)
    clear hst hle
    rw [HS.out]
    dsimp only
    clear HS
    obtain ⟨n, HN⟩ : ∃ n, Hid (xs.length = n) := ⟨_, rfl⟩
    rw [HN.out] at hx f0 HF2
    have hlt : (decide (lim < 1) || decide (((xs.length + 1 : Nat) : Int) < lim)) = (decide (lim < 1) || decide (((n + 1 : Nat) : Int) < lim)) := by rw [HN.out]
    rw [hlt]
    rw [show Value.slice ra xs.length rc = Value.slice ra n rc from by rw [HN.out]]
    clear hlt
    rcases hbr with he | ⟨he, hle⟩
    all_goals
      by_cases hl1 : lim < 1
      · rw [decide_eq_true hl1, Bool.true_or]
        go_enter Tryz.func75, Tryz.ntmps75
        go_wp2_with (first | (at_builtin; refine append_pairsT 31 Tryz.underlying31 rfl _ _ rfl w0.heap.size (.slice ra n rc) n (kvCells xs) rfl (by have := HF2.out.row; rwa [HN.out] at this) (some ⟨w.heap.size + 1, 0, none⟩) 1 1 (kvCells [(k, v)]) rfl HL.out (by simp) HP.out (kv_one _) (by omega) (by simp; omega) ?_; intro v' w3 hown3 hgrow3 hb3; rw [← HN.out] at hown3; obtain ⟨a', c', rfl, f3, z3, l3, f4, hFn, X, hX, hX1⟩ := fd_step HF2.out hown3 hgrow3 hb3; have HFn := hide hFn; have HXX := hide (And.intro hX hX1); have HB3 := hide hb3; clear hown3 hgrow3 hb3 hFn hX hX1) | fail)
        go_ret
        refine ⟨rfl, _, HFn.out, ⟨X, HT2.out.mono (by simp) |>.trans HXX.out.1, HXX.out.2⟩, fun x hx => ?_⟩
        rcases HB3.out with e | e
        · exact .inl (by rw [← e]; exact hx)
        · rw [hx] at e
          have := Option.some.inj e
          simp at this
          exact .inr (by omega)
      · rw [decide_eq_false hl1, Bool.false_or]
        go_enter Tryz.func75, Tryz.ntmps75
        go_wp2_with (first | (at_builtin; refine append_pairsT 31 Tryz.underlying31 rfl _ _ rfl w0.heap.size (.slice ra n rc) n (kvCells xs) rfl (by have := HF2.out.row; rwa [HN.out] at this) (some ⟨w.heap.size + 1, 0, none⟩) 1 1 (kvCells [(k, v)]) rfl HL.out (by simp) HP.out (kv_one _) (by omega) (by simp; omega) ?_; intro v' w3 hown3 hgrow3 hb3; rw [← HN.out] at hown3; obtain ⟨a', c', rfl, f3, z3, l3, f4, hFn, X, hX, hX1⟩ := fd_step HF2.out hown3 hgrow3 hb3; rw [HN.out] at f4; have HFn := hide hFn; have HXX := hide (And.intro hX hX1); have HB3 := hide hb3; clear hown3 hgrow3 hb3 hFn hX hX1) | fail)
        go_ret
        refine ⟨congrArg (fun b => Ending.returned (.bool b)) (show decide ((xs.length : Int) + 1 < lim) = decide (((n + 1 : Nat) : Int) < lim) by rw [HN.out]; exact decide_eq_decide.2 (by omega)), _, HFn.out, ⟨X, HT2.out.mono (by simp) |>.trans HXX.out.1, HXX.out.2⟩, fun x hx => ?_⟩
        rcases HB3.out with e | e
        · exact .inl (by rw [← e]; exact hx)
        · rw [hx] at e
          have := Option.some.inj e
          simp at this
          exact .inr (by omega)

end Go.Proofs.YthgpjkcgccdldaaGreatDoor

namespace Go.Proofs.YthgpjkcgccdldaaGreatDoor
open Go.RowKit Go.Maps

/-- Those from a key on. -/
def fromK (lo : ByteArray) (l : List Kv) : List Kv := l.filter (fun x => !decide (klt x.1 lo))
theorem fromK_append (lo : ByteArray) (a b : List Kv) : fromK lo (a ++ b) = fromK lo a ++ fromK lo b := List.filter_append ..
theorem fromK_none {lo : ByteArray} {l : List Kv} (h : ∀ x ∈ l, klt x.1 lo) : fromK lo l = [] := filter_none fun x hx => by simp [h x hx]
theorem fromK_all {lo : ByteArray} {l : List Kv} (h : ∀ x ∈ l, ¬ klt x.1 lo) : fromK lo l = l := filter_all fun x hx => by simp [h x hx]
theorem fromK_empty (l : List Kv) : fromK ⟨#[]⟩ l = l := fromK_all fun x _ => not_below x.1
theorem fromK_len (lo : ByteArray) (l : List Kv) : (fromK lo l).length ≤ l.length := List.length_filter_le ..

/-- A node that may be. -/
structure NOk {h : Nat} (l : List (En h)) : Prop where
  ex : ∃ lo hi, Starts lo l ∧ OrdN hi l
  full : ∀ e ∈ l, FullE e
  size : sizeN l ≤ 495
  some : 1 ≤ h → 1 ≤ l.length
theorem NOk.down {h : Nat} {l : List (En (h + 1))} (hn : NOk l) {i : Nat} (hi : i < l.length) : NOk (kidsOf l[i]) := by
  obtain ⟨lo, hi', h1, h2⟩ := hn.ex
  have e : l = l.take i ++ l[i] :: l.drop (i + 1) := by rw [← List.drop_eq_getElem_cons hi, List.take_append_drop]
  have h3 := h2
  rw [e] at h3
  obtain ⟨_, g2, g3⟩ := ord_at h3
  obtain ⟨_, f2, f3, f4⟩ := full_at (hn.full _ (List.getElem_mem hi))
  exact ⟨⟨_, _, g2, g3⟩, f4, f3, fun h0 => Nat.le_trans (by cases h <;> simp [minN] at *) f2⟩
theorem RootOk.nok {h : Nat} {e : En (h + 1)} (hr : RootOk (some ⟨h, e⟩)) : NOk (kidsOf e) := by
  have hw := hr.way ByteArray.empty
  exact ⟨⟨_, _, hw.starts, hw.ord⟩, hw.full, hw.size, fun h1 => by have := hw.some h1; omega⟩

/-- Where a row of pairs lies that is cut off behind the k-th. -/
def hi2 (a : Option Addr) (c k : Nat) : Option Addr := if c = k then a else a.map (·.add (k * 2))
set_option maxRecDepth 100000 in
theorem lslice_hi (a : Option Addr) (n c k : Nat) (w : World) (hk : k ≤ n) : (Instr.slice 137 (.slice a n c) (some (.int .i64 (k : Nat))) none none).run Tryz.prog w = .ok (.slice (hi2 a c k) (n - k) (c - k)) w := by
  rw [run_slice_l w 137 a n c (by kernel_rfl) .i64 k (by omega) (by omega)]
  have hs : (sizeOf (Tryz.prog.elem 137)).run Tryz.prog w = .ok 2 w := by go_simp
  rw [hs]
  simp only [Result.andThen, sliced, Int.toNat_natCast, hi2]
set_option maxRecDepth 100000 in
theorem kslice_hi (a : Option Addr) (n c k : Nat) (w : World) (hk : k ≤ n) : (Instr.slice 170 (.slice a n c) (some (.int .i64 (k : Nat))) none none).run Tryz.prog w = .ok (.slice (hi2 a c k) (n - k) (c - k)) w := by
  rw [run_slice_l w 170 a n c (by kernel_rfl) .i64 k (by omega) (by omega)]
  have hs : (sizeOf (Tryz.prog.elem 170)).run Tryz.prog w = .ok 2 w := by go_simp
  rw [hs]
  simp only [Result.andThen, sliced, Int.toNat_natCast, hi2]
theorem KVsAt.hi {w : World} {b off : Nat} {l : List (ByteArray × ByteArray)} (h : KVsAt w (some ⟨b, off, none⟩) l) (c k : Nat) (hc : l.length ≤ c) : KVsAt w (hi2 (some ⟨b, off, none⟩) c k) (l.drop k) := by
  unfold hi2
  split
  · exact .inl (List.drop_of_length_le (by omega))
  · refine .inr ⟨b, off + k * 2, by rw [Option.map_some, add_spot], fun i hi => ?_⟩
    rw [List.length_drop] at hi
    obtain ⟨b', off', e, h0, h1⟩ := h.at (i := k + i) (by omega)
    injection e with e
    injection e with e1 e2
    subst e1 e2
    rw [List.getElem_drop]
    rw [show off + k * 2 + i * 2 = off + (k + i) * 2 by omega]
    exact ⟨h0, h1⟩
theorem KidsAt.hi {w : World} {b off : Nat} {l : List (ByteArray × Nat)} (h : KidsAt w (some ⟨b, off, none⟩) l) (c k : Nat) (hc : l.length ≤ c) : KidsAt w (hi2 (some ⟨b, off, none⟩) c k) (l.drop k) := by
  unfold hi2
  split
  · exact .inl (List.drop_of_length_le (by omega))
  · refine .inr ⟨b, off + k * 2, by rw [Option.map_some, add_spot], fun i hi => ?_⟩
    rw [List.length_drop] at hi
    obtain ⟨b', off', e, h0, h1⟩ := h.at (i := k + i) (by omega)
    injection e with e
    injection e with e1 e2
    subst e1 e2
    rw [List.getElem_drop]
    rw [show off + k * 2 + i * 2 = off + (k + i) * 2 by omega]
    exact ⟨h0, h1⟩
theorem KVsAt.same {w w' : World} {b off : Nat} {l : List (ByteArray × ByteArray)} (h : KVsAt w (some ⟨b, off, none⟩) l) (hb : w'.heap[b]? = w.heap[b]?) : KVsAt w' (some ⟨b, off, none⟩) l := by
  refine .inr ⟨b, off, rfl, fun i hi => ?_⟩
  obtain ⟨b', off', e, h0, h1⟩ := h.at hi
  injection e with e
  injection e with e1 e2
  subst e1 e2
  exact ⟨(World.cell?_of_block (a := ⟨b, off + i * 2, none⟩) hb).trans h0, (World.cell?_of_block (a := ⟨b, off + i * 2 + 1, none⟩) hb).trans h1⟩
theorem KidsAt.same {w w' : World} {b off : Nat} {l : List (ByteArray × Nat)} (h : KidsAt w (some ⟨b, off, none⟩) l) (hb : w'.heap[b]? = w.heap[b]?) : KidsAt w' (some ⟨b, off, none⟩) l := by
  refine .inr ⟨b, off, rfl, fun i hi => ?_⟩
  obtain ⟨b', off', e, h0, h1⟩ := h.at hi
  injection e with e
  injection e with e1 e2
  subst e1 e2
  exact ⟨(World.cell?_of_block (a := ⟨b, off + i * 2, none⟩) hb).trans h0, (World.cell?_of_block (a := ⟨b, off + i * 2 + 1, none⟩) hb).trans h1⟩

/-- A tree while it is scanned. -/
structure WK (w0 w : World) (O : Nat → Prop) (t p b m sm rb : Nat) (s : St) (q : Pg) (Dn S : Stt) (D : Dk) (G : Gh) (Rw : Nat → Prop) (fb hb lb : Nat) (hi : ByteArray) (lim : Int) (xs : List Kv) (r : Value) : Prop where
  tm : TM w O t p b m sm rb s q Dn S D G Rw
  fd : Fd w0 w fb hb lb hi lim xs r
  out : ∀ x, (x = fb ∨ x = hb ∨ x = lb ∨ r.ownBlock = some x) → G x = none ∧ ¬ Rw x
  lt0 : ∀ x ∈ [1, t, p, b, m, sm, rb], x < w0.heap.size

theorem WK.new {w0 w : World} {O : Nat → Prop} {t p b m sm rb : Nat} {s : St} {q : Pg} {Dn S : Stt} {D : Dk} {G : Gh} {Rw : Nat → Prop} {fb hb lb : Nat} {hi : ByteArray} {lim : Int} {xs : List Kv} {r : Value} (h : WK w0 w O t p b m sm rb s q Dn S D G Rw fb hb lb hi lim xs r) {x : Nat} (hx : x = fb ∨ x = hb ∨ x = lb ∨ r.ownBlock = some x) : w0.heap.size ≤ x ∧ x < w.heap.size := by
  have := h.fd.new
  rcases hx with rfl | rfl | rfl | hx
  · exact ⟨this.1, lt_of_cell h.fd.f0⟩
  · exact ⟨this.2.1, lt_of_cell h.fd.h0⟩
  · exact ⟨this.2.2, lt_of_cell h.fd.l0⟩
  · exact h.fd.row.lt x hx

theorem WK.node {w0 w w' : World} {O : Nat → Prop} {t p b m sm rb : Nat} {s : St} {q : Pg} {Dn S : Stt} {D : Dk} {G G' : Gh} {Rw Rw' : Nat → Prop} {fb hb lb : Nat} {hi : ByteArray} {lim : Int} {xs : List Kv} {r : Value} (h : WK w0 w O t p b m sm rb s q Dn S D G Rw fb hb lb hi lim xs r) {q' : Pg} (hM : TM w' O t p b m sm rb s q' Dn S D G' Rw') (hS : TStep p w w' G G' Rw Rw') : WK w0 w' O t p b m sm rb s q' Dn S D G' Rw' fb hb lb hi lim xs r := by
  obtain ⟨X, hX, hX1⟩ := hS.turn
  have hp := h.lt0 p (by simp)
  have hno : ∀ x, (x = fb ∨ x = hb ∨ x = lb ∨ r.ownBlock = some x) → x ∉ X := fun x hx hm => by
    have h1 := (h.new hx).1
    rcases hX1 x hm with e | e
    · omega
    · exact e (h.out x hx).1
  refine ⟨hM, h.fd.turn hX ⟨hno fb (.inl rfl), hno hb (.inr (.inl rfl)), hno lb (.inr (.inr (.inl rfl))), fun g hg => hno g (.inr (.inr (.inr hg)))⟩, fun x hx => ?_, h.lt0⟩
  have h1 := (h.new hx).2
  obtain ⟨h2, h3⟩ := h.out x hx
  refine ⟨?_, fun hr => ?_⟩
  · cases hg : G' x with
    | none => rfl
    | some P =>
      rcases hS.newG x (by rw [hg]; simp) with e | e
      · exact absurd h2 e
      · omega
  · rcases hS.newR x hr with e | e
    · exact h3 e
    · omega
theorem WK.quiet {w0 w w' : World} {O : Nat → Prop} {t p b m sm rb : Nat} {s : St} {q : Pg} {Dn S : Stt} {D : Dk} {G : Gh} {Rw : Nat → Prop} {fb hb lb : Nat} {hi : ByteArray} {lim : Int} {xs : List Kv} {r : Value} (h : WK w0 w O t p b m sm rb s q Dn S D G Rw fb hb lb hi lim xs r) (hT : Turn [] w w') : WK w0 w' O t p b m sm rb s q Dn S D G Rw fb hb lb hi lim xs r := h.node (h.tm.quiet hT) ((TStep.refl p w G Rw).quiet hT)
theorem WK.call {w0 w w' : World} {O : Nat → Prop} {t p b m sm rb : Nat} {s : St} {q : Pg} {Dn S : Stt} {D : Dk} {G : Gh} {Rw : Nat → Prop} {fb hb lb : Nat} {hi : ByteArray} {lim : Int} {xs xs' : List Kv} {r r' : Value} (h : WK w0 w O t p b m sm rb s q Dn S D G Rw fb hb lb hi lim xs r) (hF : Fd w0 w' fb hb lb hi lim xs' r') (hX : ∃ X, Turn X w w' ∧ ∀ x ∈ X, x = fb ∨ r.ownBlock = some x) (hO : ∀ x, r'.ownBlock = some x → r.ownBlock = some x ∨ w.heap.size ≤ x) : WK w0 w' O t p b m sm rb s q Dn S D G Rw fb hb lb hi lim xs' r' ∧ TGo fb p w w' G G Rw Rw r r' := by
  obtain ⟨X, hX, hX1⟩ := hX
  refine ⟨⟨h.tm.other hX fun x hx => ?_, hF, fun x hx => ?_, h.lt0⟩, ⟨⟨X, hX, fun x hx => (hX1 x hx).elim .inl (fun e => .inr (.inr (.inr e)))⟩, fun _ h => .inl h, fun _ h => .inl h, fun _ h => h, hO⟩⟩
  · have h0 : x = fb ∨ x = hb ∨ x = lb ∨ r.ownBlock = some x := (hX1 x hx).elim .inl (fun e => .inr (.inr (.inr e)))
    refine ⟨fun hm => ?_, h.out x h0⟩
    have h1 := h.lt0 x hm
    have h2 := (h.new h0).1
    omega
  · rcases hx with e | e | e | e
    · exact h.out x (.inl e)
    · exact h.out x (.inr (.inl e))
    · exact h.out x (.inr (.inr (.inl e)))
    · rcases hO x e with e | e
      · exact h.out x (.inr (.inr (.inr e)))
      · have hg : G x = none := by
          cases hg : G x with
          | none => rfl
          | some P => have := h.tm.mem.lt (a := x) (by rw [hg]; simp); omega
        exact ⟨hg, fun hr => by have := h.tm.mem.rows x hr; omega⟩
theorem WK.row {w0 w w' : World} {O : Nat → Prop} {t p b m sm rb : Nat} {s : St} {q : Pg} {Dn S : Stt} {D : Dk} {G G' : Gh} {Rw Rw' : Nat → Prop} {fb hb lb : Nat} {hi : ByteArray} {lim : Int} {xs : List Kv} {r r' : Value} (h : WK w0 w O t p b m sm rb s q Dn S D G Rw fb hb lb hi lim xs r) (hg : TGo fb p w w' G G' Rw Rw' r r') {y : Nat} (hy : Rw y) : w'.heap[y]? = w.heap[y]? := by
  have h1 := not7 (h.tm.own y (.inr hy)).1
  exact (hg.keep (h.tm.mem.rows y hy) (fun e => (h.out y (.inl e)).2 hy) h1.2.1 (h.tm.mem.apart y hy) (fun e => (h.out y (.inr (.inr (.inr e)))).2 hy)).1

theorem scanRun_one (hi : ByteArray) (lim : Int) (xs : List Kv) (x : Kv) : scanRun hi lim xs [x] = scanStep hi lim xs x := by
  rw [scanRun_cons]
  cases h : scanStep hi lim xs x with
  | mk a b => cases b <;> simp [scanRun]

end Go.Proofs.YthgpjkcgccdldaaGreatDoor

namespace Go.Proofs.YthgpjkcgccdldaaGreatDoor
open Go.RowKit Go.Maps

theorem fromK_pos {l : List Kv} {lo : ByteArray} {i : Nat} (hp : IsPos (keysOf l) lo i) : fromK lo l = l.drop i := by
  obtain ⟨h1, h2, h3⟩ := hp
  conv => lhs; rw [← List.take_append_drop i l]
  rw [fromK_append, fromK_none fun x hx => ?_, fromK_all fun x hx => ?_, List.nil_append]
  · obtain ⟨m, hm, rfl⟩ := List.mem_drop_iff_getElem.1 hx
    have := h3 (i + m) (by rw [keysOf_length]; omega) (by omega)
    rw [keysOf_get (by omega)] at this
    exact this
  · obtain ⟨m, hm, rfl⟩ := List.mem_take_iff_getElem.1 hx
    have := h2 m (by rw [keysOf_length]; omega) (by omega)
    rw [keysOf_get (by omega)] at this
    exact this

theorem scanRun_stop {hi : ByteArray} {lim : Int} {xs L : List Kv} {j : Nat} (hj : j < L.length) (h1 : (scanRun hi lim xs (L.take j)).2 = true) (h2 : (scanStep hi lim (scanRun hi lim xs (L.take j)).1 L[j]).2 = false) : scanRun hi lim xs L = ((scanStep hi lim (scanRun hi lim xs (L.take j)).1 L[j]).1, false) := by
  conv => lhs; rw [← List.take_append_drop j L, List.drop_eq_getElem_cons hj]
  rw [scanRun_append, if_pos h1, scanRun_cons, if_neg (by rw [h2]; simp)]

set_option maxRecDepth 100000 in
set_option maxHeartbeats 6400000 in
theorem tm_walk_leaf {w0 w : World} {O : Nat → Prop} {t p b m sm rb : Nat} {s : St} {q : Pg} {Dn S : Stt} {D : Dk} {G : Gh} {Rw : Nat → Prop} {fb hb lb : Nat} {hi lo : ByteArray} {lim : Int} {xs : List Kv} {r : Value} (h : WK w0 w O t p b m sm rb s q Dn S D G Rw fb hb lb hi lim xs r) {a : Nat} {l : List Kv} (hm : Means G D 0 a l) (hn : NOk (h := 0) l) (hx : xs.length + l.length ≤ 400000) :
    Calls Tryz.prog 74 #[.pointer (some ⟨t, 0, none⟩), .pointer (some ⟨a, 0, none⟩), .string lo, .func (.func 75) #[] #[.pointer (some ⟨hb, 0, none⟩), .pointer (some ⟨fb, 0, none⟩), .pointer (some ⟨lb, 0, none⟩)]] w fun e w' => e = .returned (.bool (scanRun hi lim xs (fromK lo l)).2) ∧ ∃ G' Rw' r' rd, WK w0 w' O t p b m sm rb s { q with rd := rd } Dn S D G' Rw' fb hb lb hi lim (scanRun hi lim xs (fromK lo l)).1 r' ∧ Grown D G G' ∧ TGo fb p w w' G G' Rw Rw' r r' := by
  have hta := ta_ll
  have htb := ta_lb
  obtain ⟨R, hR⟩ : ∃ R, R = scanRun hi lim xs (fromK lo l) := ⟨_, rfl⟩
  rw [← hR]
  have HRes := hide hR
  clear hR
  obtain ⟨_, _, _, hord⟩ := hn.ex
  have hris : Rises (keysOf l) := ord_rises hord
  have hlen : l.length ≤ 300 := by
    have h1 : 2 * l.length ≤ sizeN (h := 0) l := len_size (h := 0) l
    have := hn.size
    omega
  have HN := hide (tm_node h.tm hm)
  have H := hide h
  have HRis := hide hris
  have HXs := hide hx
  clear hm hn hx hord hris h
  go_enter Tryz.func74, Tryz.ntmps74
  go_wp2_with fail
  with_reducible refine HN.out.mono ?_
  rintro e w1 ⟨T, v, nd, G1, Rw1, rd1, rfl, hN, hNode, hTM, hGr, hS⟩
  obtain rfl : nd = .inl l := hNode
  obtain ⟨_, rfl, bb, off, c, rfl, hK, hc, hRb⟩ := hN
  have H1 := hide (H.out.node hTM hS)
  have HGr := hide hGr
  have HGo1 : Hid (TGo fb p w w1 G G1 Rw Rw1 r r) := by
    obtain ⟨X, hX, hX1⟩ := hS.turn
    exact ⟨⟨X, hX, fun x hx => (hX1 x hx).elim (fun e => .inr (.inl e)) (fun e => .inr (.inr (.inl e)))⟩, hS.newG, hS.newR, hS.oldR, fun _ h => .inl h⟩
  have HFd := hide (lfind_any (some ⟨bb, off, none⟩) c l lo HRis.out (by omega) w1 hK)
  have HK := hide hK
  have HRb := hide hRb
  have hc1 := hc.1
  have hc2 := hc.2
  clear hTM hS hGr hK hRb hc HN
  obtain ⟨n, HLn⟩ : ∃ n, Hid (l.length = n) := ⟨_, rfl⟩
  rw [HLn.out] at hlen hc1 HFd ⊢
  have HTr := H1.out.tm.lts t (by simp)
  go_wp2_with fail
  with_reducible refine HFd.out.mono ?_
  rintro e w2 ⟨i, f, rfl, hpos, _, hT2⟩
  have H2 := hide (H1.out.quiet hT2)
  have HGo2 := hide (HGo1.out.quiet hT2)
  have hi1 := hpos.1
  rw [keysOf_length] at hi1
  have hi2' : i ≤ n := by rw [← HLn.out]; exact hi1
  have HPos := hide (fromK_pos hpos)
  have hsl := fun w => lslice_hi (some ⟨bb, off, none⟩) n c i w hi2'
  have HB2 := hide (hT2.block bb (H1.out.tm.mem.rows bb HRb.out) (by simp))
  have HKh : Hid (∀ u : World, u.heap[bb]? = w1.heap[bb]? → KVsAt u (hi2 (some ⟨bb, off, none⟩) c i) (l.drop i)) := fun u hu => (HK.out.same hu).hi c i (by have := HLn.out; omega)
  clear hT2 hpos hi1 HTr
  generalize hi2 (some ⟨bb, off, none⟩) c i = a2 at *
  go_wp2_with fail
  have HL : Hid ((l.drop i).length = n - i) := by
    show (l.drop i).length = n - i
    rw [List.length_drop, HLn.out]
  go_loopw [16, 54] (fun _ x wr => ∃ (j : Nat) (r' : Value), j ≤ n - i ∧ x = .int .i64 (j : Nat) ∧ Hid (WK w0 wr O t p b m sm rb s { q with rd := rd1 } Dn S D G1 Rw1 fb hb lb hi lim (scanRun hi lim xs ((l.drop i).take j)).1 r' ∧ (scanRun hi lim xs ((l.drop i).take j)).2 = true ∧ TGo fb p w2 wr G1 G1 Rw1 Rw1 r r')) (fun _ x _ => n - i - (intOf x).toNat)
  case atStart => exact ⟨0, r, Nat.zero_le _, rfl, H2.out, rfl, TGo.refl _ _ _ _ _ _⟩
  case round =>
    obtain ⟨j, r', hj, rfl, HR⟩ := hrel
    have hbr : wr.heap[bb]? = w1.heap[bb]? := (H2.out.row HR.out.2.2 HRb.out).trans HB2.out
    have hsr := HR.out.1.tm.lts t (by simp)
    by_cases hlt : j < n - i
    · have hjl : j < (l.drop i).length := by rw [HL.out]; exact hlt
      obtain ⟨b', off', rfl, hk0, hk1⟩ := (HKh.out wr hbr).at hjl
      have hbl := lt_of_cell hk0
      have hTa : Turn [] wr (wr.alloc (.cells #[.string (l.drop i)[j].1, .string (l.drop i)[j].2] 55)) := (Turn.refl [] wr).alloc _
      have hw0 : w0.heap.size ≤ wr.heap.size := by have := HR.out.1.new (.inl rfl); omega
      have hWa := HR.out.1.quiet hTa
      have hsl2 := scanRun_len hi lim ((l.drop i).take j) xs
      rw [List.length_take] at hsl2
      have HC := hide (scan1G w0 fb hb lb hi lim (scanRun hi lim xs ((l.drop i).take j)).1 r' (l.drop i)[j].1 (l.drop i)[j].2 (by have := HXs.out; have := HLn.out; have := HL.out; omega) _ (Nat.le_trans hw0 hTa.size) hWa.fd)
      have HTk : Hid (scanRun hi lim xs ((l.drop i).take (j + 1)) = scanStep hi lim (scanRun hi lim xs ((l.drop i).take j)).1 (l.drop i)[j]) := by
        show _ = _
        rw [List.take_succ_eq_append_getElem hjl, scanRun_append, if_pos HR.out.2.1, scanRun_one]
      have HEnd : Hid ((scanStep hi lim (scanRun hi lim xs ((l.drop i).take j)).1 (l.drop i)[j]).2 = false → R = ((scanStep hi lim (scanRun hi lim xs ((l.drop i).take j)).1 (l.drop i)[j]).1, false)) := fun h2 => by
        rw [HRes.out, HPos.out]
        exact scanRun_stop hjl HR.out.2.1 h2
      have HWa := hide hWa
      have HGa : Hid (TGo fb p wr (wr.alloc (.cells #[.string (l.drop i)[j].1, .string (l.drop i)[j].2] 55)) G1 G1 Rw1 Rw1 r' r') := (TGo.refl fb p wr G1 Rw1 r').quiet hTa
      rcases hst : scanStep hi lim (scanRun hi lim xs ((l.drop i).take j)).1 (l.drop i)[j] with ⟨ys, go⟩
      rw [hst] at HTk HEnd
      rw [show ((l.drop i)[j].1, (l.drop i)[j].2) = (l.drop i)[j] from rfl, hst] at HC
      dsimp only at HC
      clear hTa hWa hsl2 hst
      generalize (l.drop i)[j].1 = jk at *
      generalize (l.drop i)[j].2 = jv at *
      clear hjl
      cases go with
      | true =>
        go_wp2_with fail
        with_reducible refine HC.out.mono ?_
        rintro e w4 ⟨rfl, r4, hF4, hX4, hO4⟩
        have H4 := hide (HWa.out.call hF4 hX4 hO4)
        clear hF4 hX4 hO4 HC
        go_wp2_with fail
        go_roundw
        case rel => exact ⟨j + 1, r4, by omega, by go_num, by rw [HTk.out]; exact H4.out.1, by rw [HTk.out], (HR.out.2.2.trans HGa.out).trans H4.out.2⟩
        case measure => simp [intOf]; omega
      | false =>
        go_wp2_with fail
        with_reducible refine HC.out.mono ?_
        rintro e w4 ⟨rfl, r4, hF4, hX4, hO4⟩
        have H4 := hide (HWa.out.call hF4 hX4 hO4)
        clear hF4 hX4 hO4 HC
        go_wp2_with fail
        go_ret
        rw [HEnd.out (by first | trivial | rfl)]
        exact ⟨rfl, G1, Rw1, r4, rd1, H4.out.1, HGr.out, HGo2.out.trans ((HR.out.2.2.trans HGa.out).trans H4.out.2)⟩
    · obtain rfl : j = n - i := by omega
      have HAll : Hid (R = scanRun hi lim xs ((l.drop i).take (n - i))) := by
        show R = _
        rw [HRes.out, HPos.out, ← HL.out, List.take_length]
      clear hbr
      go_wp2_with fail
      go_ret
      rw [HAll.out]
      exact ⟨congrArg (fun b => Ending.returned (.bool b)) HR.out.2.1.symm, G1, Rw1, r', rd1, HR.out.1, HGr.out, HGo2.out.trans HR.out.2.2⟩

end Go.Proofs.YthgpjkcgccdldaaGreatDoor

namespace Go.Proofs.YthgpjkcgccdldaaGreatDoor
open Go.RowKit Go.Maps

/-- What is ahead of a key's kid is ahead of the key. -/
theorem fromK_kid {h : Nat} {G : Gh} {M : Nat → List (En h) → Prop} {ks : List (ByteArray × Nat)} {l : List (En (h + 1))} {lo : ByteArray} {i : Nat} (hn : NOk l) (hb : Both (KidIs G M) ks l) (hk : IsKid ks lo i) : fromK lo (flatN l) = fromK lo (flatN (l.drop i)) := by
  obtain ⟨_, hi, _, h2⟩ := hn.ex
  obtain ⟨k1, k2, _⟩ := hk
  have hlen := hb.length
  have hil : i < l.length := by omega
  conv => lhs; rw [← List.take_append_drop i l]
  rw [flatN_append, fromK_append]
  rcases k2 k1 with rfl | k3
  · simp [flatN, fromK]
  · have h3 := h2
    rw [← List.take_append_drop i l, List.drop_eq_getElem_cons hil] at h3
    have h4 := (Ord.append.1 h3).1
    have h5 := row_below (x := l[i].key) h4
    rw [(hb.get i k1 hil).1] at k3
    rw [fromK_none fun x hx => klt_of_klt_of_le (h5 x hx) k3, List.nil_append]

theorem flatN_take {h : Nat} {L : List (En (h + 1))} {j : Nat} (hj : j < L.length) : flatN (L.take (j + 1)) = flatN (L.take j) ++ flatN (kidsOf L[j]) := by
  rw [List.take_succ_eq_append_getElem hj, flatN_append]
  congr 1
  show flatN (kidsOf L[j]) ++ [] = _
  rw [List.append_nil]
theorem flat_le {h : Nat} (L : List (En h)) (j : Nat) : (flatN (L.take j)).length ≤ (flatN L).length := by
  conv => rhs; rw [← List.take_append_drop j L]
  rw [flatN_append, List.length_append]
  omega

set_option maxRecDepth 100000 in
set_option maxHeartbeats 6400000 in
theorem tm_walk_branch {w0 : World} {O : Nat → Prop} {t p b m sm rb : Nat} {s : St} {Dn S : Stt} {D : Dk} {fb hb lb : Nat} {hi lo : ByteArray} {lim : Int} {hh : Nat}
    (IH : ∀ (w : World) (q : Pg) (G : Gh) (Rw : Nat → Prop) (xs : List Kv) (r : Value) (a : Nat) (l : List (En hh)), WK w0 w O t p b m sm rb s q Dn S D G Rw fb hb lb hi lim xs r → Means G D hh a l → NOk l → xs.length + (flatN l).length ≤ 400000 → Calls Tryz.prog 74 #[.pointer (some ⟨t, 0, none⟩), .pointer (some ⟨a, 0, none⟩), .string lo, .func (.func 75) #[] #[.pointer (some ⟨hb, 0, none⟩), .pointer (some ⟨fb, 0, none⟩), .pointer (some ⟨lb, 0, none⟩)]] w fun e w' => e = .returned (.bool (scanRun hi lim xs (fromK lo (flatN l))).2) ∧ ∃ G' Rw' r' rd, WK w0 w' O t p b m sm rb s { q with rd := rd } Dn S D G' Rw' fb hb lb hi lim (scanRun hi lim xs (fromK lo (flatN l))).1 r' ∧ Grown D G G' ∧ TGo fb p w w' G G' Rw Rw' r r')
    {w : World} {q : Pg} {G : Gh} {Rw : Nat → Prop} {xs : List Kv} {r : Value} (h : WK w0 w O t p b m sm rb s q Dn S D G Rw fb hb lb hi lim xs r) {a : Nat} {l : List (En (hh + 1))} (hm : Means G D (hh + 1) a l) (hn : NOk l) (hx : xs.length + (flatN l).length ≤ 400000) :
    Calls Tryz.prog 74 #[.pointer (some ⟨t, 0, none⟩), .pointer (some ⟨a, 0, none⟩), .string lo, .func (.func 75) #[] #[.pointer (some ⟨hb, 0, none⟩), .pointer (some ⟨fb, 0, none⟩), .pointer (some ⟨lb, 0, none⟩)]] w fun e w' => e = .returned (.bool (scanRun hi lim xs (fromK lo (flatN l))).2) ∧ ∃ G' Rw' r' rd, WK w0 w' O t p b m sm rb s { q with rd := rd } Dn S D G' Rw' fb hb lb hi lim (scanRun hi lim xs (fromK lo (flatN l))).1 r' ∧ Grown D G G' ∧ TGo fb p w w' G G' Rw Rw' r r' := by
  have hta := ta_bb
  obtain ⟨R, hR⟩ : ∃ R, R = scanRun hi lim xs (fromK lo (flatN l)) := ⟨_, rfl⟩
  rw [← hR]
  have HRes := hide hR
  have hlen : l.length ≤ 300 := by have := len_size l; have := hn.size; omega
  have HN := hide (tm_node h.tm hm)
  have H := hide h
  have HNk := hide hn
  have HXs := hide hx
  have HIH := hide IH
  clear hm hn hx h hR IH
  go_enter Tryz.func74, Tryz.ntmps74
  go_wp2_with fail
  with_reducible refine HN.out.mono ?_
  rintro e w1 ⟨T, v, nd, G1, Rw1, rd1, rfl, hN, hNode, hTM, hGr, hS⟩
  obtain ⟨ks, rfl, hB⟩ := hNode
  obtain ⟨_, rfl, bb, off, c, rfl, hK, hc, hRb, _⟩ := hN
  have H1 := hide (H.out.node hTM hS)
  have HGr := hide hGr
  have HGo1 : Hid (TGo fb p w w1 G G1 Rw Rw1 r r) := by
    obtain ⟨X, hX, hX1⟩ := hS.turn
    exact ⟨⟨X, hX, fun x hx => (hX1 x hx).elim (fun e => .inr (.inl e)) (fun e => .inr (.inr (.inl e)))⟩, hS.newG, hS.newR, hS.oldR, fun _ h => .inl h⟩
  have hkl := hB.length
  have hne := HNk.out.some (by omega)
  have hris : Rises (lowsOf ks) := by
    obtain ⟨_, _, _, ho⟩ := HNk.out.ex
    rw [both_lows hB]
    exact ord_rises ho
  have HFd := hide (bfind_any (some ⟨bb, off, none⟩) c ks lo hris (by omega) (by omega) w1 hK)
  have HB := hide hB
  have HK := hide hK
  have HRb := hide hRb
  have hc1 := hc.1
  have hc2 := hc.2
  clear hTM hS hGr hK hRb hc HN hB hris hne
  obtain ⟨n, HLn⟩ : ∃ n, Hid (ks.length = n) := ⟨_, rfl⟩
  have HLl : Hid (l.length = n) := by show l.length = n; rw [← HLn.out]; omega
  rw [HLl.out] at hlen
  clear hkl
  rw [HLn.out] at hc1 HFd ⊢
  have HTr := H1.out.tm.lts t (by simp)
  go_wp2_with fail
  with_reducible refine HFd.out.mono ?_
  rintro e w2 ⟨i, rfl, hkid, hT2⟩
  have H2 := hide (H1.out.quiet hT2)
  have HGo2 := hide (HGo1.out.quiet hT2)
  have hi2' : i ≤ n := by have := hkid.1; rw [HLn.out] at this; omega
  have HPos := hide (fromK_kid HNk.out HB.out hkid)
  have hsl := fun w => kslice_hi (some ⟨bb, off, none⟩) n c i w hi2'
  have HB2 := hide (hT2.block bb (H1.out.tm.mem.rows bb HRb.out) (by simp))
  have HKh : Hid (∀ u : World, u.heap[bb]? = w1.heap[bb]? → KidsAt u (hi2 (some ⟨bb, off, none⟩) c i) (ks.drop i)) := fun u hu => (HK.out.same hu).hi c i (by have := HLn.out; omega)
  have HBd := hide (HB.out.drop i)
  clear hT2 hkid HTr
  generalize hi2 (some ⟨bb, off, none⟩) c i = a2 at *
  go_wp2_with fail
  have HL : Hid ((ks.drop i).length = n - i) := by
    show (ks.drop i).length = n - i
    rw [List.length_drop, HLn.out]
  have HL2 : Hid ((l.drop i).length = n - i) := by
    show (l.drop i).length = n - i
    rw [List.length_drop, HLl.out]
  go_loopw [11, 29] (fun _ x wr => ∃ (j : Nat) (r' : Value) (G' : Gh) (Rw' : Nat → Prop) (rd : Bool), j ≤ n - i ∧ x = .int .i64 (j : Nat) ∧ Hid (WK w0 wr O t p b m sm rb s { q with rd := rd } Dn S D G' Rw' fb hb lb hi lim (scanRun hi lim xs (fromK lo (flatN ((l.drop i).take j)))).1 r' ∧ (scanRun hi lim xs (fromK lo (flatN ((l.drop i).take j)))).2 = true ∧ TGo fb p w2 wr G1 G' Rw1 Rw' r r' ∧ Grown D G1 G')) (fun _ x _ => n - i - (intOf x).toNat)
  case atStart => exact ⟨0, r, G1, Rw1, rd1, Nat.zero_le _, rfl, H2.out, rfl, TGo.refl _ _ _ _ _ _, Grown.refl _ _⟩
  case round =>
    obtain ⟨j, r', G', Rw', rd, hj, rfl, HR⟩ := hrel
    have hbr : wr.heap[bb]? = w1.heap[bb]? := (H2.out.row HR.out.2.2.1 HRb.out).trans HB2.out
    have hsr := HR.out.1.tm.lts t (by simp)
    by_cases hlt : j < n - i
    · have hjl : j < (ks.drop i).length := by rw [HL.out]; exact hlt
      have hjl2 : j < (l.drop i).length := by rw [HL2.out]; exact hlt
      obtain ⟨b', off', rfl, hk0, hk1⟩ := (HKh.out wr hbr).at hjl
      have hbl := lt_of_cell hk0
      have hTa : Turn [] wr (wr.alloc (.cells #[.string (ks.drop i)[j].1, .pointer (some ⟨(ks.drop i)[j].2, 0, none⟩)] 173)) := (Turn.refl [] wr).alloc _
      have hWa := HR.out.1.quiet hTa
      obtain ⟨q0, q1, q2⟩ := HBd.out.get j hjl hjl2
      have hfl := flat_le (l.drop i) (j + 1)
      have hfl2 : (flatN (l.drop i)).length ≤ (flatN l).length := by
        conv => rhs; rw [← List.take_append_drop i l]
        rw [flatN_append, List.length_append]
        omega
      rw [flatN_take hjl2, List.length_append] at hfl
      have hsl2 := scanRun_len hi lim (fromK lo (flatN ((l.drop i).take j))) xs
      have hfk := fromK_len lo (flatN ((l.drop i).take j))
      have hnk : NOk (kidsOf (l.drop i)[j]) := by
        rw [List.getElem_drop]
        exact HNk.out.down (by have := HLl.out; omega)
      have HC := hide (HIH.out _ _ G' Rw' _ r' (ks.drop i)[j].2 (kidsOf (l.drop i)[j]) hWa (q2.grown HR.out.2.2.2) hnk (by have := HXs.out; omega))
      have HTk : Hid (scanRun hi lim xs (fromK lo (flatN ((l.drop i).take (j + 1)))) = scanRun hi lim (scanRun hi lim xs (fromK lo (flatN ((l.drop i).take j)))).1 (fromK lo (flatN (kidsOf (l.drop i)[j])))) := by
        show _ = _
        rw [flatN_take hjl2, fromK_append, scanRun_append, if_pos HR.out.2.1]
      have HEnd : Hid ((scanRun hi lim xs (fromK lo (flatN ((l.drop i).take (j + 1))))).2 = false → R = scanRun hi lim xs (fromK lo (flatN ((l.drop i).take (j + 1))))) := fun h2 => by
        have e : fromK lo (flatN (l.drop i)) = fromK lo (flatN ((l.drop i).take (j + 1))) ++ fromK lo (flatN ((l.drop i).drop (j + 1))) := by rw [← fromK_append, ← flatN_append, List.take_append_drop]
        rw [HRes.out, HPos.out, e, scanRun_append, if_neg (by rw [h2]; simp)]
      have HGa : Hid (TGo fb p wr (wr.alloc (.cells #[.string (ks.drop i)[j].1, .pointer (some ⟨(ks.drop i)[j].2, 0, none⟩)] 173)) G' G' Rw' Rw' r' r') := (TGo.refl fb p wr G' Rw' r').quiet hTa
      rw [← HTk.out] at HC
      rcases hst : scanRun hi lim xs (fromK lo (flatN ((l.drop i).take (j + 1)))) with ⟨ys, go⟩
      rw [hst] at HEnd HC
      dsimp only at HC
      have HSt := hide hst
      clear hTa hWa hsl2 hst hfl hfl2 hfk hnk q0 q1 q2 HTk hjl2
      generalize (ks.drop i)[j].1 = jk at *
      generalize (ks.drop i)[j].2 = jv at *
      clear hjl
      cases go with
      | true =>
        go_wp2_with fail
        with_reducible refine HC.out.mono ?_
        rintro e w4 ⟨rfl, G4, Rw4, r4, rd4, h4, hg4, ht4⟩
        have H4 := hide h4
        have HG4 := hide (HR.out.2.2.2.trans hg4)
        have HT4 := hide ((HR.out.2.2.1.trans HGa.out).trans ht4)
        clear h4 hg4 ht4 HC
        go_wp2_with fail
        go_roundw
        case rel => exact ⟨j + 1, r4, G4, Rw4, rd4, by omega, by go_num, by rw [HSt.out]; exact H4.out, by rw [HSt.out], HT4.out, HG4.out⟩
        case measure => simp [intOf]; omega
      | false =>
        go_wp2_with fail
        with_reducible refine HC.out.mono ?_
        rintro e w4 ⟨rfl, G4, Rw4, r4, rd4, h4, hg4, ht4⟩
        have H4 := hide h4
        have HG4 := hide (HR.out.2.2.2.trans hg4)
        have HT4 := hide ((HR.out.2.2.1.trans HGa.out).trans ht4)
        clear h4 hg4 ht4 HC
        go_wp2_with fail
        go_ret
        rw [HEnd.out (by first | trivial | rfl)]
        exact ⟨rfl, G4, Rw4, r4, rd4, H4.out, HGr.out.trans HG4.out, HGo2.out.trans HT4.out⟩
    · obtain rfl : j = n - i := by omega
      have HAll : Hid (R = scanRun hi lim xs (fromK lo (flatN ((l.drop i).take (n - i))))) := by
        show R = _
        rw [HRes.out, HPos.out, ← HL2.out, List.take_length]
      clear hbr
      go_wp2_with fail
      go_ret
      rw [HAll.out]
      exact ⟨congrArg (fun b => Ending.returned (.bool b)) HR.out.2.1.symm, G', Rw', r', rd, HR.out.1, HGr.out.trans HR.out.2.2.2, HGo2.out.trans HR.out.2.2.1⟩

/-- walk of any place. -/
theorem tm_walk {w0 : World} {O : Nat → Prop} {t p b m sm rb : Nat} {s : St} {Dn S : Stt} {D : Dk} {fb hb lb : Nat} {hi lo : ByteArray} {lim : Int} : ∀ (hh : Nat) (w : World) (q : Pg) (G : Gh) (Rw : Nat → Prop) (xs : List Kv) (r : Value) (a : Nat) (l : List (En hh)), WK w0 w O t p b m sm rb s q Dn S D G Rw fb hb lb hi lim xs r → Means G D hh a l → NOk l → xs.length + (flatN l).length ≤ 400000 → Calls Tryz.prog 74 #[.pointer (some ⟨t, 0, none⟩), .pointer (some ⟨a, 0, none⟩), .string lo, .func (.func 75) #[] #[.pointer (some ⟨hb, 0, none⟩), .pointer (some ⟨fb, 0, none⟩), .pointer (some ⟨lb, 0, none⟩)]] w fun e w' => e = .returned (.bool (scanRun hi lim xs (fromK lo (flatN l))).2) ∧ ∃ G' Rw' r' rd, WK w0 w' O t p b m sm rb s { q with rd := rd } Dn S D G' Rw' fb hb lb hi lim (scanRun hi lim xs (fromK lo (flatN l))).1 r' ∧ Grown D G G' ∧ TGo fb p w w' G G' Rw Rw' r r' := by
  intro hh
  induction hh with
  | zero =>
    intro w q G Rw xs r a l h hm hn hx
    rw [flatN_zero] at hx ⊢
    exact tm_walk_leaf h hm hn hx
  | succ hh ih =>
    intro w q G Rw xs r a l h hm hn hx
    exact tm_walk_branch ih h hm hn hx

end Go.Proofs.YthgpjkcgccdldaaGreatDoor

namespace Go.Proofs.YthgpjkcgccdldaaGreatDoor
open Go.RowKit Go.Maps

set_option maxRecDepth 100000 in
set_option maxHeartbeats 1600000 in
theorem tm_walk_nil {w0 w : World} {O : Nat → Prop} {t p b m sm rb : Nat} {s : St} {q : Pg} {Dn S : Stt} {D : Dk} {G : Gh} {Rw : Nat → Prop} {fb hb lb : Nat} {hi lo : ByteArray} {lim : Int} {xs : List Kv} {r : Value} (h : WK w0 w O t p b m sm rb s q Dn S D G Rw fb hb lb hi lim xs r) :
    Calls Tryz.prog 74 #[.pointer (some ⟨t, 0, none⟩), .pointer none, .string lo, .func (.func 75) #[] #[.pointer (some ⟨hb, 0, none⟩), .pointer (some ⟨fb, 0, none⟩), .pointer (some ⟨lb, 0, none⟩)]] w fun e w' => e = .returned (.bool true) ∧ WK w0 w' O t p b m sm rb s q Dn S D G Rw fb hb lb hi lim xs r ∧ Turn [] w w' := by
  have hta := ta_ll
  have htb := ta_lb
  have H := hide h
  clear h
  go_enter Tryz.func74, Tryz.ntmps74
  go_wp2_with fail
  refine (nodeAt_nil t w).mono ?_
  rintro e w1 ⟨b, rfl, hT1⟩
  have HT1 := hide hT1
  clear hT1
  go_wp2_with fail
  refine (lfind_any (some ⟨b, 0, none⟩) 0 [] lo (by simp [Rises, keysOf]) (by simp) w1 (.inl rfl)).mono ?_
  rintro e w2 ⟨i, f, rfl, hpos, _, hT2⟩
  obtain rfl : i = 0 := by have := hpos.1; simpa [keysOf] using this
  have HT2 := hide (HT1.out.trans hT2)
  clear hT2 hpos
  go_wp2_with fail
  go_loopw [16, 54] (fun _ x wr => x = .int .i64 0 ∧ Hid (Turn [] w wr)) (fun _ _ _ => 0)
  case atStart => exact ⟨rfl, HT2.out⟩
  case round =>
    obtain ⟨rfl, HTr⟩ := hrel
    go_wp2_with fail
    go_ret
    exact ⟨rfl, H.out.quiet HTr.out, HTr.out⟩

/-- What Scan tells. -/
def scanL (lo hi : ByteArray) (lim : Int) (l : List Kv) : List Kv := (scanRun hi lim [] (fromK lo l)).1
theorem scanL_all (l : List Kv) : scanL ⟨#[]⟩ ⟨#[]⟩ 0 l = l := by
  unfold scanL
  rw [scanRun_all, fromK_empty]
  rfl

/-- walk of a root. -/
theorem tm_walk_root {w0 w : World} {O : Nat → Prop} {t p b m sm rb : Nat} {s : St} {q : Pg} {Dn S : Stt} {D : Dk} {G : Gh} {Rw : Nat → Prop} {fb hb lb : Nat} {hi lo : ByteArray} {lim : Int} {r : Value} {rt : Root?} (h : WK w0 w O t p b m sm rb s q Dn S D G Rw fb hb lb hi lim [] r) (hR : RtAt G D S.root rt) (hOk : RootOk rt) (hx : (flatR rt).length ≤ 400000) :
    Calls Tryz.prog 74 #[.pointer (some ⟨t, 0, none⟩), rootV S.root, .string lo, .func (.func 75) #[] #[.pointer (some ⟨hb, 0, none⟩), .pointer (some ⟨fb, 0, none⟩), .pointer (some ⟨lb, 0, none⟩)]] w fun e w' => (∃ go, e = .returned (.bool go)) ∧ ∃ G' Rw' r' rd, WK w0 w' O t p b m sm rb s { q with rd := rd } Dn S D G' Rw' fb hb lb hi lim (scanL lo hi lim (flatR rt)) r' ∧ Grown D G G' ∧ TGo fb p w w' G G' Rw Rw' r r' := by
  cases rt with
  | none =>
    rw [rtat_none hR]
    refine (tm_walk_nil h).mono ?_
    rintro e w' ⟨rfl, hW, hT⟩
    exact ⟨⟨true, rfl⟩, G, Rw, r, q.rd, hW, Grown.refl _ _, (TGo.refl _ _ _ _ _ _).quiet hT⟩
  | some x =>
    obtain ⟨hh, e⟩ := x
    obtain ⟨a, P, hro, _, _, hm⟩ := rtat_some hR
    rw [hro]
    refine (tm_walk hh w q G Rw [] r a (kidsOf e) h hm hOk.nok (by show 0 + (flatN (kidsOf e)).length ≤ 400000; rw [Nat.zero_add]; exact hx)).mono ?_
    rintro e' w' ⟨rfl, G', Rw', r', rd, h1, h2, h3⟩
    exact ⟨⟨_, rfl⟩, G', Rw', r', rd, h1, h2, h3⟩

set_option maxRecDepth 100000 in
set_option maxHeartbeats 1600000 in
theorem tm_scan {w : World} {O : Nat → Prop} {t p b m sm rb : Nat} {s : St} {q : Pg} {Dn S : Stt} {D : Dk} {G : Gh} {Rw : Nat → Prop} {ds : List Nat} (h : TD w O t p b m sm rb s q Dn S D G Rw ds) {rt : Root?} (hR : RtAt G D S.root rt) (hOk : RootOk rt) (lo hi : ByteArray) (lim : Int) (hx : (flatR rt).length ≤ 400000) :
    Calls Tryz.prog 49 #[.pointer (some ⟨t, 0, none⟩), .string lo, .string hi, .int .i64 lim] w fun e w' => ∃ r, e = .returned r ∧ w'.ownsRow w.heap.size 55 2 r (scanL lo hi lim (flatR rt)).length (flat (kvCells (scanL lo hi lim (flatR rt)))) ∧ ∃ G' Rw' rd, TD w' O t p b m sm rb s { q with rd := rd } Dn S D G' Rw' ds ∧ Grown D G G' ∧ TStep p w w' G G' Rw Rw' ∧ ∀ g, r.ownBlock = some g → G' g = none ∧ ¬ Rw' g := by
  have hT3 : Turn [] w (((w.alloc (.cells #[.string hi] 9)).alloc (.cells #[.int .i64 lim] 3)).alloc (.cells #[.slice none 0 0] 31)) := (((Turn.refl [] w).alloc _).alloc _).alloc _
  have e1 : w.heap.size + 1 = (w.alloc (.cells #[.string hi] 9)).heap.size := by simp
  have e2 : w.heap.size + 2 = ((w.alloc (.cells #[.string hi] 9)).alloc (.cells #[.int .i64 lim] 3)).heap.size := by simp
  have hnew : ∀ x, w.heap.size ≤ x → G x = none ∧ ¬ Rw x := fun x hx => ⟨(h.newBlock hx).2.1, fun hr => by have := h.tm.mem.rows x hr; omega⟩
  have hFd : Fd w (((w.alloc (.cells #[.string hi] 9)).alloc (.cells #[.int .i64 lim] 3)).alloc (.cells #[.slice none 0 0] 31)) (w.heap.size + 2) w.heap.size (w.heap.size + 1) hi lim [] (.slice none 0 0) := by
    refine ⟨?_, ?_, ?_, ?_, World.ownsRow_nil _ _ _ _, by simp [Value.ownBlock], ⟨by omega, by omega⟩, by omega, by omega, by omega⟩
    · rw [e2]
      exact World.cell?_alloc_at _ _ _ _ rfl
    · rw [e2]
      exact World.frozen?_alloc_at _ _ _ _ rfl
    · exact Lib.cell?_alloc_some _ (Lib.cell?_alloc_some _ (World.cell?_alloc_at _ _ _ _ rfl))
    · rw [e1]
      exact Lib.cell?_alloc_some _ (World.cell?_alloc_at _ _ _ _ rfl)
  have hWK : WK w (((w.alloc (.cells #[.string hi] 9)).alloc (.cells #[.int .i64 lim] 3)).alloc (.cells #[.slice none 0 0] 31)) O t p b m sm rb s q Dn S D G Rw (w.heap.size + 2) w.heap.size (w.heap.size + 1) hi lim [] (.slice none 0 0) := by
    refine ⟨h.tm.quiet hT3, hFd, fun x hx => hnew x ?_, h.tm.lts⟩
    rcases hx with rfl | rfl | rfl | hx
    · omega
    · omega
    · omega
    · cases hx
  have HC := hide (tm_walk_root (lo := lo) hWK hR hOk hx)
  have HT3 := hide hT3
  have h6 : (((w.alloc (.cells #[.string hi] 9)).alloc (.cells #[.int .i64 lim] 3)).alloc (.cells #[.slice none 0 0] 31)).cell? ⟨t, 6, none⟩ = some (rootV S.root) := (h.tm.tr.turn hT3 (by simp)).now.c0
  have H := hide h
  obtain ⟨ra, hrv⟩ : ∃ ra, Value.pointer ra = rootV S.root := ⟨_, rfl⟩
  rw [← hrv] at h6 HC
  have hmf : ∀ (fn : Fn) (first cap : Array Value) (w : World), (Instr.makeFunc fn first cap).run Tryz.prog w = .ok (.func fn first cap) w := fun _ _ _ _ => rfl
  have hz31 : ∀ w, Sem.run Tryz.prog (zeroValue 31) w = .ok (.slice none 0 0) w := fun w => by kernel_rfl
  clear hT3 hFd hrv hWK hR hOk e1 e2 hnew h
  go_enter Tryz.func49, Tryz.ntmps49
  go_wp2_with fail
  with_reducible refine HC.out.mono ?_
  rintro e w4 ⟨⟨go, rfl⟩, G', Rw', r', rd, hW, hG, hGo⟩
  have f4 := hW.fd.f0
  have HW := hide hW
  have HG := hide hG
  have HGo := hide hGo
  clear hW hG hGo HC
  go_wp2_with fail
  go_ret
  have hS : TStep p w w4 G G' Rw Rw' := by
    obtain ⟨X, hX, hX1⟩ := HGo.out.turn
    have hs := HT3.out.size
    refine ⟨⟨X.filter (fun x => decide (x < w.heap.size)), (HT3.out.mono (T := X.filter (fun x => decide (x < w.heap.size))) (by simp)).then hX (fun x hx => ?_), fun x hx => ?_⟩, fun x hx => ?_, fun x hx => ?_, HGo.out.oldR⟩
    · by_cases hl : x < w.heap.size
      · exact .inl (List.mem_filter.2 ⟨hx, by simpa using hl⟩)
      · exact .inr (Nat.le_of_not_lt hl)
    · obtain ⟨hm, hl⟩ := List.mem_filter.1 hx
      have hl' : x < w.heap.size := by simpa using hl
      rcases hX1 x hm with e | e | e | e
      · omega
      · exact .inl e
      · exact .inr e
      · cases e
    · rcases HGo.out.newG x hx with e | e
      · exact .inl e
      · exact .inr (Nat.le_trans hs e)
    · rcases HGo.out.newR x hx with e | e
      · exact .inl e
      · exact .inr (Nat.le_trans hs e)
  exact ⟨r', rfl, HW.out.fd.row, G', Rw', rd, H.out.read HW.out.tm hS, HG.out, hS, fun g hg => HW.out.out g (.inr (.inr (.inr hg)))⟩

end Go.Proofs.YthgpjkcgccdldaaGreatDoor

namespace Go.Proofs.YthgpjkcgccdldaaGreatDoor
open Go.RowKit Go.Maps

theorem own_cap {w : World} {base : Nat} {v : Value} {n : Nat} {l : List Nat} (h : w.ownsRow base 5 1 v n (l.map byteCell)) (h0 : 0 < n) : ∃ g cap, v = .slice (some ⟨g, 0, none⟩) n cap ∧ l.length = n ∧ (n ≤ cap ∧ cap ≤ 9223372036854775807) ∧ base ≤ g ∧ BytesAt w (some ⟨g, 0, none⟩) l := by
  obtain ⟨g', cap', e1, e2, e3, _, e5, _⟩ := own_bytes h h0
  obtain ⟨_, ⟨_, h2⟩ | ⟨g, cap, cur, rfl, hb, hg, hnc, hm, hsz, htk⟩⟩ := h
  · omega
  · injection e1 with f1 f2 f3
    rw [← f1] at e5
    refine ⟨g, cap, rfl, e2.symm, ⟨hnc, by unfold maxLen at hm; omega⟩, hb, e5⟩

set_option maxRecDepth 100000 in
set_option maxHeartbeats 1600000 in
theorem clone_cap (x : Addr) (cap : Nat) (l : List Nat) (n : Nat) (hn : l.length = n) (h0 : 0 < n) (hlim : n ≤ 1000) (w : World) (hB : BytesAt w (some x) l) :
    Calls Tryz.prog 88 #[.slice (some x) n cap] w fun e w' => ∃ g c', e = .returned (.slice (some ⟨g, 0, none⟩) n c') ∧ BytesAt w' (some ⟨g, 0, none⟩) l ∧ (n ≤ c' ∧ c' ≤ 9223372036854775807) ∧ Turn [] w w' := by
  have HN := hide hn
  have hown : (w.alloc (.cells #[] 5)).ownsRow w.heap.size 5 1 (.slice (some ⟨w.heap.size, 0, none⟩) 0 0) 0 (([] : List Nat).map byteCell) := World.ownsRow_made w #[] 0 (Nat.le_refl _) (Nat.zero_le _) rfl
  have HOWN := hide hown
  have HBA := hide (hB.turn ((Turn.refl [] w).alloc (.cells #[] 5)) (by simp))
  have H0 := hide h0
  have he2 := eq_some
  clear hown hB hn h0
  go_enter Tryz.func88, Tryz.ntmps88
  go_wp2_with (at_builtin; refine append_bytes rfl _ _ rfl w.heap.size (.slice (some ⟨w.heap.size, 0, none⟩) 0 0) 0 [] rfl HOWN.out (some x) n cap l rfl HN.out (by simp) HBA.out (by omega) (by simp) ?_; intro v w3 hown3 hgrow3 hnil3)
  have hT3 : Turn [] w w3 := ((Turn.refl [] w).alloc _).grown hgrow3 (by intro k hk; right; simp [Value.ownBlock] at hk; omega)
  obtain ⟨g, cg, hv, _, hcg, hg, hbg⟩ := own_cap (l := l) (by simpa using hown3) H0.out
  rw [hv]
  have HB3 := hide hbg
  have HCg := hide hcg
  clear hv hown3 hgrow3 hbg HOWN HBA hnil3 hcg
  go_wp2_with fail
  go_ret
  exact ⟨g, cg, rfl, HB3.out, HCg.out, hT3⟩

set_option maxRecDepth 100000 in
set_option maxHeartbeats 800000 in
theorem root_cap (p b sm rb N : Nat) (d l : Int) (q : Pg) (hr : q.root.length ≤ 64) (h0 : 0 < q.root.length) (w : World) (hP : PgAt w p b sm rb N d l q) :
    Calls Tryz.prog 62 #[.pointer (some ⟨p, 0, none⟩)] w fun e w' => ∃ g c', e = .returned (.slice (some ⟨g, 0, none⟩) q.root.length c') ∧ BytesAt w' (some ⟨g, 0, none⟩) q.root ∧ (q.root.length ≤ c' ∧ c' ≤ 9223372036854775807) ∧ Turn [] w w' := by
  obtain ⟨ra, rc, h5, hB, hn, _⟩ := hP.c5
  obtain ⟨x, rfl⟩ : ∃ x, ra = some x := by
    rcases hB with h | ⟨b', off', e, _⟩
    · rw [h] at h0
      cases h0
    · exact ⟨_, e⟩
  have HC := hide (clone_cap x rc q.root q.root.length rfl h0 (by omega) w hB)
  clear hB hP
  generalize q.root.length = n at *
  go_enter Tryz.func62, Tryz.ntmps62
  go_wp2_with fail
  refine HC.out.mono ?_
  rintro e w1 ⟨g, c', rfl, hB1, hc1, hT1⟩
  have HB1 := hide hB1
  have HC1 := hide hc1
  clear hB1 hc1
  go_wp2_with fail
  go_ret
  exact ⟨g, c', rfl, HB1.out, HC1.out, hT1⟩

theorem zeroSt (w : World) : Sem.run Tryz.prog (zeroValue 124) w = .ok (.agg #[.pointer none, .int .i64 0, .bool false, .int .i64 0, .slice none 0 0]) w := by kernel_rfl

set_option maxRecDepth 100000 in
set_option maxHeartbeats 3200000 in
theorem stateOf_some (a : Option Addr) (c pg lvl keys : Nat) (hpg : pg ≤ 16384) (hl : lvl ≤ 255) (hk : keys ≤ 1000000) (w : World) (hB : BytesAt w a (rootBytes pg lvl keys)) (hn : a = none → c = 0) (hc : 9 ≤ c ∧ c ≤ 9223372036854775807) :
    Calls Tryz.prog 61 #[.slice a 9 c] w fun e w' => ∃ pa, e = .returned (.agg #[.pointer (some ⟨pa, 0, none⟩), .int .i64 (keys : Nat), .bool false, .int .i64 0, .slice none 0 0]) ∧ PlaceAt w' pa pg lvl 0 .nilIface ∧ w.heap.size ≤ pa ∧ Turn [] w w' := by
  have hz := zeroSt
  have hlen : (rootBytes pg lvl keys).length = 9 := by simp [rootBytes, be4]
  have hT0 : Turn [] w (w.alloc (.cells #[.pointer none, .int .i64 0, .bool false, .int .i64 0, .slice none 0 0] 124)) := (Turn.refl [] w).alloc _
  have hR := reader_new (w.alloc (.cells #[.pointer none, .int .i64 0, .bool false, .int .i64 0, .slice none 0 0] 124)) a (rootBytes pg lvl keys) c (by intro e; rw [e] at hlen; cases hlen) (hB.turn hT0 (by simp)) hn (by rw [hlen]; exact hc) 153
  rw [hlen] at hR
  have hs0 : (w.alloc (.cells #[.pointer none, .int .i64 0, .bool false, .int .i64 0, .slice none 0 0] 124)).heap.size = w.heap.size + 1 := by simp
  rw [hs0] at hR
  have hall : ∀ x ∈ rootBytes pg lvl keys, x < 256 := fun x hx => by
    unfold rootBytes at hx
    rcases List.mem_append.1 hx with h | h
    · rcases List.mem_append.1 h with h | h
      · exact be4_lt _ (by omega) x h
      · rw [List.mem_singleton.1 h]
        omega
    · exact be4_lt _ (by omega) x h
  have HN := hide (rdnum_any (w.heap.size + 1) _ 4 (by rw [hlen]; omega) (by omega) hall _ hR)
  have e1 : beN ((rootBytes pg lvl keys).take 4) = pg := by
    have : (rootBytes pg lvl keys).take 4 = be4 pg := by simp [rootBytes, be4]
    rw [this, be4_num]
  have e2 : (rootBytes pg lvl keys).drop 4 = [lvl] ++ be4 keys := by simp [rootBytes, be4]
  rw [e1, e2] at HN
  have hall2 : Hid (∀ x ∈ [lvl] ++ be4 keys, x < 256) := fun x hx => hall x (List.mem_of_mem_drop (i := 4) (by rw [e2]; exact hx))
  have hall3 : Hid (∀ x ∈ be4 keys, x < 256) := be4_lt _ (by omega)
  have HT0 := hide (hT0.alloc (.cells #[.slice a 9 c] 153))
  have hc2 : ((w.alloc (.cells #[.pointer none, .int .i64 0, .bool false, .int .i64 0, .slice none 0 0] 124)).alloc (.cells #[.slice a 9 c] 153)).cell? ⟨w.heap.size, 0, none⟩ = some (.pointer none) := Lib.cell?_alloc_some _ (World.cell?_alloc_at _ _ _ _ rfl)
  have hsz : ((w.alloc (.cells #[.pointer none, .int .i64 0, .bool false, .int .i64 0, .slice none 0 0] 124)).alloc (.cells #[.slice a 9 c] 153)).heap.size = w.heap.size + 2 := by simp
  have HKs := hide hk
  clear hB hn hc hR hall e1 e2 hT0 hlen hk
  go_enter Tryz.func61, Tryz.ntmps61
  go_wp2_with fail
  refine HN.out.mono ?_
  rintro e w1 ⟨rfl, hR, hT1⟩
  have HN2 := hide (rdnum_any (w.heap.size + 1) _ 1 (by simp) (by omega) hall2.out w1 hR)
  have e3 : beN (([lvl] ++ be4 keys).take 1) = lvl := by simp [beN]
  have e4 : ([lvl] ++ be4 keys).drop 1 = be4 keys := by simp
  rw [e3, e4] at HN2
  have HT1 := hide hT1
  clear hR hT1 e3 e4 HN
  go_wp2_with fail
  refine HN2.out.mono ?_
  rintro e w2 ⟨rfl, hR, hT2⟩
  have HT2 := hide (HT1.out.trans hT2)
  have hs2 := HT2.out.size
  rw [hsz] at hs2
  have hTp : Turn [] w2 (w2.alloc (.cells #[.int .i64 (pg : Nat), .int .i64 (lvl : Nat), .int .u32 0, .int .i32 0, .int .u32 0, .nilIface] 158)) := (Turn.refl [] w2).alloc _
  have HN3 := hide (rdnum_any (w.heap.size + 1) _ 4 (by simp [be4]) (by omega) hall3.out _ (hR.turn hTp (by simp)))
  have e5 : beN ((be4 keys).take 4) = keys := by
    have : (be4 keys).take 4 = be4 keys := by simp [be4]
    rw [this, be4_num]
  rw [e5] at HN3
  have HPl := hide (place_new w2 pg lvl 158)
  have HTp := hide hTp
  clear hR hT2 e5 hTp HN2
  go_wp2_with fail
  refine HN3.out.mono ?_
  rintro e w3 ⟨rfl, _, hT3⟩
  have HPl3 := hide (HPl.out.turn hT3 (by simp; omega))
  have hT03 : Turn [w.heap.size + 1] ((w.alloc (.cells #[.pointer none, .int .i64 0, .bool false, .int .i64 0, .slice none 0 0] 124)).alloc (.cells #[.slice a 9 c] 153)) w3 := (HT2.out.then HTp.out (by simp)).trans hT3
  have hblk : ∀ o, w3.cell? ⟨w.heap.size, o, none⟩ = _ := fun o => hT03.cb (by rw [hsz]; omega) (by simp)
  have hfz : ∀ o, w3.frozen? ⟨w.heap.size, o, none⟩ = _ := fun o => World.frozen?_of_block (a := ⟨w.heap.size, o, none⟩) (hT03.block w.heap.size (by rw [hsz]; omega) (by simp))
  have hcc : ∀ o v, o < 5 → (#[.pointer none, .int .i64 0, .bool false, .int .i64 0, .slice none 0 0] : Array Value)[o]? = some v → w3.cell? ⟨w.heap.size, o, none⟩ = some v := fun o v _ hv => (hblk o).trans (Lib.cell?_alloc_some _ ((World.cell?_alloc_at _ _ _ _ rfl).trans hv))
  have c0 : w3.cell? ⟨w.heap.size, 0, none⟩ = some (.pointer none) := hcc 0 _ (by omega) rfl
  have c1 : w3.cell? ⟨w.heap.size, 1, none⟩ = some (.int .i64 0) := hcc 1 _ (by omega) rfl
  have c2 : w3.cell? ⟨w.heap.size, 2, none⟩ = some (.bool false) := hcc 2 _ (by omega) rfl
  have c3 : w3.cell? ⟨w.heap.size, 3, none⟩ = some (.int .i64 0) := hcc 3 _ (by omega) rfl
  have c4 : w3.cell? ⟨w.heap.size, 4, none⟩ = some (.slice none 0 0) := hcc 4 _ (by omega) rfl
  have hff : ∀ o, w3.frozen? ⟨w.heap.size, o, none⟩ = false := fun o => (hfz o).trans ((World.frozen?_of_block (a := ⟨w.heap.size, o, none⟩) (((Turn.refl [] (w.alloc (.cells #[.pointer none, .int .i64 0, .bool false, .int .i64 0, .slice none 0 0] 124))).alloc (.cells #[.slice a 9 c] 153)).block w.heap.size (by simp) (by simp))).trans (World.frozen?_alloc_at _ _ _ _ rfl))
  have f0 := hff 0
  have f1 := hff 1
  have f2 := hff 2
  have f3 := hff 3
  have f4 := hff 4
  have HT3 : Hid (Turn [w.heap.size + 1] w w3) := (HT0.out.mono (T := [w.heap.size + 1]) (by simp)).trans hT03
  have hal : w.heap.size < w3.heap.size := lt_of_cell c0
  clear hT3 hT03 hblk hfz hcc hff HN3
  have e0 : (w3.setCell ⟨w.heap.size, 0, none⟩ (.pointer (some ⟨w2.heap.size, 0, none⟩))).cell? ⟨w.heap.size, 0, none⟩ = some (.pointer (some ⟨w2.heap.size, 0, none⟩)) := World.cell?_setCell_same _ _ _ c0
  have e1 : ((w3.setCell ⟨w.heap.size, 0, none⟩ (.pointer (some ⟨w2.heap.size, 0, none⟩))).setCell ⟨w.heap.size, 1, none⟩ (.int .i64 (keys : Nat))).cell? ⟨w.heap.size, 1, none⟩ = some (.int .i64 (keys : Nat)) := World.cell?_setCell_same _ _ _ ((World.cell?_setCell_other _ _ _ _ (off_ne (by omega))).trans c1)
  have e2 : (((w3.setCell ⟨w.heap.size, 0, none⟩ (.pointer (some ⟨w2.heap.size, 0, none⟩))).setCell ⟨w.heap.size, 1, none⟩ (.int .i64 (keys : Nat))).setCell ⟨w.heap.size, 2, none⟩ (.bool false)).cell? ⟨w.heap.size, 2, none⟩ = some (.bool false) := World.cell?_setCell_same _ _ _ ((World.cell?_setCell_other _ _ _ _ (off_ne (by omega))).trans ((World.cell?_setCell_other _ _ _ _ (off_ne (by omega))).trans c2))
  have e3 : ((((w3.setCell ⟨w.heap.size, 0, none⟩ (.pointer (some ⟨w2.heap.size, 0, none⟩))).setCell ⟨w.heap.size, 1, none⟩ (.int .i64 (keys : Nat))).setCell ⟨w.heap.size, 2, none⟩ (.bool false)).setCell ⟨w.heap.size, 3, none⟩ (.int .i64 0)).cell? ⟨w.heap.size, 3, none⟩ = some (.int .i64 0) := World.cell?_setCell_same _ _ _ ((World.cell?_setCell_other _ _ _ _ (off_ne (by omega))).trans ((World.cell?_setCell_other _ _ _ _ (off_ne (by omega))).trans ((World.cell?_setCell_other _ _ _ _ (off_ne (by omega))).trans c3)))
  have e4 : (((((w3.setCell ⟨w.heap.size, 0, none⟩ (.pointer (some ⟨w2.heap.size, 0, none⟩))).setCell ⟨w.heap.size, 1, none⟩ (.int .i64 (keys : Nat))).setCell ⟨w.heap.size, 2, none⟩ (.bool false)).setCell ⟨w.heap.size, 3, none⟩ (.int .i64 0)).setCell ⟨w.heap.size, 4, none⟩ (.slice none 0 0)).cell? ⟨w.heap.size, 4, none⟩ = some (.slice none 0 0) := World.cell?_setCell_same _ _ _ ((World.cell?_setCell_other _ _ _ _ (off_ne (by omega))).trans ((World.cell?_setCell_other _ _ _ _ (off_ne (by omega))).trans ((World.cell?_setCell_other _ _ _ _ (off_ne (by omega))).trans ((World.cell?_setCell_other _ _ _ _ (off_ne (by omega))).trans c4))))
  go_wp2_with fail
  refine bodyPost_ret (v := .agg #[.pointer (some ⟨w2.heap.size, 0, none⟩), .int .i64 (keys : Nat), .bool false, .int .i64 0, .slice none 0 0]) (by simp [results, Tryz.results61, go_sem, e0, e1, e2, e3, e4]) rfl ⟨w2.heap.size, rfl, ?_, by omega, ?_⟩
  · exact HPl3.out.turn ((((((Turn.refl [w.heap.size] w3).setCell (List.mem_singleton.2 rfl) 0 _).setCell (List.mem_singleton.2 rfl) 1 _).setCell (List.mem_singleton.2 rfl) 2 _).setCell (List.mem_singleton.2 rfl) 3 _).setCell (List.mem_singleton.2 rfl) 4 _) (by simp; omega)
  · refine (show Turn [] w w3 from ?_).then ((((((Turn.refl [w.heap.size] w3).setCell (List.mem_singleton.2 rfl) 0 _).setCell (List.mem_singleton.2 rfl) 1 _).setCell (List.mem_singleton.2 rfl) 2 _).setCell (List.mem_singleton.2 rfl) 3 _).setCell (List.mem_singleton.2 rfl) 4 _) (by simp)
    exact (Turn.refl [] w).then HT3.out (by simp)

end Go.Proofs.YthgpjkcgccdldaaGreatDoor

namespace Go.Proofs.YthgpjkcgccdldaaGreatDoor
open Go.RowKit Go.Maps

set_option maxRecDepth 100000 in
set_option maxHeartbeats 1600000 in
theorem topen_some (p b m sm rb : Nat) (s : St) (q : Pg) (hd : s.dead = false) (hq : q.dead = false) (pg lvl keys : Nat) (hpg : pg ≤ 16384) (hl : lvl ≤ 255) (hk : keys ≤ 1000000) (hroot : q.root = rootBytes pg lvl keys) (w : World) (_hrb : rb < w.heap.size) (hA : PAt w p b m sm rb s q) :
    Calls Tryz.prog 35 #[.pointer (some ⟨p, 0, none⟩)] w fun e w' => ∃ t pa r, e = .returned (.tuple #[.pointer (some ⟨t, 0, none⟩), .int .i64 0]) ∧ w.heap.size ≤ t ∧ w.heap.size ≤ pa ∧ pa ≠ t ∧ TreeAt w' t p ⟨some pa, keys, false, 0, .slice none 0 0⟩ ⟨some pa, keys, false, 0, .slice none 0 0⟩ ∧ PlaceAt w' pa pg lvl 0 .nilIface ∧ PAt w' p b m sm rb s { q with rd := r } ∧ Turn [p] w w' := by
  have hz := zero70
  have hpl := hA.pg.lt
  have hlen : q.root.length = 9 := by rw [hroot]; simp [rootBytes, be4]
  have HP0 : Hid (w.heap.size ≠ 1 ∧ w.heap.size ≠ p ∧ w.heap.size ≠ b ∧ w.heap.size ≠ m ∧ w.heap.size ≠ sm ∧ w.heap.size ≠ rb) := by
    have h1 := hA.disk.lt
    have h2 := hA.disk.ltm
    have h3 := hA.pg.lts
    have h4 := hA.pos
    exact ⟨by omega, by omega, by omega, by omega, by omega, by omega⟩
  have hT0 : Turn [] w (w.alloc (.cells #[.pointer (some ⟨p, 0, none⟩), .pointer none, .int .i64 0, .bool false, .int .i64 0, .slice none 0 0, .pointer none, .int .i64 0, .bool false, .int .i64 0, .slice none 0 0] 126)) := (Turn.refl [] w).alloc _
  have hTr0 : TreeAt (w.alloc (.cells #[.pointer (some ⟨p, 0, none⟩), .pointer none, .int .i64 0, .bool false, .int .i64 0, .slice none 0 0, .pointer none, .int .i64 0, .bool false, .int .i64 0, .slice none 0 0] 126)) w.heap.size p ⟨none, 0, false, 0, .slice none 0 0⟩ ⟨none, 0, false, 0, .slice none 0 0⟩ :=
    ⟨World.cell?_alloc_at _ _ _ _ rfl, ⟨World.cell?_alloc_at _ _ _ _ rfl, World.cell?_alloc_at _ _ _ _ rfl, World.cell?_alloc_at _ _ _ _ rfl, World.cell?_alloc_at _ _ _ _ rfl, World.cell?_alloc_at _ _ _ _ rfl⟩, ⟨World.cell?_alloc_at _ _ _ _ rfl, World.cell?_alloc_at _ _ _ _ rfl, World.cell?_alloc_at _ _ _ _ rfl, World.cell?_alloc_at _ _ _ _ rfl, World.cell?_alloc_at _ _ _ _ rfl⟩, fun o => World.frozen?_alloc_at _ _ _ _ rfl⟩
  have HC := hide (tdead_any w.heap.size p b m sm rb s q _ _ hd hq _ (hA.turn0 hT0) hTr0)
  have HT0 := hide hT0
  have HTr0 := hide hTr0
  have HLen := hide hlen
  have HRoot := hide hroot
  have HKs := hide hk
  clear hT0 hTr0 hA hlen hroot hk
  go_enter Tryz.func35, Tryz.ntmps35
  go_wp2_with fail
  refine HC.out.mono ?_
  rintro e w1 ⟨rfl, ⟨r, hA1⟩, hT1⟩
  have HTr1 := hide (HTr0.out.turn hT1 (by simp; omega))
  have HA1 := hide hA1
  have HT1 := hide ((show Turn [p] w _ from ⟨HT0.out.os, HT0.out.tape, HT0.out.output, HT0.out.size, fun i hi _ => HT0.out.block i hi (by simp)⟩).trans hT1)
  have HRt := hide (root_cap p b sm rb s.n _ 0 { q with rd := r } (by show q.root.length ≤ 64; rw [HLen.out]; omega) (by show 0 < q.root.length; rw [HLen.out]; omega) w1 HA1.out.pg)
  rw [show ({ q with rd := r } : Pg).root = q.root from rfl, HLen.out] at HRt
  clear hA1 hT1
  go_wp2_with fail
  refine HRt.out.mono ?_
  rintro e w2 ⟨g, c2, rfl, hB2, hc2, hT2⟩
  have HTr2 := hide (HTr1.out.turn hT2 (by simp))
  have HA2 := hide (HA1.out.turn0 hT2)
  rw [HRoot.out] at hB2
  have HSt := hide (stateOf_some (some ⟨g, 0, none⟩) c2 pg lvl keys hpg hl HKs.out w2 hB2 (by simp) hc2)
  have HT2 := hide (HT1.out.then hT2 (by simp))
  have hs02 := HT2.out.size
  clear hT2 hB2 hc2 HRt
  go_wp2_with fail
  refine HSt.out.mono ?_
  rintro e w3 ⟨pa, rfl, hPl, hpa, hT3⟩
  have hTr3 := HTr2.out.turn hT3 (by simp)
  have HA3 := hide (HA2.out.turn0 hT3)
  have htl2 := HTr2.out.lt
  have HT3 := hide (HT2.out.then hT3 (by simp))
  have HPl := hide hPl
  have hs3 := HT3.out.size
  have hd1 := hTr3.done.c0
  have hd2 := hTr3.done.c1
  have hd3 := hTr3.done.c2
  have hd4 := hTr3.done.c3
  have hd5 := hTr3.done.c4
  have hd6 := hTr3.now.c0
  have hd7 := hTr3.now.c1
  have hd8 := hTr3.now.c2
  have hd9 := hTr3.now.c3
  have hd10 := hTr3.now.c4
  have hf1 := hTr3.fz 1
  have hf2 := hTr3.fz 2
  have hf3 := hTr3.fz 3
  have hf4 := hTr3.fz 4
  have hf5 := hTr3.fz 5
  have hf6 := hTr3.fz 6
  have hf7 := hTr3.fz 7
  have hf8 := hTr3.fz 8
  have hf9 := hTr3.fz 9
  have hf10 := hTr3.fz 10
  have HTr3 := hide hTr3
  have htl := hTr3.lt
  have hap := HA3.out.apart
  have hbl := HA3.out.disk.lt
  have HNe : Hid (pa ≠ w.heap.size ∧ w.heap.size ≤ pa) := ⟨by omega, by omega⟩
  clear hT3 hTr3 HA1 HA2 hPl hpa hs02 htl2
  generalize hte : w.heap.size = t at *
  go_wp2_with fail
  have ht : t ∈ [t] := List.mem_singleton.2 rfl
  have hTs := ((((((((((Turn.refl [t] w3).setCell ht 1 (.pointer (some ⟨pa, 0, none⟩))).setCell ht 2 (.int .i64 (keys : Nat))).setCell ht 3 (.bool false)).setCell ht 4 (.int .i64 0)).setCell ht 5 (.slice none 0 0)).setCell ht 6 (.pointer (some ⟨pa, 0, none⟩))).setCell ht 7 (.int .i64 (keys : Nat))).setCell ht 8 (.bool false)).setCell ht 9 (.int .i64 0)).setCell ht 10 (.slice none 0 0)
  have hTr := (((((((((HTr3.out.setDRoot (some pa)).setDKeys keys).setDChanged false).setDFresh 0).setDDropped (.slice none 0 0)).setRoot (some pa)).setKeys keys).setChanged false).setFresh 0).setDropped (.slice none 0 0)
  refine bodyPost_ret (v := .tuple #[.pointer (some ⟨t, 0, none⟩), .int .i64 0]) (by simp [results, Tryz.results35, go_sem]) rfl ⟨t, pa, r, rfl, by omega, by rw [hte]; exact HNe.out.2, HNe.out.1, hTr, HPl.out.turn hTs (by simp; exact HNe.out.1), ?_, ?_⟩
  · exact HA3.out.turnX hTs (by
      intro x hx
      obtain rfl := List.mem_singleton.1 hx
      have h2 := HP0.out
      exact ⟨h2.1, h2.2.1, h2.2.2.1, h2.2.2.2.1, h2.2.2.2.2.1, h2.2.2.2.2.2⟩)
  · exact HT3.out.then hTs (by simp; omega)

end Go.Proofs.YthgpjkcgccdldaaGreatDoor

namespace Go.Proofs.YthgpjkcgccdldaaGreatDoor
open Go.RowKit Go.Maps

/-- A disk with a tree that is committed. -/
structure DskG (w : World) (b m : Nat) (s : St) (c : Nat) (K : Nat → Bool) (D : Dk) (rd : Root?) : Prop where
  disk : DiskAt w b m s
  laid : Laid s c (rootB rd) K
  sd : s.dead = false
  sl : s.left < 0
  qK : ∀ k, K k = true ↔ k ∈ pagesR rd
  nodup : (pagesR rd).Nodup
  rdisk : RtDisk D rd
  ok : RootOk rd
  dk : ∀ pg h (l : List (En h)), D pg = some ⟨h, l⟩ → K pg = true ∧ s.f pg = bytesOf 512 (pageB (encN l)) ∧ PageFit l
  tab : Tab w
  pos : 1 < b ∧ 1 < m
theorem DskG.quiet {w w' : World} {b m : Nat} {s : St} {c : Nat} {K : Nat → Bool} {D : Dk} {rd : Root?} (h : DskG w b m s c K D rd) (hT : Turn [] w w') : DskG w' b m s c K D rd :=
  { h with disk := h.disk.turn hT (by simp) (by simp), tab := h.tab.turn hT (by simp) }

/-- A new tree object, on what is committed. -/
theorem tg_open {w0 w : World} {O : Nat → Prop} {p b m sm rb : Nat} {s : St} {q : Pg} {D : Dk} {rd : Root?} {c : Nat} {K : Nat → Bool} (h : DskG w0 b m s c K D rd) (hq : q = ⟨false, c, rootB rd, K, fun _ => 0, false, 0⟩) (hA : PAt w p b m sm rb s q) (hO : ∀ x, O x → x < w0.heap.size) (hO2 : ¬ O 1 ∧ ¬ O b ∧ ¬ O m) (hp : w0.heap.size ≤ p ∧ w0.heap.size ≤ sm ∧ w0.heap.size ≤ rb) (hrb : rb < w.heap.size) (_hs : w0.heap.size ≤ w.heap.size) (hk : (flatR rd).length ≤ 100000) :
    Calls Tryz.prog 35 #[.pointer (some ⟨p, 0, none⟩)] w fun e w' => ∃ t r Dn G, e = .returned (.tuple #[.pointer (some ⟨t, 0, none⟩), .int .i64 0]) ∧ TG w' O t p b m sm rb s { q with rd := r } Dn Dn D G (fun _ => False) [] rd rd ∧ w.heap.size ≤ t ∧ (∀ x, G x ≠ none → w.heap.size ≤ x) ∧ Turn [p] w w' := by
  have hqd : q.dead = false := by rw [hq]
  have hht := h.ok.height (by omega)
  have hl1 := hA.pg.lt
  have hl2 := hA.disk.lt
  have hl3 := hA.disk.ltm
  have hl4 := hA.pg.lts
  have hpos := hA.pos
  have hn16 := hA.laid.n16
  have hnil : ∀ w' : World, w'.ownsRow 0 3 1 (.slice none 0 0) 0 [] := fun w' => World.ownsRow_nil _ _ _ _
  obtain ⟨hc1, hc2⟩ := h.rdisk.count
  have hOn : ∀ t, w.heap.size ≤ t → ∀ x ∈ [1, t, p, b, m, sm, rb], ¬ O x := fun t ht x hx ho => by
    have := hO x ho
    simp at hx
    rcases hx with rfl | rfl | rfl | rfl | rfl | rfl | rfl
    · exact hO2.1 ho
    · omega
    · omega
    · exact hO2.2.1 ho
    · exact hO2.2.2 ho
    · omega
    · omega
  have hdk : ∀ r, DkOk s { q with rd := r } D := fun r => ⟨fun pg hh l hD => by
    obtain ⟨g1, g2, g3⟩ := h.dk pg hh l hD
    obtain ⟨k1, k2⟩ := h.laid.kr pg g1
    refine ⟨?_, g2, g3⟩
    unfold Pg.thereI Pg.there
    rw [hq]
    show (decide (((fp s.n : Nat) : Int) ≤ (pg : Int)) && decide ((pg : Int) < s.n) && ((K (pg : Int).toNat || (0 == 1)) && !(0 == 2))) = true
    rw [Int.toNat_natCast, g1]
    simp
    omega⟩
  have hmk : ∀ (t : Nat) (r : Bool) (Dn : Stt) (G : Gh) (w' : World), PAt w' p b m sm rb s { q with rd := r } → TreeAt w' t p Dn Dn → w.heap.size ≤ t → w.heap.size ≤ w'.heap.size → Mem w' (fun _ => False) G → (∀ x, G x ≠ none → w.heap.size ≤ x ∧ x ≠ t) → RtAt G D Dn.root rd → Dn.keys = (flatR rd).length → Dn.changed = false → Dn.fresh = 0 → Dn.dropped = .slice none 0 0 → TG w' O t p b m sm rb s { q with rd := r } Dn Dn D G (fun _ => False) [] rd rd := fun t r Dn G w' hA' hTr ht hs' hM hG hRt g1 g2 g3 g4 => by
    refine ⟨⟨⟨hA', hTr, ⟨by omega, by omega, by omega, by omega, by omega, by omega⟩, by omega, h.sd, hqd, hM, hdk r, fun x hx => ?_, hOn t ht, fun x hx => by have := hO x hx; omega⟩, by rw [g4]; exact hnil w', fun g hg => by rw [g4] at hg; cases hg⟩, hRt, hRt, h.ok, h.ok, g1, g2, g3, g4, g1, by rw [g3, hc1], by rw [hc2, List.append_nil], h.nodup, h.rdisk, h.sl, by rw [hq], fun k => by rw [hq], fun k => by rw [hq]; exact h.qK k, by rw [hq]⟩
    rcases hx with hx | hx
    · obtain ⟨k1, k2⟩ := hG x hx
      refine ⟨by simp; omega, fun ho => by have := hO x ho; omega⟩
    · exact hx.elim
  cases rd with
  | none =>
    refine (topen_new p b m sm rb s q h.sd hqd (by rw [hq]; show (0 : Nat) < 9; omega) w hrb hA).mono ?_
    rintro e w' ⟨t, r, rfl, ht, hTr, hA', hT⟩
    exact ⟨t, r, _, fun _ => none, rfl, hmk t r _ _ w' hA' hTr ht hT.size ⟨(fun a P hP => by cases hP), fun _ _ => rfl, fun _ h => False.elim h⟩ (fun x hx => absurd rfl hx) trivial rfl rfl rfl rfl, ht, fun x hx => absurd rfl hx, hT⟩
  | some x =>
    obtain ⟨hh, e⟩ := x
    have hod := h.rdisk hh e rfl
    have hpn : pageOf e < s.n := (hdk false).pages hod
    have h20 : hh + 1 ≤ 20 := hht
    refine (topen_some p b m sm rb s q h.sd hqd (pageOf e) (hh + 1) (flatN (kidsOf e)).length (by omega) (by omega) (by show (flatR (some ⟨hh, e⟩)).length ≤ _; omega) (by rw [hq]; rfl) w hrb hA).mono ?_
    rintro e' w' ⟨t, pa, r, rfl, ht, hpa, hne, hTr, hPl, hA', hT⟩
    have hGo : ∀ x, x ≠ pa → (fun x => if x = pa then some (⟨pageOf e, hh + 1, none⟩ : Pl) else none) x = none := fun x hx => if_neg hx
    have hGs : (fun x => if x = pa then some (⟨pageOf e, hh + 1, none⟩ : Pl) else none) pa = some ⟨pageOf e, hh + 1, none⟩ := if_pos rfl
    have hGx : ∀ x, (fun x => if x = pa then some (⟨pageOf e, hh + 1, none⟩ : Pl) else none) x ≠ none → x = pa := fun x hx => Classical.byContradiction fun hc => hx (hGo x hc)
    refine ⟨t, r, _, (fun x => if x = pa then some (⟨pageOf e, hh + 1, none⟩ : Pl) else none), rfl, hmk t r _ _ w' hA' hTr ht hT.size ⟨fun a P hP => ?_, fun _ h => h.elim, fun _ h => h.elim⟩ (fun x hx => by rw [hGx x hx]; exact ⟨hpa, hne⟩) ?_ rfl rfl rfl rfl, ht, fun x hx => by rw [hGx x hx]; exact hpa, hT⟩
    · by_cases ha : a = pa
      · subst ha
        obtain rfl := Option.some.inj (hGs.symm.trans hP)
        exact hPl
      · have h9 := (hGo a ha).symm.trans hP
        cases h9
    · exact ⟨⟨_, hGs, rfl⟩, Means.of ⟨pageOf e, hh + 1, none⟩ hGs rfl (fun _ => hod) (fun _ => hod.ne) (fun nd hnd => by cases hnd)⟩

end Go.Proofs.YthgpjkcgccdldaaGreatDoor

namespace Go.Proofs.YthgpjkcgccdldaaGreatDoor
open Go.RowKit Go.Maps

/-- Others have more blocks. -/
def More (O : Nat → Prop) (w w' : World) : Nat → Prop := fun x => O x ∨ (w.heap.size ≤ x ∧ x < w'.heap.size)
theorem TG.more {w w' : World} {O : Nat → Prop} {t p b m sm rb : Nat} {s : St} {q : Pg} {Dn S : Stt} {D : Dk} {G : Gh} {Rw : Nat → Prop} {ds : List Nat} {rd rt : Root?} (h : TG w O t p b m sm rb s q Dn S D G Rw ds rd rt) (hT : Turn [] w w') : TG w' (More O w w') t p b m sm rb s q Dn S D G Rw ds rd rt := by
  have hq := h.quiet hT
  have hlt := h.td.tm.lts
  have hG : ∀ x, (G x ≠ none ∨ Rw x) → x < w.heap.size := fun x hx => hx.elim h.td.tm.mem.lt (h.td.tm.mem.rows x)
  refine { hq with td := ⟨{ hq.td.tm with own := fun x hx => ⟨(hq.td.tm.own x hx).1, fun ho => ?_⟩, no := fun x hx ho => ?_, ob := fun x ho => ?_ }, hq.td.drop, fun g hg => ⟨(hq.td.far g hg).1, fun ho => ?_, (hq.td.far g hg).2.2⟩⟩ }
  · rcases ho with ho | ho
    · exact (hq.td.tm.own x hx).2 ho
    · have := hG x hx
      omega
  · rcases ho with ho | ho
    · exact hq.td.tm.no x hx ho
    · have := hlt x hx
      omega
  · rcases ho with ho | ho
    · exact hq.td.tm.ob x ho
    · exact ho.2
  · rcases ho with ho | ho
    · exact (hq.td.far g hg).2.1 ho
    · have := (h.td.drop.lt g hg).2
      omega
/-- Others' blocks turn. -/
theorem TG.others {X : List Nat} {w w' : World} {O : Nat → Prop} {t p b m sm rb : Nat} {s : St} {q : Pg} {Dn S : Stt} {D : Dk} {G : Gh} {Rw : Nat → Prop} {ds : List Nat} {rd rt : Root?} (h : TG w O t p b m sm rb s q Dn S D G Rw ds rd rt) (hT : Turn X w w') (hX : ∀ x ∈ X, x ∉ [1, t, p, b, m, sm, rb] ∧ G x = none ∧ ¬ Rw x ∧ S.dropped.ownBlock ≠ some x) : TG w' O t p b m sm rb s q Dn S D G Rw ds rd rt :=
  ⟨⟨h.td.tm.other hT (fun x hx => ⟨(hX x hx).1, (hX x hx).2.1, (hX x hx).2.2.1⟩), own_turn h.td.drop hT (fun g hg hm => (hX g hm).2.2.2 hg), h.td.far⟩, h.done, h.now, h.okd, h.ok, h.dkeys, h.dch, h.dfr, h.ddr, h.keys, h.fresh, h.pages, h.nodup, h.disk, h.sl, h.qu, h.qs, h.qK, h.root⟩

/-- A row of pairs that is others'. -/
structure RowO (w : World) (O : Nat → Prop) (a : Option Addr) (l : List Kv) : Prop where
  kv : KVsAt w a l
  own : ∀ x, l ≠ [] → a = some x → O x.block ∧ x.block ≠ 1
theorem RowO.keep {w w' : World} {O : Nat → Prop} {a : Option Addr} {l : List Kv} (h : RowO w O a l) (hK : KeepO O w w') : RowO w' O a l := by
  obtain ⟨X, hT, hX⟩ := hK
  exact ⟨h.kv.turn hT fun x hl ha hm => (hX _ hm).1 (h.own x hl ha).1, h.own⟩
theorem RowO.more {w w' : World} {O O' : Nat → Prop} {a : Option Addr} {l : List Kv} (h : RowO w O a l) (hT : Turn [] w w') (hO : ∀ x, O x → O' x) : RowO w' O' a l :=
  ⟨h.kv.turn0 hT, fun x hl ha => ⟨hO _ (h.own x hl ha).1, (h.own x hl ha).2⟩⟩
theorem RowO.nil (w : World) (O : Nat → Prop) (a : Option Addr) : RowO w O a [] := ⟨.inl rfl, fun _ h => absurd rfl h⟩
/-- A row of the call's own, as others'. -/
theorem RowO.new {w w' : World} {O : Nat → Prop} {v : Value} {l : List Kv} (hs : 1 < w.heap.size) (h : w'.ownsRow w.heap.size 55 2 v l.length (flat (kvCells l))) : ∃ a c, v = .slice a l.length c ∧ RowO w' (More O w w') a l := by
  obtain ⟨a, c, hv, hn, _, hpr, hbk⟩ := own_pairs h
  rw [← hn] at hv
  refine ⟨a, c, hv, hpr.kvs, fun x _ ha => ?_⟩
  obtain ⟨h1, h2⟩ := hbk x ha
  exact ⟨.inr ⟨h1, h2⟩, by omega⟩

end Go.Proofs.YthgpjkcgccdldaaGreatDoor

namespace Go.Proofs.YthgpjkcgccdldaaGreatDoor
open Go.RowKit Go.Maps

set_option maxRecDepth 100000 in
set_option maxHeartbeats 1600000 in
theorem lfindl_any (a : Option Addr) (cap : Nat) (l : List (ByteArray × ByteArray)) (key : ByteArray) (n : Nat) (hn : l.length = n) (hlen : n ≤ 1000) (hs : Rises (keysOf l)) (w : World) (hK : KVsAt w a l) :
    Calls Tryz.prog 28 #[.slice a n cap, .string key] w fun e w' => ∃ i : Nat, e = .returned (.int .i64 (i : Nat)) ∧ IsPos (keysOf l) key i ∧ w' = w := by
  have HK := hide hK
  have HLn := hide hn
  have HS := hide hs
  clear hK hn hs
  go_enter Tryz.func28, Tryz.ntmps28
  go_wp2_with fail
  go_loop [5] (fun i => ∃ j : Nat, j ≤ n ∧ i = .int .i64 (j : Nat) ∧ ∀ m (h : m < l.length), m < j → klt l[m].1 key) (fun i => n - (intOf i).toNat)
  case atStart => exact ⟨0, Nat.zero_le _, rfl, fun m h hm => absurd hm (by omega)⟩
  case round =>
    obtain ⟨j, hj, rfl, hb⟩ := hrel
    have HB := hide hb
    by_cases hlt : j < n
    · have hjl : j < l.length := by rw [HLn.out]; exact hlt
      obtain ⟨b, off, e, hk0, hk1⟩ := HK.out.at hjl
      subst e
      have hle := less_klt l[j].1 key
      by_cases hkl : klt l[j].1 key
      · rw [decide_eq_true hkl] at hle
        have HB' : Hid (∀ m (h : m < l.length), m < j + 1 → klt l[m].1 key) := fun m h hm => by
          by_cases e : m = j
          · subst e; exact hkl
          · exact HB.out m h (by omega)
        clear hb hkl
        generalize l[j].1 = jk at *
        clear hk1 hjl
        go_wp2_with fail
        go_round
        case rel => exact ⟨j + 1, by omega, by go_num, HB'.out⟩
        case measure => simp [intOf]; omega
      · rw [decide_eq_false hkl] at hle
        have HPos : Hid (IsPos (keysOf l) key j) := by
          refine ⟨by rw [keysOf_length]; omega, fun m hm hmj => ?_, fun m hm hjm => ?_⟩
          · rw [keysOf_length] at hm
            rw [keysOf_get hm]
            exact HB.out m hm hmj
          · rw [keysOf_length] at hm
            rw [keysOf_get hm]
            by_cases e : j = m
            · subst e; exact hkl
            · have := HS.out.get (show j < m by omega) (by rw [keysOf_length]; exact hm)
              rw [keysOf_get hjl, keysOf_get hm] at this
              exact fun h => hkl (klt_trans this h)
        clear hb hkl
        generalize l[j].1 = jk at *
        clear hk1 hjl
        go_wp2_with fail
        go_ret
        exact ⟨j, rfl, HPos.out, rfl⟩
    · obtain rfl : j = n := by omega
      have HPos : Hid (IsPos (keysOf l) key j) := by
        refine ⟨by rw [keysOf_length, HLn.out]; omega, fun m hm hmj => ?_, fun m hm hjm => ?_⟩
        · rw [keysOf_length] at hm
          rw [keysOf_get hm]
          exact HB.out m hm hmj
        · rw [keysOf_length, HLn.out] at hm
          omega
      clear hb
      go_wp2_with fail
      go_ret
      exact ⟨j, rfl, HPos.out, rfl⟩

end Go.Proofs.YthgpjkcgccdldaaGreatDoor

namespace Go.Proofs.YthgpjkcgccdldaaGreatDoor
open Go.RowKit Go.Maps

set_option maxRecDepth 100000 in
set_option maxHeartbeats 1600000 in
/-- Del of a key: the row without it, in memory of the call's own. -/
theorem ldelete_any (a : Option Addr) (cap : Nat) (l : List (ByteArray × ByteArray)) (key : ByteArray) (hlen : l.length ≤ 1000) (w : World) (hK : KVsAt w a l) :
    Calls Tryz.prog 18 #[.slice a l.length cap, .string key] w fun e w' => ∃ r, e = .returned r ∧ w'.ownsRow w.heap.size 55 2 r (l.filter fun x => !decide (x.1 = key)).length (flat (kvCells (l.filter fun x => !decide (x.1 = key)))) ∧ Turn [] w w' := by
  have HK := hide hK
  obtain ⟨n, HLn⟩ : ∃ n, Hid (l.length = n) := ⟨_, rfl⟩
  rw [HLn.out] at hlen ⊢
  have HFl : Hid (∀ j (h : j < l.length), (l.take (j + 1)).filter (fun x => !decide (x.1 = key)) = (l.take j).filter (fun x => !decide (x.1 = key)) ++ if l[j].1 = key then [] else [(l[j].1, l[j].2)]) := fun j h => by
    rw [List.take_succ_eq_append_getElem h, List.filter_append]
    congr 1
    by_cases e : l[j].1 = key <;> simp [e]
  have HFn : Hid (∀ j, ((l.take j).filter (fun x => !decide (x.1 = key))).length ≤ n) := fun j => by
    have h1 := List.length_filter_le (fun x : ByteArray × ByteArray => !decide (x.1 = key)) (l.take j)
    have h2 : (l.take j).length ≤ l.length := by rw [List.length_take]; omega
    rw [HLn.out] at h2
    omega
  clear hK
  go_enter Tryz.func18, Tryz.ntmps18
  go_wp2_with fail
  go_loopw [5, 6] (fun r i wr => ∃ j : Nat, j ≤ n ∧ i = .int .i64 (j : Nat) ∧ wr.ownsRow w.heap.size 55 2 r ((l.take j).filter fun x => !decide (x.1 = key)).length (flat (kvCells ((l.take j).filter fun x => !decide (x.1 = key)))) ∧ Turn [] w wr) (fun _ i _ => n - (intOf i).toNat)
  case atStart => exact ⟨0, Nat.zero_le _, rfl, World.ownsRow_nil _ _ _ _, Turn.refl _ _⟩
  case round =>
    obtain ⟨j, hj, rfl, hO, hT⟩ := hrel
    by_cases hlt : j < n
    · have hjl : j < l.length := by rw [HLn.out]; exact hlt
      obtain ⟨b, off, e, hk0, hk1⟩ := (HK.out.turn0 hT).at hjl
      subst e
      have HE := hide (HFl.out j hjl)
      have HO := hide hO
      have HT := hide hT
      have hbd := HFn.out j
      have hsz := hT.size
      have heq := eq_str l[j].1 key
      have HP : Hid (PairsAt (wr.alloc (.cells #[.string l[j].1, .string l[j].2] 55)) (some ⟨wr.heap.size, 0, none⟩) (kvCells [(l[j].1, l[j].2)])) := by
        refine (KVsAt.pairs (l := [(l[j].1, l[j].2)]) (.inr ⟨wr.heap.size, 0, rfl, fun i hi => ?_⟩) :)
        have : i = 0 := by simpa using hi
        subst this
        exact ⟨World.cell?_alloc_at _ _ _ _ rfl, World.cell?_alloc_at _ _ _ _ rfl⟩
      clear hO hT
      generalize (l.take j).filter (fun x => !decide (x.1 = key)) = xs at *
      generalize l[j].1 = jk at *
      generalize l[j].2 = jv at *
      clear hjl
      by_cases hk : jk = key
      · rw [decide_eq_true hk] at heq
        have HE' : Hid ((l.take (j + 1)).filter (fun x => !decide (x.1 = key)) = xs) := by
          show _ = _
          rw [HE.out, if_pos hk, List.append_nil]
        clear HE hk
        go_wp2_with fail
        go_roundw
        case rel => exact ⟨j + 1, by omega, by go_num, by rw [HE'.out]; exact HO.out, HT.out⟩
        case measure => simp [intOf]; omega
      · rw [decide_eq_false hk] at heq
        have HE' : Hid ((l.take (j + 1)).filter (fun x => !decide (x.1 = key)) = xs ++ [(jk, jv)]) := by
          show _ = _
          rw [HE.out, if_neg hk]
        have HOa := hide (own_turn HO.out ((Turn.refl [] wr).alloc (.cells #[.string jk, .string jv] 55)) (by simp))
        have HTa := hide (HT.out.alloc (.cells #[.string jk, .string jv] 55))
        clear HE hk
        go_wp2_with (at_builtin; refine append_pairsT 31 Tryz.underlying31 rfl _ _ rfl w.heap.size u5 xs.length (kvCells xs) rfl HOa.out (some ⟨wr.heap.size, 0, none⟩) 1 1 (kvCells [(jk, jv)]) rfl rfl (by simp) HP.out (kv_one _) (by omega) (by simp; omega) ?_; intro v' w3 hown3 hgrow3 _; have HO3 := hide hown3; have HG3 := hide hgrow3; clear hown3 hgrow3)
        go_roundw
        case rel =>
          refine ⟨j + 1, by omega, by go_num, ?_, HTa.out.grown HG3.out (fun g hg => .inr (HOa.out.lt g hg).1)⟩
          rw [HE'.out, List.length_append, kv_append]
          exact HO3.out
        case measure => simp [intOf]; omega
    · obtain rfl : j = n := by omega
      have HO := hide hO
      have HT := hide hT
      obtain ⟨ra, rc, rfl⟩ := own_form hO
      clear hO hT
      go_wp2_with fail
      go_ret
      have h := HO.out
      rw [← HLn.out, List.take_length] at h
      rw [← HLn.out, List.take_length]
      exact ⟨_, rfl, h, HT.out⟩

end Go.Proofs.YthgpjkcgccdldaaGreatDoor

namespace Go.Proofs.YthgpjkcgccdldaaGreatDoor
open Go.RowKit Go.Maps

/-- The law's Del. -/
def lawDel (l : List (ByteArray × ByteArray)) (k : ByteArray) : List (ByteArray × ByteArray) := l.filter fun x => !decide (x.1 = k)

/-- A row of pairs of the call's own, as a slice with room. -/
theorem own_room {w : World} {base : Nat} {v : Value} {n : Nat} {l : List (Value × Value)} (h : w.ownsRow base 55 2 v n (flat l)) : ∃ a cap, v = .slice a n cap ∧ n = l.length ∧ n ≤ cap ∧ (a = none → cap = 0) ∧ PairsAt w a l ∧ ∀ x, a = some x → base ≤ x.block ∧ x.block < w.heap.size := by
  obtain ⟨a, cap, rfl, hn, h1, h2, h3⟩ := own_pairs h
  refine ⟨a, cap, by rw [hn], hn, ?_, h1, h2, h3⟩
  obtain ⟨_, ⟨e, h0⟩ | ⟨g, cap', cur, e, _, _, hnc, _⟩⟩ := h
  · injection e with e1 e2 e3
    omega
  · injection e with e1 e2 e3
    omega
theorem own_base {w : World} {b b' e size n : Nat} {v : Value} {xs : List Value} (h : w.ownsRow b e size v n xs) (hb : b' ≤ b) : w.ownsRow b' e size v n xs := by
  obtain ⟨hl, h | ⟨g, cap, cur, e1, h1, rest⟩⟩ := h
  · exact ⟨hl, .inl h⟩
  · exact ⟨hl, .inr ⟨g, cap, cur, e1, Nat.le_trans hb h1, rest⟩⟩

/-- Where pairs lie that are cut off behind the k-th. -/
def hiP (a : Option Addr) (c k : Nat) : Option Addr := if c = k then a else a.map (·.add (k * 2))
set_option maxRecDepth 100000 in
theorem pslice_lo (a : Option Addr) (n c k : Nat) (w : World) (hk : k ≤ c) : (Instr.slice 31 (.slice a n c) none (some (.int .i64 (k : Nat))) none).run Tryz.prog w = .ok (.slice a k c) w := by
  rw [run_slice_h w 31 a n c (by kernel_rfl) .i64 k (by omega) (by omega)]
  have hs : (sizeOf (Tryz.prog.elem 31)).run Tryz.prog w = .ok 2 w := by go_simp
  rw [hs]
  simp only [Result.andThen, sliced, Int.toNat_natCast, Nat.zero_mul, Nat.sub_zero]
  congr 2
  split
  · rfl
  · cases a <;> rfl
set_option maxRecDepth 100000 in
theorem pslice_hi (a : Option Addr) (n c k : Nat) (w : World) (hk : k ≤ n) : (Instr.slice 31 (.slice a n c) (some (.int .i64 (k : Nat))) none none).run Tryz.prog w = .ok (.slice (hiP a c k) (n - k) (c - k)) w := by
  rw [run_slice_l w 31 a n c (by kernel_rfl) .i64 k (by omega) (by omega)]
  have hs : (sizeOf (Tryz.prog.elem 31)).run Tryz.prog w = .ok 2 w := by go_simp
  rw [hs]
  simp only [Result.andThen, sliced, Int.toNat_natCast, hiP]
theorem hiP_none {a : Option Addr} {c k : Nat} (h : a = none → c = 0) (e : hiP a c k = none) : c - k = 0 := by
  cases a with
  | none => rw [h rfl]; omega
  | some x =>
    unfold hiP at e
    split at e
    · cases e
    · cases e
theorem PairsAt.hi {w : World} {a : Option Addr} {l : List (Value × Value)} (h : PairsAt w a l) (c k : Nat) (hc : l.length ≤ c) : PairsAt w (hiP a c k) (l.drop k) := by
  unfold hiP
  split
  · exact .inl (List.drop_of_length_le (by omega))
  · rcases h with rfl | ⟨b, off, rfl, h⟩
    · exact .inl (by simp)
    · have hd := PairsAt.drop (.inr ⟨b, off, rfl, h⟩) k
      rw [Option.map_some]
      unfold Addr.add
      split
      · rename_i h0
        rw [h0] at hd
        exact hd
      · exact hd

theorem one_pair (w : World) (key value : ByteArray) : PairsAt (w.alloc (.cells #[.string key, .string value] 55)) (some ⟨w.heap.size, 0, none⟩) (kvCells [(key, value)]) := by
  refine (KVsAt.pairs (l := [(key, value)]) (.inr ⟨w.heap.size, 0, rfl, fun i hi => ?_⟩) :)
  have : i = 0 := by simpa using hi
  subst this
  exact ⟨World.cell?_alloc_at _ _ _ _ rfl, World.cell?_alloc_at _ _ _ _ rfl⟩

set_option maxRecDepth 100000 in
set_option maxHeartbeats 3200000 in
/-- The law's Put: the row without the key, cut where the key belongs, the pair between. -/
theorem lputl_any (a : Option Addr) (cap : Nat) (l : List (ByteArray × ByteArray)) (key value : ByteArray) (hlen : l.length ≤ 900) (hs : Rises (keysOf l)) (w : World) (hK : KVsAt w a l) :
    Calls Tryz.prog 15 #[.slice a l.length cap, .string key, .string value] w fun e w' => ∃ r i, e = .returned r ∧ IsPos (keysOf (lawDel l key)) key i ∧ w'.ownsRow w.heap.size 55 2 r ((lawDel l key).take i ++ [(key, value)] ++ (lawDel l key).drop i).length (flat (kvCells ((lawDel l key).take i ++ [(key, value)] ++ (lawDel l key).drop i))) ∧ Turn [] w w' := by
  have hR : Rises (keysOf (lawDel l key)) := by
    have : (keysOf (lawDel l key)).Sublist (keysOf l) := (List.filter_sublist (l := l)).map Prod.fst
    exact List.Pairwise.sublist this hs
  have hll : (lawDel l key).length ≤ l.length := List.length_filter_le _ _
  have HDel := hide (ldelete_any a cap l key (by omega) w hK)
  obtain ⟨K, hKn⟩ : ∃ K, K = l.length := ⟨_, rfl⟩
  rw [← hKn] at hlen hll HDel ⊢
  rw [show (l.filter fun x => !decide (x.1 = key)) = lawDel l key from rfl] at HDel
  generalize hd : lawDel l key = d at *
  clear hd hKn hs hK
  go_enter Tryz.func15, Tryz.ntmps15
  go_wp2_with fail
  refine HDel.out.mono ?_
  rintro e w1 ⟨v1, rfl, hO1, hT1⟩
  obtain ⟨da, dc, rfl, -, hdc, hdn, hdp, hdb⟩ := own_room hO1
  have HFind := hide (lfindl_any da dc d key d.length rfl (by omega) hR w1 hdp.kvs)
  have HT1 := hide hT1
  have HP1 := hide hdp
  obtain ⟨N, hN⟩ : ∃ N, N = d.length := ⟨_, rfl⟩
  rw [← hN] at hll hdc HFind ⊢
  have HNd := hide hN
  clear hO1 hdb hdp hT1 hR hN
  go_wp2_with fail
  refine HFind.out.mono ?_
  rintro e w1' ⟨i, rfl, hi, ew⟩
  obtain rfl : w1 = w1' := ew.symm
  have hin : i ≤ N := by
    have := hi.1
    rw [keysOf_length, ← HNd.out] at this
    exact this
  have HI := hide hi
  have hlo := fun u => pslice_lo da N dc i u (by omega)
  have hhi := fun u => pslice_hi da N dc i u (by omega)
  have HC : Hid ((kvCells d).length ≤ dc) := by show _ ≤ _; rw [kvCells_length, ← HNd.out]; exact hdc
  have HZ := hide (hiP_none (k := i) hdn)
  have HDn := hide hdn
  clear hi hdn
  go_wp2_with (first
    | (at_builtin; refine append_pairsT 31 Tryz.underlying31 rfl _ _ rfl w1.heap.size (.slice none 0 0) 0 [] rfl (World.ownsRow_nil _ _ _ _) da i dc (kvCells (d.take i)) rfl (by rw [kvCells_length, List.length_take, ← HNd.out]; omega) HDn.out (by rw [kv_take]; exact HP1.out.take i) (kv_one _) (by omega) (Nat.le_refl _) ?_
       intro v2 w2 hown2 hgrow2 _
       try simp only [Nat.zero_add, List.nil_append] at hown2
       obtain ⟨oa, oc, rfl, -, hoc, hon, -, hob⟩ := own_room hown2
       have hT2 : Turn [] w1 w2 := (Turn.refl [] w1).grown hgrow2 (by intro k hk; cases hk)
       have HO2 := hide (own_turn hown2 ((Turn.refl [] w2).alloc (.cells #[.string key, .string value] 55)) (by simp))
       have HP := hide (one_pair w2 key value)
       have HS2 := hide hT2.size
       have HT2 := hide (hT2.alloc (.cells #[.string key, .string value] 55))
       have HB2 : Hid (∀ k, (Value.slice oa i oc).ownBlock = some k → w1.heap.size ≤ k) := fun k hk => by
         cases oa with
         | none => cases hk
         | some x =>
           obtain rfl := Option.some.inj hk
           exact (hob x rfl).1
       clear hown2 hgrow2 hoc hon hob hT2)
    | (at_builtin; refine append_pairsT 31 Tryz.underlying31 rfl _ _ rfl w1.heap.size (.slice oa i oc) i (kvCells (d.take i)) rfl HO2.out (some ⟨w2.heap.size, 0, none⟩) 1 1 (kvCells [(key, value)]) rfl rfl (by simp) HP.out (kv_one _) (by omega) (by have := HS2.out; simp; omega) ?_
       intro v3 w3 hown3 hgrow3 _
       obtain ⟨pa, pc, rfl, -, hpc, hpn, -, hpb⟩ := own_room hown3
       have hT3 : Turn [] w1 w3 := HT2.out.grown hgrow3 (fun k hk => .inr (HB2.out k hk))
       have HO3 := hide hown3
       have HT3 := hide hT3
       have HS3 := hide hT3.size
       have HP3 := hide ((HP1.out.turn0 hT3).hi dc i HC.out)
       have HB3 : Hid (∀ k, (Value.slice pa (i + 1) pc).ownBlock = some k → w1.heap.size ≤ k) := fun k hk => by
         cases pa with
         | none => cases hk
         | some x =>
           obtain rfl := Option.some.inj hk
           exact (hpb x rfl).1
       clear hown3 hgrow3 hpc hpn hpb hT3)
    | (at_builtin; refine append_pairsT 31 Tryz.underlying31 rfl _ _ rfl w1.heap.size (.slice pa (i + 1) pc) (i + 1) (kvCells (d.take i) ++ kvCells [(key, value)]) rfl HO3.out (hiP da dc i) (N - i) (dc - i) (kvCells (d.drop i)) rfl (by rw [kvCells_length, List.length_drop, ← HNd.out]) HZ.out (by rw [kv_drop]; exact HP3.out) (kv_one _) (by omega) HS3.out ?_
       intro v4 w4 hown4 hgrow4 _
       obtain ⟨qa, qc, rfl, -⟩ := own_room hown4
       have HO4 := hide hown4
       have HT4 := hide (HT3.out.grown hgrow4 (fun k hk => .inr (HB3.out k hk)))
       clear hown4 hgrow4))
  go_ret
  refine ⟨_, i, rfl, HI.out, ?_, HT1.out.trans HT4.out⟩
  have h := own_base HO4.out HT1.out.size
  rw [List.length_append, List.length_append, List.length_take, List.length_drop, ← HNd.out, kv_append, kv_append]
  have e : min i N + [(key, value)].length + (N - i) = i + 1 + (N - i) := by rw [Nat.min_eq_left hin]; rfl
  rw [e]
  exact h

end Go.Proofs.YthgpjkcgccdldaaGreatDoor
