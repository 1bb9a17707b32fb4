/-
  copied, walked.
-/
import Derived.Test.YtajnhdlefpeclaaHMem
namespace Go.Proofs.Ytajnhdlefpeclaa.Ho
open Go.RowKit Go.Maps

/-- 'copy' of elements of several cells. -/
theorem run_copy_many {P : Program} (w : World) (dT sT ty elem : TypeId) (g dLen dCap : Nat) (a : Addr) (sLen sCap size : Nat) (cur : Array Value) (t : TypeId) (cs : List Value)
    (hu : P.underlying dT = some (.slice elem)) (hs : (P.info? elem).map (·.size) = some size)
    (hg : w.heap[g]? = some (.cells cur t (0, 0))) (hn : cs.length = Nat.min sLen dLen * size)
    (hsrc : ∀ j v, cs[j]? = some v → w.cell? (a.add j) = some v) (hfit : cs.length ≤ cur.size) (h1 : ∀ v ∈ cs, v.oneCell' = true) :
    (Builtin.copy_ #[dT, sT] ty #[.slice (some ⟨g, 0, none⟩) dLen dCap, .slice (some a) sLen sCap]).run P w =
      .ok (goInt (Nat.min sLen dLen)) (w.setRow g (cs ++ cur.toList.drop cs.length).toArray) := by
  have hl := run_loadCells_list (P := P) w a cs hsrc
  have hst := run_storeCells_at P g 0 t cs 0 cur w hg (by simpa using hfit) h1
  cases hq : P.info? elem with
  | none => simp [hq] at hs
  | some i =>
    have hi : i.size = size := by simpa [hq] using hs
    simp at hst
    simp [Builtin.copy_, run_underlying hu, Builtin.lenOf, Builtin.firstCells, sizeOf, typeInfo, hq, hi, ← hn, hl, hst]

theorem info_part : (Try.prog.info? 42).map (fun i => (i.zero, i.size, i.bytes)) = some (some (.agg #[.int .i64 0, .int .i64 0]), 2, 16) := by kernel_rfl

theorem turn_setRow {w w' : World} {g : Nat} (h : Turn [] w w') (hg : w.heap.size ≤ g) (cs : Array Value) : Turn [] w (w'.setRow g cs) :=
  ⟨h.os, h.tape, h.output, by rw [size_setRow]; exact h.size, fun k hk hn => (setRow_other w' g k cs (by omega)).trans (h.block k hk hn)⟩
theorem partsIn_src' {w : World} {b off : Nat} {l : List (Int × Int)} (h : PartsIn w b off l) : ∀ j u, (flatP l)[j]? = some u → w.cell? ⟨b, off + j, none⟩ = some u := by
  intro j u hu
  have hj : j < l.length * 2 := by
    rw [← flatP_length]
    rcases Nat.lt_or_ge j (flatP l).length with h | h
    · exact h
    · rw [List.getElem?_eq_none h] at hu; cases hu
  obtain ⟨i, r, hr, rfl⟩ : ∃ i r, r < 2 ∧ j = i * 2 + r := ⟨j / 2, j % 2, by omega, by omega⟩
  have hi : i < l.length := by omega
  obtain ⟨h1, h2⟩ := flatP_get l i hi
  obtain ⟨k1, k2⟩ := h i hi
  obtain rfl | rfl : r = 0 ∨ r = 1 := by omega
  · rw [Nat.add_zero] at hu ⊢
    exact k1.trans (h1.symm.trans hu)
  · rw [← Nat.add_assoc]
    exact k2.trans (h2.symm.trans hu)

/-- A row of parts, made and filled: what the two operations do. -/
theorem make_parts (a : Option Addr) (cap : Nat) (l : List (Int × Int)) (w : World) (hlen : l.length ≤ 1000) (hL : PartsAt w a l) (hnil : a = none → cap = 0) :
    ∃ w1 w2, (Instr.makeSlice 25 (.int .i64 l.length) (.int .i64 l.length)).run Try.prog w = .ok (.slice (some ⟨w.heap.size, 0, none⟩) l.length l.length) w1 ∧ Turn [] w w1 ∧
      (∀ ty, (Builtin.copy_ #[25, 25] ty #[.slice (some ⟨w.heap.size, 0, none⟩) l.length l.length, .slice a l.length cap]).run Try.prog w1 = .ok (goInt l.length) w2) ∧ PartsAt w2 (some ⟨w.heap.size, 0, none⟩) l ∧ Turn [] w w2 := by
  obtain ⟨i0, hi, hz0, hz1, hz2⟩ := info_parts info_part
  obtain ⟨w1, hmk, hown, hgr⟩ := run_makeSlice_full (P := Try.prog) w w.heap.size 25 42 i0 (.agg #[.int .i64 0, .int .i64 0]) 2 Try.underlying25 hi hz0 hz1 .i64 .i64 l.length (by omega) (by rw [hz2]; omega) (by unfold maxLen; omega) (Nat.le_refl _)
  have hT1 : Turn [] w w1 := (Turn.refl [] w).grown hgr (by simp)
  obtain ⟨_, hx | ⟨g, c, cur, hv, hb, hg, hnc, hmx, hsz, hcur⟩⟩ := hown
  · simp at hx
  · injection hv with e1 e2 e3
    obtain rfl : w.heap.size = g := congrArg Addr.block (Option.some.inj e1)
    subst e3
    by_cases hl : l = []
    · subst hl
      cases a with
      | none =>
        obtain rfl := hnil rfl
        exact ⟨w1, w1, hmk, hT1, fun ty => run_copy_nil Try.prog w1 25 25 ty 42 _ _ _ Try.underlying25 (by rw [hi]; rfl), .inl rfl, hT1⟩
      | some x =>
        exact ⟨w1, _, hmk, hT1, fun ty => run_copy_many w1 25 25 ty 42 w.heap.size 0 0 x 0 cap 2 cur _ [] Try.underlying25 (by rw [hi]; simp [hz1]) hg (by simp) (by simp) (by simp) (by simp), .inl rfl, turn_setRow hT1 (Nat.le_refl _) _⟩
    · rcases hL.turn0 hT1 with h | ⟨b, off, rfl, hin⟩
      · exact absurd h hl
      · have hcs : (flatP l).length = cur.size := by rw [flatP_length, hsz]
        refine ⟨w1, w1.setRow w.heap.size (flatP l ++ cur.toList.drop (flatP l).length).toArray, hmk, hT1, fun ty => (run_copy_many w1 25 25 ty 42 w.heap.size l.length l.length ⟨b, off, none⟩ l.length cap 2 cur _ (flatP l) Try.underlying25 (by rw [hi]; simp [hz1]) hg (by rw [flatP_length]; simp) (fun j u hj => ?_) (by omega) (flatP_one l)).trans (by simp), .inr ⟨w.heap.size, 0, rfl, partsIn_src fun j u hj => ?_⟩, turn_setRow hT1 (Nat.le_refl _) _⟩
        · rw [add_spot]
          exact partsIn_src' hin j u hj
        · rw [cell_setRow_same _ _ _ _ _ _ _ hg, hcs]
          have : cur.toList.drop cur.size = [] := List.drop_of_length_le (by simp)
          rw [this, List.append_nil, Nat.zero_add]
          simpa using hj

/-- A hold that was stored. -/
theorem hr_store {w : World} {b : Nat} {v0 v1 v2 v3 : Value} (h0 : w.cell? ⟨b, 0, none⟩ = some v0) (h1 : w.cell? ⟨b, 1, none⟩ = some v1) (h2 : w.cell? ⟨b, 2, none⟩ = some v2) (h3 : w.cell? ⟨b, 3, none⟩ = some v3) (r : Hr) :
    HrIn ((((w.setCell ⟨b, 0, none⟩ (.int .i64 r.x.id)).setCell ⟨b, 1, none⟩ (.slice r.a r.x.ps.length r.c)).setCell ⟨b, 2, none⟩ (.int .i64 r.x.ov)).setCell ⟨b, 3, none⟩ (.int .i64 r.x.un)) b 0 r := by
  have k1 : (w.setCell ⟨b, 0, none⟩ (.int .i64 r.x.id)).cell? ⟨b, 1, none⟩ = some v1 := (World.cell?_setCell_other _ _ _ _ (off_ne (by omega))).trans h1
  have k2 : ((w.setCell ⟨b, 0, none⟩ (.int .i64 r.x.id)).setCell ⟨b, 1, none⟩ (.slice r.a r.x.ps.length r.c)).cell? ⟨b, 2, none⟩ = some v2 := (World.cell?_setCell_other _ _ _ _ (off_ne (by omega))).trans ((World.cell?_setCell_other _ _ _ _ (off_ne (by omega))).trans h2)
  have k3 : (((w.setCell ⟨b, 0, none⟩ (.int .i64 r.x.id)).setCell ⟨b, 1, none⟩ (.slice r.a r.x.ps.length r.c)).setCell ⟨b, 2, none⟩ (.int .i64 r.x.ov)).cell? ⟨b, 3, none⟩ = some v3 := (World.cell?_setCell_other _ _ _ _ (off_ne (by omega))).trans ((World.cell?_setCell_other _ _ _ _ (off_ne (by omega))).trans ((World.cell?_setCell_other _ _ _ _ (off_ne (by omega))).trans h3))
  refine ⟨?_, ?_, ?_, ?_⟩
  · exact (World.cell?_setCell_other _ _ _ _ (off_ne (by omega))).trans ((World.cell?_setCell_other _ _ _ _ (off_ne (by omega))).trans ((World.cell?_setCell_other _ _ _ _ (off_ne (by omega))).trans (World.cell?_setCell_same _ _ _ h0)))
  · exact (World.cell?_setCell_other _ _ _ _ (off_ne (by omega))).trans ((World.cell?_setCell_other _ _ _ _ (off_ne (by omega))).trans (World.cell?_setCell_same _ _ _ k1))
  · exact (World.cell?_setCell_other _ _ _ _ (off_ne (by omega))).trans (World.cell?_setCell_same _ _ _ k2)
  · exact World.cell?_setCell_same _ _ _ k3

set_option maxRecDepth 100000 in
set_option maxHeartbeats 2000000 in
theorem copied_any (r : Hr) (w : World) (hlen : r.x.ps.length ≤ 1000) (hR : r.Ok w) :
    Calls Try.prog 21 #[hrV r] w fun e w' => ∃ g, w.heap.size ≤ g ∧ e = .returned (hrV ⟨r.x, some ⟨g, 0, none⟩, r.x.ps.length⟩) ∧ PartsAt w' (some ⟨g, 0, none⟩) r.x.ps ∧ Turn [] w w' := by
  obtain ⟨⟨id, ps, ov, un⟩, a, c⟩ := r
  obtain ⟨hP, hnil⟩ := hR
  simp only at hlen hP hnil ⊢
  have hT2 : Turn [] w ((w.alloc (.cells #[.int .i64 id, .slice a ps.length c, .int .i64 ov, .int .i64 un] 27)).alloc (.cells #[.int .i64 0, .slice none 0 0, .int .i64 0, .int .i64 0] 27)) := ((Turn.refl [] w).alloc _).alloc _
  obtain ⟨w3, w4, hmk, hT3, hcp, hP4, hT4⟩ := make_parts a c ps _ hlen (hP.turn0 hT2) hnil
  obtain ⟨W, hW⟩ : ∃ W, W = (w.alloc (.cells #[.int .i64 id, .slice a ps.length c, .int .i64 ov, .int .i64 un] 27)).alloc (.cells #[.int .i64 0, .slice none 0 0, .int .i64 0, .int .i64 0] 27) := ⟨_, rfl⟩
  rw [← hW] at hT2 hmk hT3 hcp hP4 hT4
  have hs : W.heap.size = w.heap.size + 1 + 1 := by rw [hW]; simp
  have hb1 : W.heap[w.heap.size]? = some (.cells #[.int .i64 id, .slice a ps.length c, .int .i64 ov, .int .i64 un] 27) := by
    rw [hW, Below.heap_alloc _ _ _ (by simp)]
    exact Array.getElem?_push_size
  have hb2 : W.heap[w.heap.size + 1]? = some (.cells #[.int .i64 0, .slice none 0 0, .int .i64 0, .int .i64 0] 27) := by
    rw [hW]
    have e : w.heap.size + 1 = (w.alloc (.cells #[.int .i64 id, .slice a ps.length c, .int .i64 ov, .int .i64 un] 27)).heap.size := by simp
    rw [e]
    exact Array.getElem?_push_size
  have h31 := (hT3.block w.heap.size (by omega) (by simp)).trans hb1
  have h41 := (hT4.block w.heap.size (by omega) (by simp)).trans hb1
  have h42 := (hT4.block (w.heap.size + 1) (by omega) (by simp)).trans hb2
  rw [hs] at hmk hcp hP4
  have hsz4 : w.heap.size + 1 + 1 ≤ w4.heap.size := by have := hT4.size; omega
  have c3 : w3.cell? ⟨w.heap.size, 1, none⟩ = some (.slice a ps.length c) := by unfold World.cell?; rw [h31]; rfl
  have d0 : w4.cell? ⟨w.heap.size, 0, none⟩ = some (.int .i64 id) := by unfold World.cell?; rw [h41]; rfl
  have d1 : w4.cell? ⟨w.heap.size, 1, none⟩ = some (.slice a ps.length c) := by unfold World.cell?; rw [h41]; rfl
  have d2 : w4.cell? ⟨w.heap.size, 2, none⟩ = some (.int .i64 ov) := by unfold World.cell?; rw [h41]; rfl
  have d3 : w4.cell? ⟨w.heap.size, 3, none⟩ = some (.int .i64 un) := by unfold World.cell?; rw [h41]; rfl
  have e0 : w4.cell? ⟨w.heap.size + 1, 0, none⟩ = some (.int .i64 0) := by unfold World.cell?; rw [h42]; rfl
  have e1 : w4.cell? ⟨w.heap.size + 1, 1, none⟩ = some (.slice none 0 0) := by unfold World.cell?; rw [h42]; rfl
  have e2 : w4.cell? ⟨w.heap.size + 1, 2, none⟩ = some (.int .i64 0) := by unfold World.cell?; rw [h42]; rfl
  have e3 : w4.cell? ⟨w.heap.size + 1, 3, none⟩ = some (.int .i64 0) := by unfold World.cell?; rw [h42]; rfl
  have f1 : ∀ o, w4.frozen? ⟨w.heap.size, o, none⟩ = false := fun o => by unfold World.frozen?; rw [h41]; simp
  have f2 : ∀ o, w4.frozen? ⟨w.heap.size + 1, o, none⟩ = false := fun o => by unfold World.frozen?; rw [h42]; simp
  rw [hW] at hmk
  have HP := hide hP4
  have HT := hide (hT2.trans hT4)
  have HW := hide hW
  clear hT2 hT3 hT4 hP4 hW hb1 hb2 h31 h41 h42 hs hP hnil
  go_enter Try.func21, Try.ntmps21
  go_wp2_with fail
  obtain ⟨w5, h5⟩ : ∃ w5, w5 = w4.setCell ⟨w.heap.size, 1, none⟩ (.slice (some ⟨w.heap.size + 1 + 1, 0, none⟩) ps.length ps.length) := ⟨_, rfl⟩
  have e0' : w5.cell? ⟨w.heap.size + 1, 0, none⟩ = some (.int .i64 0) := by rw [h5]; exact (World.cell?_setCell_other _ _ _ _ (by simp)).trans e0
  have e1' : w5.cell? ⟨w.heap.size + 1, 1, none⟩ = some (.slice none 0 0) := by rw [h5]; exact (World.cell?_setCell_other _ _ _ _ (by simp)).trans e1
  have e2' : w5.cell? ⟨w.heap.size + 1, 2, none⟩ = some (.int .i64 0) := by rw [h5]; exact (World.cell?_setCell_other _ _ _ _ (by simp)).trans e2
  have e3' : w5.cell? ⟨w.heap.size + 1, 3, none⟩ = some (.int .i64 0) := by rw [h5]; exact (World.cell?_setCell_other _ _ _ _ (by simp)).trans e3
  have HT5 : Hid (Turn [] w w5) := by rw [h5]; exact Turn.new HT.out (by omega) _ _
  have HP5 : Hid (PartsAt w5 (some ⟨w.heap.size + 1 + 1, 0, none⟩) ps) := by
    rw [h5]
    exact HP.out.turn (S := [w.heap.size]) ((Turn.refl _ w4).setCell (by simp) _ _) (fun x hx => by obtain rfl := Option.some.inj hx; simp; omega)
  rw [← h5]
  have hst := hr_store e0' e1' e2' e3' ⟨⟨id, ps, ov, un⟩, some ⟨w.heap.size + 1 + 1, 0, none⟩, ps.length⟩
  have HT6 := hide (Turn.new (Turn.new (Turn.new (Turn.new HT5.out (show w.heap.size ≤ w.heap.size + 1 by omega) 0 (.int .i64 id)) (show w.heap.size ≤ w.heap.size + 1 by omega) 1 (.slice (some ⟨w.heap.size + 1 + 1, 0, none⟩) ps.length ps.length)) (show w.heap.size ≤ w.heap.size + 1 by omega) 2 (.int .i64 ov)) (show w.heap.size ≤ w.heap.size + 1 by omega) 3 (.int .i64 un))
  have HP6 := hide (HP5.out.turn (S := [w.heap.size + 1]) (((((Turn.refl _ w5).setCell (show w.heap.size + 1 ∈ [w.heap.size + 1] by simp) 0 (.int .i64 id)).setCell (show w.heap.size + 1 ∈ [w.heap.size + 1] by simp) 1 (.slice (some ⟨w.heap.size + 1 + 1, 0, none⟩) ps.length ps.length)).setCell (show w.heap.size + 1 ∈ [w.heap.size + 1] by simp) 2 (.int .i64 ov)).setCell (show w.heap.size + 1 ∈ [w.heap.size + 1] by simp) 3 (.int .i64 un)) (fun x hx => by obtain rfl := Option.some.inj hx; simp))
  simp only at hst
  generalize (((w5.setCell ⟨w.heap.size + 1, 0, none⟩ (.int .i64 id)).setCell ⟨w.heap.size + 1, 1, none⟩ (.slice (some ⟨w.heap.size + 1 + 1, 0, none⟩) ps.length ps.length)).setCell ⟨w.heap.size + 1, 2, none⟩ (.int .i64 ov)).setCell ⟨w.heap.size + 1, 3, none⟩ (.int .i64 un) = w6 at *
  obtain ⟨k0, k1, k2, k3⟩ := hst
  simp only [Nat.zero_add] at k0 k1 k2 k3
  clear d0 d1 d2 d3 e0 e1 e2 e3 e0' e1' e2' e3' f1 f2 h5 hmk hcp
  refine bodyPost_ret (v := hrV ⟨⟨id, ps, ov, un⟩, some ⟨w.heap.size + 1 + 1, 0, none⟩, ps.length⟩) ?_ rfl ⟨w.heap.size + 1 + 1, by omega, rfl, HP6.out, HT6.out⟩
  simp [results, Try.results21, go_sem, k0, k1, k2, k3]

end Go.Proofs.Ytajnhdlefpeclaa.Ho
