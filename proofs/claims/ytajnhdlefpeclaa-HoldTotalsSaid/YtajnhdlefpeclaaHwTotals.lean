/-
  HoldTotals, walked.
-/
import Derived.Test.YtajnhdlefpeclaaHKnown
import Derived.Test.YtajnhdlefpeclaaHFns
import Derived.Test.YtajnhdlefpeclaaLFrame
namespace Go.Proofs.Ytajnhdlefpeclaa.Ho
open Go.RowKit Go.Maps

theorem append_part {ops : Array Oper} {rest : List Oper} {o : Oper} {a : Act} {Q : Exit → Act → World → Prop} {w : World} (hgd : o.guard = none) (s x : Operand)
    (ho : o.op = .call { callee := .builtin .append, args := #[s, x], argTypes := #[25, 25] }) (base : Nat) (v : Value) (xs : List (Int × Int)) (k t : Int) (hs : a.eval s = v) (hown : w.ownsRow base 42 2 v xs.length (flatP xs)) (b0 : Nat) (hb0 : b0 = w.heap.size) (hx : a.eval x = .slice (some ⟨b0, 0, none⟩) 1 1) (hb : xs.length < 1000000) (hbase : base ≤ w.heap.size)
    (h : ∀ v' w', w'.ownsRow base 42 2 v' (xs ++ [(k, t)]).length (flatP (xs ++ [(k, t)])) → (w.alloc (.cells #[.int .i64 k, .int .i64 t] 42)).grownBy w' v.ownBlock → wpList Try.prog ops Q rest (a.put o.dst v') w') :
    wpList Try.prog ops Q (o :: rest) a (w.alloc (.cells #[.int .i64 k, .int .i64 t] 42)) := by
  subst hb0
  obtain ⟨i0, hi, hz0, hz1, hz2⟩ := info_parts info_part
  have hown' := own_keepS hown ((Turn.refl [] w).alloc (.cells #[.int .i64 k, .int .i64 t] 42)) (by simp)
  refine wpList_append_own_at (w.alloc (.cells #[.int .i64 k, .int .i64 t] 42)) hgd s x 25 ho base 42 i0 (.agg #[.int .i64 0, .int .i64 0]) 2 16 Try.underlying25 hi hz0 hz1 hz2 rfl (by decide) v xs.length (flatP xs) hs hown' ⟨w.heap.size, 0, none⟩ 1 1 [.int .i64 k, .int .i64 t] hx rfl (fun j u hj => ?_) (by simp [Value.oneCell']) (by unfold maxLen; omega) (by omega) (by simp; omega) ?_
  · rw [add_spot, Nat.zero_add, World.cell?_alloc_at _ _ _ _ rfl]
    simpa using hj
  · intro v' w' h1 h2 _ _
    refine h v' w' ?_ h2
    rw [List.length_append, flatP_append]
    exact h1

theorem grown_keep {w w' : World} {base e m n g : Nat} {v : Value} {cs : List Value} {O : Obj} (h : w.ownsRow base e m v n cs) (hg : g < base) (hl : g < w.heap.size) (hgr : (w.alloc O).grownBy w' v.ownBlock) : w'.heap[g]? = w.heap[g]? :=
  (hgr.block g (by simp; omega) (fun e => by have := own_ge h e.symm; omega)).trans (Below.heap_alloc w O g hl)

theorem wrap_small {x : Int} (h : -1000000 < x) (h' : x < 1000000) : wrap64 x = x := by unfold wrap64; omega

set_option maxRecDepth 100000 in
set_option maxHeartbeats 4000000 in
theorem totals_any (a : Option Addr) (c : Nat) (l : List Int) (over : Int) (w : World) (_hlen : l.length ≤ 9223372036854775807) (hL : NumsAt w a l) :
    Calls Try.prog 5 #[.slice a l.length c, .int .i64 over] w fun e w' => e = .returned (.bool true) ∧ Turn [] w w' := by
  have HL := hide hL
  clear hL
  obtain ⟨t1, t2, _⟩ := tmod_bd over 1000 (by omega)
  go_enter Try.func5, Try.ntmps5
  go_wp2_with fail
  refine (known_any w).mono ?_
  rintro e w1 ⟨rfl, hT1⟩
  have HT1 := hide hT1
  clear hT1
  go_wp2_with fail
  generalize over.tmod 1000 = ov at *
  obtain ⟨W, hW⟩ : ∃ W, W = w1.alloc (.cells #[.int .i64 1, .slice none 0 0, .int .i64 ov, .int .i64 0] 27) := ⟨_, rfl⟩
  have HTW : Hid (Turn [] w W) := by rw [hW]; exact HT1.out.alloc _
  have hb : W.heap[w1.heap.size]? = some (.cells #[.int .i64 1, .slice none 0 0, .int .i64 ov, .int .i64 0] 27) := by rw [hW]; exact Array.getElem?_push_size
  have d0 : W.cell? ⟨w1.heap.size, 0, none⟩ = some (.int .i64 1) := by unfold World.cell?; rw [hb]; rfl
  have d1 : W.cell? ⟨w1.heap.size, 1, none⟩ = some (.slice none 0 0) := by unfold World.cell?; rw [hb]; rfl
  have d2 : W.cell? ⟨w1.heap.size, 2, none⟩ = some (.int .i64 ov) := by unfold World.cell?; rw [hb]; rfl
  have d3 : W.cell? ⟨w1.heap.size, 3, none⟩ = some (.int .i64 0) := by unfold World.cell?; rw [hb]; rfl
  have fz : ∀ o, W.frozen? ⟨w1.heap.size, o, none⟩ = false := fun o => by unfold World.frozen?; rw [hb]; simp
  have hgW := lt_of_cell d0
  have HGw : Hid (w.heap.size ≤ w1.heap.size) := HT1.out.size
  rw [← hW]
  clear hW hb
  generalize w1.heap.size = g at *
  go_loopw [6, 7] (fun u i wr => ∃ (k : Nat) (pk : List (Int × Int)) (wt : Int) (v : Value), k ≤ l.length ∧ k ≤ 20 ∧ u = .int .i64 wt ∧ i = .int .i64 k ∧ pk.length = k ∧ -1000 * (k + 1) < wt ∧ wt < 1000 * (k + 1) ∧ Hid (wt = pk.foldl (fun s p => wrap64 (s + p.2)) ov) ∧ Hid (wr.ownsRow W.heap.size 42 2 v pk.length (flatP pk)) ∧ wr.cell? ⟨g, 0, none⟩ = some (.int .i64 1) ∧ wr.cell? ⟨g, 1, none⟩ = some v ∧ wr.cell? ⟨g, 2, none⟩ = some (.int .i64 ov) ∧ wr.cell? ⟨g, 3, none⟩ = some (.int .i64 0) ∧ (∀ o, wr.frozen? ⟨g, o, none⟩ = false) ∧ Turn [] w wr ∧ W.heap.size ≤ wr.heap.size) (fun _ i _ => 20 - (intOf i).toNat)
  case atStart => exact ⟨0, [], ov, .slice none 0 0, Nat.zero_le _, by omega, rfl, rfl, rfl, by omega, by omega, rfl, World.ownsRow_nil _ _ _ _, d0, d1, d2, d3, fz, HTW.out, Nat.le_refl _⟩
  case round =>
    obtain ⟨k, pk, wt, v, hk, hk2, rfl, rfl, hpk, hw1, hw2, HF, HO, c0, c1, c2, c3, hf, hT, hWs⟩ := hrel
    have HT := hide hT
    have hgr : g < wr.heap.size := lt_of_cell c0
    clear hT d0 d1 d2 d3 fz
    by_cases hlt : k < l.length ∧ k < 20
    · obtain ⟨hlt, hk20⟩ := hlt
      obtain ⟨b, off, rfl, hc⟩ := (HL.out.turn0 HT.out).at hlt
      obtain ⟨n1, n2, _⟩ := tmod_bd (l.getD k 0) 1000 (by omega)
      have hbw := lt_of_cell hc
      generalize l.getD k 0 = x at *
      have HPk := hide hpk
      have hpl : pk.length < 1000 := by omega
      clear hpk
      go_wp2_with (first | (at_builtin; refine append_part rfl _ _ rfl W.heap.size v pk (k + 1) (x.tmod 1000) rfl HO.out wr.heap.size rfl rfl (by omega) hWs ?_; intro v' w5 hown5 hgr5; have hb5 := grown_keep HO.out hgW hgr hgr5; have hsz5 : wr.heap.size ≤ w5.heap.size := Nat.le_trans (by simp) hgr5.size; obtain ⟨pa, pc, rfl, _, hpn, hpp, _, _⟩ := own_parts hown5; have k0 := (World.cell?_of_block (a := ⟨g, 0, none⟩) hb5).trans c0; have k1 := (World.cell?_of_block (a := ⟨g, 1, none⟩) hb5).trans c1; have k2 := (World.cell?_of_block (a := ⟨g, 2, none⟩) hb5).trans c2; have k3 := (World.cell?_of_block (a := ⟨g, 3, none⟩) hb5).trans c3; have fz : ∀ o, w5.frozen? ⟨g, o, none⟩ = false := fun o => (World.frozen?_of_block (a := ⟨g, o, none⟩) hb5).trans (hf o); clear c0 c1 c2 c3 hf hc hb5 hpn hpp) | fail)
      have HT5 : Hid (Turn [] w w5) := (HT.out.alloc _).grown hgr5 (fun q hq => .inr (by have := (own_ge HO.out hq).1; have := HTW.out.size; omega))
      have HT6 : Hid (Turn [] w (w5.setCell ⟨g, 1, none⟩ (.slice pa (pk.length + 1) pc))) := Turn.new HT5.out HGw.out _ _
      have HO6 : Hid ((w5.setCell ⟨g, 1, none⟩ (.slice pa (pk.length + 1) pc)).ownsRow W.heap.size 42 2 (.slice pa (pk.length + 1) pc) (pk ++ [((k : Int) + 1, x.tmod 1000)]).length (flatP (pk ++ [((k : Int) + 1, x.tmod 1000)]))) :=
        own_keepS (by rw [show Value.slice pa (pk.length + 1) pc = Value.slice pa (pk ++ [((k : Int) + 1, x.tmod 1000)]).length pc by simp]; exact hown5) ((Turn.refl [g] w5).setCell (by simp) _ _) (fun q hq => by have := (own_ge hown5 (q := q) (by cases pa <;> exact hq)).1; simp; omega)
      have HF6 : Hid (wt + x.tmod 1000 = (pk ++ [((k : Int) + 1, x.tmod 1000)]).foldl (fun s p => wrap64 (s + p.2)) ov) := by
        unfold Hid
        rw [List.foldl_append, ← HF.out]
        exact (wrap_small (by omega) (by omega)).symm
      have HL6 : Hid ((pk ++ [((k : Int) + 1, x.tmod 1000)]).length = k + 1) := by
        unfold Hid
        rw [List.length_append, HPk.out]
        rfl
      generalize pk ++ [((k : Int) + 1, x.tmod 1000)] = pk' at *
      clear hown5 hgr5 HO HT HF HPk
      go_wp2_with fail
      go_roundw
      case rel => exact ⟨k + 1, pk', _, .slice pa (pk.length + 1) pc, by omega, by omega, rfl, by go_num, HL6.out, by simp; omega, by simp; omega, HF6, HO6, (World.cell?_setCell_other _ _ _ _ (off_ne (by omega))).trans k0, World.cell?_setCell_same _ _ _ k1, (World.cell?_setCell_other _ _ _ _ (off_ne (by omega))).trans k2, (World.cell?_setCell_other _ _ _ _ (off_ne (by omega))).trans k3, fun o => by rw [World.frozen?_setCell]; exact fz o, HT6.out, by rw [World.size_setCell]; omega⟩
      case measure => simp [intOf]; omega
    · obtain ⟨pa, pc, rfl, _, hnil, hpp, _, _⟩ := own_parts HO.out
      have HP := hide hpp
      have HNil := hide hnil
      have HFi : Hid (tot ⟨1, pk, ov, 0⟩ = wt) := HF.out.symm
      have hpl : pk.length ≤ 1000 := by omega
      have HPl := hide hpk
      clear hpp hnil hpk HO
      have HR : Hid (Hr.Ok wr ⟨⟨1, pk, ov, 0⟩, pa, pc⟩) := ⟨HP.out, HNil.out⟩
      have hcs : (¬ k < l.length) ∨ (k < l.length ∧ ¬ k < 20) := by
        by_cases h : k < l.length
        · exact .inr ⟨h, fun h2 => hlt ⟨h, h2⟩⟩
        · exact .inl h
      clear hlt
      rcases hcs with h1 | ⟨h1, h2⟩
      all_goals
        go_wp2_with fail
        refine (total_any ⟨⟨1, pk, ov, 0⟩, pa, pc⟩ wr hpl HR.out).mono ?_
        rintro e w2 ⟨rfl, hT2⟩
        have HR2 := hide (HR.out.turn0 hT2)
        have k0 := (hT2.cell (p := ⟨g, 0, none⟩) hgr (by simp)).trans c0
        have k1 := (hT2.cell (p := ⟨g, 1, none⟩) hgr (by simp)).trans c1
        have k2 := (hT2.cell (p := ⟨g, 2, none⟩) hgr (by simp)).trans c2
        have k3 := (hT2.cell (p := ⟨g, 3, none⟩) hgr (by simp)).trans c3
        have HT2 := hide (HT.out.trans hT2)
        have hg2 := lt_of_cell k0
        rw [HFi.out]
        clear hT2 c0 c1 c2 c3 hf HR
        go_wp2_with fail
        refine (put_any none 0 [] ⟨⟨1, pk, ov, 0⟩, pa, pc⟩ w2 Up.nil (by simp) (fun x hx => by simp at hx) (HoldsAt.nil _) HR2.out hpl).mono ?_
        rintro e w3 ⟨a3, c3, rfl, hH3, hT3⟩
        have HR3 := hide (HR2.out.turn0 hT3)
        have j0 := (hT3.cell (p := ⟨g, 0, none⟩) hg2 (by simp)).trans k0
        have j1 := (hT3.cell (p := ⟨g, 1, none⟩) hg2 (by simp)).trans k1
        have j2 := (hT3.cell (p := ⟨g, 2, none⟩) hg2 (by simp)).trans k2
        have j3 := (hT3.cell (p := ⟨g, 3, none⟩) hg2 (by simp)).trans k3
        have HT3 := hide (HT2.out.trans hT3)
        have hg3 := lt_of_cell j0
        clear hT3 hH3 k0 k1 k2 k3 HR2
        simp only [put, lo, hi, List.filter_nil, List.nil_append, List.length_cons, List.length_nil]
        go_wp2_with fail
        refine (put_any none 0 [] ⟨⟨1, pk, ov, 0⟩, pa, pc⟩ w3 Up.nil (by simp) (fun x hx => by simp at hx) (HoldsAt.nil _) HR3.out hpl).mono ?_
        rintro e w4 ⟨a4, c4, rfl, hH4, hT4⟩
        have HT4 := hide (HT3.out.trans hT4)
        obtain ⟨rs, hrs, hA4, hO4, _, _, _⟩ := hH4
        obtain ⟨r, rfl⟩ : ∃ r, rs = [r] := List.length_eq_one_iff.1 (by have := congrArg List.length hrs; simpa [put, lo, hi] using this.symm)
        obtain ⟨b4, o4, rfl, i0, i1, i2, i3⟩ := hA4.at (i := 0) (by simp)
        have hr : r.x = ⟨1, pk, ov, 0⟩ := by injection hrs with h _; exact h.symm
        simp only [List.getD_cons_zero] at i0 i1 i2 i3
        have HOr := hide (hO4 r (by simp))
        have HFr : Hid (tot r.x = wt) := by rw [hr]; exact HFi
        have hrl : r.x.ps.length ≤ 1000 := by rw [hr]; exact hpl
        clear hT4 hA4 hO4 hrs hr j0 j1 j2 j3
        simp only [put, lo, hi, List.filter_nil, List.nil_append, List.length_cons, List.length_nil]
        simp only [Nat.zero_mul, Nat.add_zero] at i0 i1 i2 i3
        have hb4 := lt_of_cell i0
        go_wp2_with fail
        refine (total_any r w4 hrl HOr.out).mono ?_
        rintro e w5 ⟨rfl, hT5⟩
        have HT5 := hide (HT4.out.trans hT5)
        rw [HFr.out]
        clear hT5 i0 i1 i2 i3
        go_wp2_with fail
        go_ret
        exact ⟨rfl, HT5.out⟩

end Go.Proofs.Ytajnhdlefpeclaa.Ho
