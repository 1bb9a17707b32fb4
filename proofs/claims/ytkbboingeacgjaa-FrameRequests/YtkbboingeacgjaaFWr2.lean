/-
  The frame's writer: plans and statements, walked.
-/
import Derived.Test.YtkbboingeacgjaaFWr
import Derived.Test.YtkbboingeacgjaaQSz
import Derived.Test.YtkbboingeacgjaaQPp
import Derived.Deep.RegionHeldLaw
namespace Go.Proofs.Ytkbboingeacgjaa
open Go.RowKit

theorem FwAt.keep {w w' : World} {O : Nat → Prop} {b : Nat} {l : List Nat} {e : Nat} (h : FwAt w O b l e) (hK : Keep (fun _ => True) w w') : FwAt w' O b l e := by
  obtain ⟨⟨v, hv, hown, hno⟩, hc0, hfz, hob, hlt⟩ := h
  have hbl := lt_of_cell hc0
  exact ⟨⟨v, (hK.cell hbl trivial).trans hv, own_kept hown (hK.less (fun _ _ _ => trivial)), hno⟩, (hK.cell hbl trivial).trans hc0, fun o => (hK.fz hbl trivial).trans (hfz o), hob, fun x hx => Nat.lt_of_lt_of_le (hlt x hx) hK.size⟩

/-- New blocks become other people's. -/
theorem FwAt.more {w w' : World} {O O' : Nat → Prop} {b : Nat} {l : List Nat} {e : Nat} (h : FwAt w O b l e) (hK : Keep (fun _ => True) w w') (hO : ∀ x, O' x → O x ∨ w.heap.size ≤ x ∧ x < w'.heap.size) : FwAt w' O' b l e := by
  have h2 := h.keep hK
  obtain ⟨⟨v, hv, hown, hno⟩, hc0, hfz, hob, hlt'⟩ := h2
  obtain ⟨⟨v0, hv0, hown0, hno0⟩, hc00, _, _, hlt⟩ := h
  have hbl := lt_of_cell hc00
  obtain rfl : v0 = v := Option.some.inj (((hK.cell hbl trivial).trans hv0).symm.trans hv)
  refine ⟨⟨v0, hv, hown, fun g k => ⟨fun hg => ?_, (hno g k).2⟩⟩, hc0, hfz, fun hb => ?_, fun x hx => ?_⟩
  · rcases hO g hg with h | h
    · exact (hno g k).1 h
    · have := (hown0.lt g k).2; omega
  · rcases hO b hb with h | h
    · exact hob h
    · omega
  · rcases hO x hx with h | h
    · exact hlt' x h
    · exact h.2

theorem FwAt.less {w : World} {O O' : Nat → Prop} {b : Nat} {l : List Nat} {e : Nat} (h : FwAt w O b l e) (hO : ∀ x, O' x → O x) : FwAt w O' b l e := by
  obtain ⟨⟨v, hv, hown, hno⟩, hc0, hfz, hob, hlt⟩ := h
  exact ⟨⟨v, hv, hown, fun g k => ⟨fun hg => (hno g k).1 (hO g hg), (hno g k).2⟩⟩, hc0, hfz, fun hb => hob (hO b hb), fun x hx => hlt x (hO x hx)⟩

/-- A call of one argument, as a step of a region that draws. -/
theorem step_call1 {ops : Array Oper} {o : Oper} {a : Act} {K : Act → World → Prop} {Q : Exit → Act → World → Prop} {E : Prop} {w : World} (hgd : o.guard = none) (f : FuncId) (x : Operand) (ts : Array TypeId)
    (ho : o.op = .call { callee := .value (.func f), args := #[x], argTypes := ts }) (vx : Value) (hx : a.eval x = vx) (hE : (callFunc f #[vx]).run Try.prog w = .ok (.enter f #[vx]) w) {post : Value → World → Prop} (hC : Calls Try.prog f #[vx] w fun e w' => ∃ v, e = .returned v ∧ post v w')
    (hK : ∀ v w', post v w' → K (a.put o.dst v) w') : if Region.wanted o (yielded ops a.tmps) = true then Oper.wp Try.prog o a w K Q else E := by
  have hw : Region.wanted o (yielded ops a.tmps) = true := by simp [Region.wanted, hgd]
  rw [if_pos hw]
  have hf : a.eval (.func f) = .func (.func f) #[] #[] := rfl
  have e : (execOp a.eval o).run Try.prog w = .ok (.enter f #[vx]) w := by
    simp [execOp, ho, resolve, invoke, hx, hf, Deferred.ofValue, hE]
  unfold Oper.wp
  rw [e, Oper.upon_enter]
  refine hC.mono ?_
  rintro e w' ⟨v, rfl, h⟩
  exact hK v w' h

theorem enterP (x : Value) (w : World) : (callFunc 83 #[x]).run Try.prog w = .ok (.enter 83 #[x]) w := by kernel_rfl

/-- What a writer makes of a plan. -/
def tiW (l : List Nat) (e : Nat) (nm : ByteArray) (xs : List Int) : Sx := if nm.size ≤ 255 then ⟨l ++ tiB nm xs, e⟩ else ⟨l, orE e 5⟩

def planC (nm : ByteArray) (x1 x2 x3 x4 x5 x6 x7 x8 x9 : Int) : List Value := [.string nm, .int .i64 x1, .int .i64 x2, .int .i64 x3, .int .i64 x4, .int .i64 x5, .int .i64 x6, .int .i64 x7, .int .i64 x8, .int .i64 x9]

theorem planC_one (nm : ByteArray) (x1 x2 x3 x4 x5 x6 x7 x8 x9 : Int) : ∀ v ∈ planC nm x1 x2 x3 x4 x5 x6 x7 x8 x9, v.oneCell' = true := by
  intro v hv
  simp only [planC, List.mem_cons, List.not_mem_nil, or_false] at hv
  rcases hv with rfl | rfl | rfl | rfl | rfl | rfl | rfl | rfl | rfl | rfl <;> rfl

theorem out_rowB {w w' : World} {v : Value} {l : List Nat} (h : Out w w' v l) (hl : 0 < l.length) : ∃ g cap, v = .slice (some ⟨g, 0, none⟩) l.length cap ∧ BytesAt w' (some ⟨g, 0, none⟩) l ∧ l.length ≤ cap := by
  obtain ⟨hl0, h0 | ⟨g, cap, cur, rfl, hb, hg, hnc, hm, hsz, hcur⟩⟩ := h.own
  · omega
  · obtain ⟨g', cap', e, _, _, _, h2, _⟩ := own_bytes h.own hl
    injection e with e1 e2 e3
    obtain rfl : g = g' := congrArg Addr.block (Option.some.inj e1)
    exact ⟨g, cap, rfl, h2, hnc⟩

theorem Turn.undrew {S : List Nat} {w w' : World} (h : Turn S w.drew w') : Turn S w w' := ⟨h.os, h.tape, h.output, h.size, h.block⟩

set_option maxRecDepth 100000 in
set_option maxHeartbeats 3200000 in
theorem fwplan {w : World} {O : Nat → Prop} {b : Nat} {l : List Nat} {e : Nat} (nm : ByteArray) (x1 x2 x3 x4 x5 x6 x7 x8 x9 : Int) (hx : nm.size ≤ 9223372036854775807) (hl : l.length ≤ 1000000000) (h : FwAt w O b l e) :
    Calls Try.prog 81 #[.pointer (some ⟨b, 0, none⟩), .agg #[.string nm, .int .i64 x1, .int .i64 x2, .int .i64 x3, .int .i64 x4, .int .i64 x5, .int .i64 x6, .int .i64 x7, .int .i64 x8, .int .i64 x9]] w fun r w' => r = .returned (.agg (planC nm x1 x2 x3 x4 x5 x6 x7 x8 x9).toArray) ∧ FwAt w' O b (tiW l e nm [x1, x2, x3, x4, x5, x6, x7, x8, x9]).l (tiW l e nm [x1, x2, x3, x4, x5, x6, x7, x8, x9]).e ∧ Keep O w w' := by
  have hK0 : Keep (fun _ => True) w ((w.alloc (.cells #[.string nm, .int .i64 x1, .int .i64 x2, .int .i64 x3, .int .i64 x4, .int .i64 x5, .int .i64 x6, .int .i64 x7, .int .i64 x8, .int .i64 x9] 23)).alloc (.cells #[.string { data := #[] }, .int .i64 0, .int .i64 0, .int .i64 0, .int .i64 0, .int .i64 0, .int .i64 0, .int .i64 0, .int .i64 0, .int .i64 0] 23)) := ((Keep.refl _ w).alloc _).alloc _
  have hsz : ((w.alloc (.cells #[.string nm, .int .i64 x1, .int .i64 x2, .int .i64 x3, .int .i64 x4, .int .i64 x5, .int .i64 x6, .int .i64 x7, .int .i64 x8, .int .i64 x9] 23)).alloc (.cells #[.string { data := #[] }, .int .i64 0, .int .i64 0, .int .i64 0, .int .i64 0, .int .i64 0, .int .i64 0, .int .i64 0, .int .i64 0, .int .i64 0] 23)).heap.size = w.heap.size + 2 := by simp
  have hR0 : ((w.alloc (.cells #[.string nm, .int .i64 x1, .int .i64 x2, .int .i64 x3, .int .i64 x4, .int .i64 x5, .int .i64 x6, .int .i64 x7, .int .i64 x8, .int .i64 x9] 23)).alloc (.cells #[.string { data := #[] }, .int .i64 0, .int .i64 0, .int .i64 0, .int .i64 0, .int .i64 0, .int .i64 0, .int .i64 0, .int .i64 0, .int .i64 0] 23)).rangeAt w.heap.size 0 (planC nm x1 x2 x3 x4 x5 x6 x7 x8 x9) := by
    have h1 := rng_new w (planC nm x1 x2 x3 x4 x5 x6 x7 x8 x9) #[.string nm, .int .i64 x1, .int .i64 x2, .int .i64 x3, .int .i64 x4, .int .i64 x5, .int .i64 x6, .int .i64 x7, .int .i64 x8, .int .i64 x9] 23 rfl
    exact fun j v hj => (World.cell?_of_block (a := ⟨w.heap.size, 0 + j, none⟩) (Below.heap_alloc _ _ w.heap.size (by simp))).trans (h1 j v hj)
  have hTh : ((w.alloc (.cells #[.string nm, .int .i64 x1, .int .i64 x2, .int .i64 x3, .int .i64 x4, .int .i64 x5, .int .i64 x6, .int .i64 x7, .int .i64 x8, .int .i64 x9] 23)).alloc (.cells #[.string { data := #[] }, .int .i64 0, .int .i64 0, .int .i64 0, .int .i64 0, .int .i64 0, .int .i64 0, .int .i64 0, .int .i64 0, .int .i64 0] 23)).there (w.heap.size + 1) 0 10 := by
    have h1 := there_new2 (w.alloc (.cells #[.string nm, .int .i64 x1, .int .i64 x2, .int .i64 x3, .int .i64 x4, .int .i64 x5, .int .i64 x6, .int .i64 x7, .int .i64 x8, .int .i64 x9] 23)) #[.string { data := #[] }, .int .i64 0, .int .i64 0, .int .i64 0, .int .i64 0, .int .i64 0, .int .i64 0, .int .i64 0, .int .i64 0, .int .i64 0] 23
    simpa using h1
  have hW0 : FwAt ((w.alloc (.cells #[.string nm, .int .i64 x1, .int .i64 x2, .int .i64 x3, .int .i64 x4, .int .i64 x5, .int .i64 x6, .int .i64 x7, .int .i64 x8, .int .i64 x9] 23)).alloc (.cells #[.string { data := #[] }, .int .i64 0, .int .i64 0, .int .i64 0, .int .i64 0, .int .i64 0, .int .i64 0, .int .i64 0, .int .i64 0, .int .i64 0] 23)) (fun x => O x ∨ x = w.heap.size ∨ x = w.heap.size + 1) b l e := h.more hK0 (fun x hx => by
    rcases hx with hx | hx
    · exact .inl hx
    · exact .inr (by rw [hsz]; omega))
  have HC := hide (fwfits nm.size hx hW0)
  have HK0 := hide hK0
  have HR0 := hide hR0
  have HTh := hide hTh
  have HZ := hide hsz
  have HOl : Hid (∀ x, O x → x < w.heap.size) := h.lt
  have HOne : Hid (∀ v ∈ planC nm x1 x2 x3 x4 x5 x6 x7 x8 x9, v.oneCell' = true) := planC_one nm x1 x2 x3 x4 x5 x6 x7 x8 x9
  have hcl : (planC nm x1 x2 x3 x4 x5 x6 x7 x8 x9).length = 10 := rfl
  have HLC := hide hcl
  have hcell0 : ((w.alloc (.cells #[.string nm, .int .i64 x1, .int .i64 x2, .int .i64 x3, .int .i64 x4, .int .i64 x5, .int .i64 x6, .int .i64 x7, .int .i64 x8, .int .i64 x9] 23)).alloc (.cells #[.string { data := #[] }, .int .i64 0, .int .i64 0, .int .i64 0, .int .i64 0, .int .i64 0, .int .i64 0, .int .i64 0, .int .i64 0, .int .i64 0] 23)).cell? ⟨w.heap.size, 0, none⟩ = some (.string nm) := hR0 0 (.string nm) rfl
  clear hK0 hW0 hR0 hTh hsz h hcl
  generalize hrb : w.heap.size = rb at *
  go_enter Try.func81, Try.ntmps81
  go_wp2_with fail
  clear hrb
  generalize ((w.alloc (.cells #[.string nm, .int .i64 x1, .int .i64 x2, .int .i64 x3, .int .i64 x4, .int .i64 x5, .int .i64 x6, .int .i64 x7, .int .i64 x8, .int .i64 x9] 23)).alloc (.cells #[.string { data := #[] }, .int .i64 0, .int .i64 0, .int .i64 0, .int .i64 0, .int .i64 0, .int .i64 0, .int .i64 0, .int .i64 0, .int .i64 0] 23)) = w0 at *
  clear hcell0
  have HEn := hide (fun w hs => enc_plan w nm x1 x2 x3 x4 x5 x6 x7 x8 x9 hs)
  generalize hcs : planC nm x1 x2 x3 x4 x5 x6 x7 x8 x9 = cs at *
  rw [show (#[.string nm, .int .i64 x1, .int .i64 x2, .int .i64 x3, .int .i64 x4, .int .i64 x5, .int .i64 x6, .int .i64 x7, .int .i64 x8, .int .i64 x9] : Array Value) = cs.toArray by rw [← hcs]; rfl] at HEn
  have HEnd : Hid (∀ (w3 : World) (s : Sx), tiW l e nm [x1, x2, x3, x4, x5, x6, x7, x8, x9] = s → FwAt w3 (fun x => O x ∨ x = rb ∨ x = rb + 1) b s.l s.e → Keep (fun x => O x ∨ x = rb ∨ x = rb + 1) w0 w3 → w3.rangeAt rb 0 cs ∧ w3.there (rb + 1) 0 10 ∧ FwAt (w3.setCells (rb + 1) 0 cs) O b s.l s.e ∧ Keep O w (w3.setCells (rb + 1) 0 cs)) := fun w3 s hs hW hK => by
    have hz := HZ.out
    have h1 : w3.there (rb + 1) 0 10 := fun j hj => by
      have hb := hK.block (rb + 1) (by omega) (.inr (.inr rfl))
      rw [World.cell?_of_block (a := ⟨rb + 1, 0 + j, none⟩) hb, World.frozen?_of_block (a := ⟨rb + 1, 0 + j, none⟩) hb]
      exact HTh.out j hj
    have e := rest_setCellsN (rb + 1) cs 0 w3
    have hO : ∀ x, O x → x ≠ rb + 1 := fun x hx k => by
      have := HOl.out x hx
      omega
    refine ⟨fun j v hj => (hK.cell (by omega) (.inr (.inl rfl))).trans (HR0.out j v hj), h1, ?_, ?_⟩
    · obtain ⟨⟨v, hv, hown, hno⟩, hc0, hfz, hob, hlt⟩ := hW
      have hbn : b ≠ rb + 1 := fun k => hob (by rw [k]; exact (.inr (.inr rfl)))
      have hbb := heap_setCellsN (rb + 1) b hbn cs 0 w3
      refine ⟨⟨v, (World.cell?_of_block (a := ⟨b, 1, none⟩) hbb).trans hv, ?_, fun g k => ⟨fun ho => (hno g k).1 (.inl ho), (hno g k).2⟩⟩, (World.cell?_of_block (a := ⟨b, 0, none⟩) hbb).trans hc0, fun o => (World.frozen?_of_block (a := ⟨b, o, none⟩) hbb).trans (hfz o), fun k => hob (.inl k), fun x hx => by rw [size_setCellsN]; exact hlt x (.inl hx)⟩
      obtain ⟨k1, k2 | ⟨g', c', cur, e', k3, k4, k5⟩⟩ := hown
      · exact ⟨k1, .inl k2⟩
      · exact ⟨k1, .inr ⟨g', c', cur, e', k3, (heap_setCellsN (rb + 1) g' (fun k => (hno g' (by rw [e']; rfl)).1 (by rw [k]; exact (.inr (.inr rfl)))) cs 0 w3).trans k4, k5⟩⟩
    · have hKw : Keep O w w3 := (HK0.out.less (fun _ _ _ => trivial)).trans (hK.less (fun x _ hx => .inl hx))
      exact ⟨e.1.trans hKw.os, e.2.1.trans hKw.tape, e.2.2.trans hKw.output, by rw [size_setCellsN]; exact hKw.size, fun k hk ho => (heap_setCellsN (rb + 1) k (hO k ho) cs 0 w3).trans (hKw.block k hk ho)⟩
  have HCs := hide hcs
  clear hcs
  by_cases hs : nm.size ≤ 255
  · have hF := HC.out
    rw [if_pos hs, show decide (nm.size ≤ 255) = true by simp [hs]] at hF
    have HT : Hid (tiW l e nm [x1, x2, x3, x4, x5, x6, x7, x8, x9] = ⟨l ++ tiB nm [x1, x2, x3, x4, x5, x6, x7, x8, x9], e⟩) := by show _ = _; unfold tiW; rw [if_pos hs]
    have HF := hide hF
    clear hF HC
    refine HF.out.mono ?_
    rintro r w1 ⟨rfl, hW, hK⟩
    obtain ⟨v, hv, hown, hno⟩ := hW.row
    obtain ⟨va, vc, rfl⟩ := own_form hown
    have hbl := lt_of_cell hv
    have hR1 : w1.rangeAt rb 0 cs := fun j v hj => (hK.cell (by have := HZ.out; omega) (.inr (.inl rfl))).trans (HR0.out j v hj)
    have HW := hide hW
    have HK := hide hK
    have HHv : Hid (∀ w2 : World, w2.heap[b]? = w1.heap[b]? → w2.cell? ⟨b, 1, none⟩ = some (.slice va l.length vc)) := fun w2 hT => (World.cell?_of_block (a := ⟨b, 1, none⟩) hT).trans hv
    obtain ⟨N, hN, hld⟩ : ∃ N : Nat, (∀ w, Sem.run Try.prog (sizeOf 23) w = .ok N w) ∧ (loadCellsFrom ⟨rb, 0, none⟩ 0 N #[]).run Try.prog w1.drew = .ok cs.toArray w1.drew ∧ ¬ N = 0 := ⟨10, fun w => by kernel_rfl, by
      have := run_loadCells_list (P := Try.prog) w1.drew ⟨rb, 0, none⟩ cs (fun j v hv => by rw [Addr.add_mid]; exact hR1 j v hv)
      rw [HLC.out] at this
      exact this, by omega⟩
    obtain ⟨hld, hN0⟩ := hld
    have HP0 : 0 < (tiB nm [x1, x2, x3, x4, x5, x6, x7, x8, x9]).length := by unfold tiB; simp
    obtain ⟨B, hB⟩ : ∃ B, tiB nm [x1, x2, x3, x4, x5, x6, x7, x8, x9] = B := ⟨_, rfl⟩
    have HBd : Hid (B.length ≤ 400) := by
      show B.length ≤ 400
      rw [← hB]
      unfold tiB
      rw [List.length_append, List.length_append, natBytes_length]
      simp [be8_length]
      omega
    have HEn2 := hide (fun w => HEn.out w hs)
    rw [hB] at HT HP0 HEn2
    clear hB hown hno hW hK hR1 HEn
    go_wp2_with fail
    go_region_law (first | (refine step_call1 rfl 83 (.tmp 15) _ rfl (.agg cs.toArray) (by simp [Act.eval]) (enterP _ _) (HEn2.out _) ?_; intro v2 w2 hO; obtain ⟨g2, cap2, rfl, hB2, _⟩ := out_rowB hO HP0; have HO2 := hide hO.old; have hv2 := HHv.out w2 (hO.old.block b hbl (by simp)); have HB2 := hide hB2; clear hO hB2) | (refine fstep_wr_append rfl (.tmp 14) (.tmp 16) rfl HW.out hv (by simp [Act.eval]) g2 B.length cap2 B (by simp [Act.eval]) rfl HP0 HB2.out (by have := HBd.out; omega) (Keep.of (Turn.undrew HO2.out)) ?_; intro g cap w3 hP; obtain ⟨u, hc3⟩ := hP.c1; have fz3 := hP.fz; have HF2 := hide hP.fin; clear hP))
    all_goals
      have HFW := HF2.out.1
      have HFK := HK.out.trans HF2.out.2
      clear HF2 hv hv2 hld hN
      obtain ⟨hr4, hth4, hfin⟩ := HEnd.out _ _ HT.out HFW HFK
      have HRr := hide hr4
      have HThq := hide hth4
      have HFin := hide hfin
      have hl10 := HLC.out
      have HR6 := hide (World.rangeAt_setCells_same _ (rb + 1) 0 cs (by rw [hl10]; exact hth4))
      clear hr4 hth4 hfin HFW HFK
      generalize w3.setCell ⟨b, 1, none⟩ (.slice (some ⟨g, 0, none⟩) (l.length + B.length) cap) = w4 at *
      go_wp2_with (first | ((with_reducible refine load_sz 23 10 sz23 _ rb 0 cs hl10 ?_ HRr.out ?_); rfl) | ((with_reducible refine store_sz 23 10 sz23 _ _ (rb + 1) 0 cs hl10 HOne.out ?_ ?_ HThq.out ?_); rfl; rfl) | fail)
      refine bodyPost_ret (v := .agg cs.toArray) (results_sz sz23 Try.results81 hl10 rfl HR6.out) rfl ⟨?_, ?_, HFin.out.2⟩
      · rw [HCs.out]
      · rw [HT.out]; exact HFin.out.1
  · have hF := HC.out
    rw [if_neg hs, show decide (nm.size ≤ 255) = false by simp; omega] at hF
    have HT : Hid (tiW l e nm [x1, x2, x3, x4, x5, x6, x7, x8, x9] = ⟨l, orE e 5⟩) := by show _ = _; unfold tiW; rw [if_neg hs]
    have HF := hide hF
    clear hF HC HEn
    refine HF.out.mono ?_
    rintro r w4 ⟨rfl, hW, hK⟩
    have HFW := hW
    have HFK := hK
    clear hW hK
    obtain ⟨hr4, hth4, hfin⟩ := HEnd.out _ _ HT.out HFW HFK
    have HRr := hide hr4
    have HThq := hide hth4
    have HFin := hide hfin
    have hl10 := HLC.out
    have HR6 := hide (World.rangeAt_setCells_same _ (rb + 1) 0 cs (by rw [hl10]; exact hth4))
    clear hr4 hth4 hfin HFW HFK
    go_wp2_with (first | ((with_reducible refine load_sz 23 10 sz23 _ rb 0 cs hl10 ?_ HRr.out ?_); rfl) | ((with_reducible refine store_sz 23 10 sz23 _ _ (rb + 1) 0 cs hl10 HOne.out ?_ ?_ HThq.out ?_); rfl; rfl) | fail)
    refine bodyPost_ret (v := .agg cs.toArray) (results_sz sz23 Try.results81 hl10 rfl HR6.out) rfl ⟨?_, ?_, HFin.out.2⟩
    · rw [HCs.out]
    · rw [HT.out]; exact HFin.out.1

end Go.Proofs.Ytkbboingeacgjaa
