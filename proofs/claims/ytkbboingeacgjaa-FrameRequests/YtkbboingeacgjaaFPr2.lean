/-
  The frame's parser: plans and statements, walked.
-/
import Derived.Test.YtkbboingeacgjaaFPr
import Derived.Test.YtkbboingeacgjaaFWr2
namespace Go.Proofs.Ytkbboingeacgjaa
open Go.RowKit

/-- A call of two arguments, as a step of a region that draws. -/
theorem step_call2 {ops : Array Oper} {o : Oper} {a : Act} {K : Act → World → Prop} {Q : Exit → Act → World → Prop} {E : Prop} {w : World} (hgd : o.guard = none) (f : FuncId) (x y : Operand) (ts : Array TypeId)
    (ho : o.op = .call { callee := .value (.func f), args := #[x, y], argTypes := ts }) (vx vy : Value) (hx : a.eval x = vx) (hy : a.eval y = vy) (hE : (callFunc f #[vx, vy]).run Try.prog w = .ok (.enter f #[vx, vy]) w) {post : Value → World → Prop} (hC : Calls Try.prog f #[vx, vy] w fun e w' => ∃ v, e = .returned v ∧ post v w')
    (hK : ∀ v w', post v w' → K (a.put o.dst v) w') : if Region.wanted o (yielded ops a.tmps) = true then Oper.wp Try.prog o a w K Q else E := by
  have hw : Region.wanted o (yielded ops a.tmps) = true := by simp [Region.wanted, hgd]
  rw [if_pos hw]
  have hf : a.eval (.func f) = .func (.func f) #[] #[] := rfl
  have e : (execOp a.eval o).run Try.prog w = .ok (.enter f #[vx, vy]) w := by
    simp [execOp, ho, resolve, invoke, hx, hy, hf, Deferred.ofValue, hE]
  unfold Oper.wp
  rw [e, Oper.upon_enter]
  refine hC.mono ?_
  rintro e w' ⟨v, rfl, h⟩
  exact hK v w' h

theorem there_keep {W w' : World} {P : Nat → Prop} {q n : Nat} (hK : Keep P W w') (hq : P q) (ht : W.there q 0 n) : w'.there q 0 n := fun j hj => by
  have hql : q < W.heap.size := by
    have := (ht j hj).1
    rcases hx : W.cell? ⟨q, 0 + j, none⟩ with _ | v
    · rw [hx] at this; cases this
    · exact lt_of_cell hx
  have hb := hK.block q hql hq
  rw [World.cell?_of_block (a := ⟨q, 0 + j, none⟩) hb, World.frozen?_of_block (a := ⟨q, 0 + j, none⟩) hb]
  exact ht j hj

theorem Keep.setCells {P : Nat → Prop} {u w : World} (h : Keep P u w) {q : Nat} (hq : ¬ P q ∨ u.heap.size ≤ q) (o : Nat) (vs : List Value) : Keep P u (w.setCells q o vs) := by
  have e := rest_setCellsN q vs o w
  refine ⟨e.1.trans h.os, e.2.1.trans h.tape, e.2.2.trans h.output, by rw [size_setCellsN]; exact h.size, fun k hk hp => (heap_setCellsN q k (fun x => ?_) vs o w).trans (h.block k hk hp)⟩
  subst x
  rcases hq with hq | hq
  · exact hq hp
  · omega

/-- A struct was stored into a block that is nobody's. -/
theorem FpAt.stored {w0 W w4 : World} {b g q n : Nat} {s : Sx} {cs : List Value} (hth : W.there q 0 n) (hw : w4 = W.setCells q 0 cs) (hl : cs.length = n) (hK : Keep (fun x => x ≠ b) w0 W) (hS : FpAt W b g s) (hq : w0.heap.size ≤ q) (hb : b < w0.heap.size) (hg : g < w0.heap.size) :
    w4.rangeAt q 0 cs ∧ FpAt w4 b g s ∧ Keep (fun x => x ≠ b) w0 w4 := by
  subst hw
  refine ⟨World.rangeAt_setCells_same W q 0 cs (by rw [hl]; exact hth), hS.keep (P := fun x => x ≠ q) ((Keep.refl _ W).setCells (.inl (fun h => h rfl)) 0 cs) (by omega) (by omega), hK.setCells (.inr hq) 0 cs⟩

theorem stored_at {w0 W : World} {b g q n : Nat} {s : Sx} {cs : List Value} (hth : W.there q 0 n) (hl : cs.length = n) (h1 : ∀ u ∈ cs, u.oneCell' = true) (hK : Keep (fun x => x ≠ b) w0 W) (hS : FpAt W b g s) (hq : w0.heap.size ≤ q) (hb : b < w0.heap.size) (hg : g < w0.heap.size) :
    ∃ w4, (storeCells ⟨q, 0, none⟩ cs 0).run Try.prog W = .ok () w4 ∧ Hid (w4.rangeAt q 0 cs ∧ FpAt w4 b g s ∧ Keep (fun x => x ≠ b) w0 w4) := by
  refine ⟨W.setCells q 0 cs, ?_, FpAt.stored hth rfl hl hK hS hq hb hg⟩
  have := run_storeCells_cells (P := Try.prog) q 0 cs 0 W (fun j hj => by simpa using (hth j (by omega)).1) (fun j hj => by simpa using (hth j (by omega)).2) h1
  simpa using this

theorem enterR (x y : Value) (w : World) : (callFunc 55 #[x, y]).run Try.prog w = .ok (.enter 55 #[x, y]) w := by kernel_rfl

theorem enterPp (x : Value) (w : World) : (callFunc 89 #[x]).run Try.prog w = .ok (.enter 89 #[x]) w := by kernel_rfl

/-- What 'fpplan' answers. -/
def fpplanP (w : World) (b g : Nat) (s : Sx) (r : Ending) (w' : World) : Prop := ∃ f nm y1 y2 y3 y4 y5 y6 y7 y8 y9, parsedTi 9 (recS s 73).2 = (f, nm, [y1, y2, y3, y4, y5, y6, y7, y8, y9]) ∧ r = .returned (.agg (planC nm y1 y2 y3 y4 y5 y6 y7 y8 y9).toArray) ∧ FpAt w' b g (recS s 73).1 ∧ Keep (fun x => x ≠ b) w w'

set_option maxRecDepth 100000 in
set_option maxHeartbeats 3200000 in
theorem fpplan {w : World} {b g : Nat} {s : Sx} (nm : ByteArray) (x1 x2 x3 x4 x5 x6 x7 x8 x9 : Int) (hgl : g < w.heap.size) (h : FpAt w b g s) :
    Calls Try.prog 87 #[.pointer (some ⟨b, 0, none⟩), .agg #[.string nm, .int .i64 x1, .int .i64 x2, .int .i64 x3, .int .i64 x4, .int .i64 x5, .int .i64 x6, .int .i64 x7, .int .i64 x8, .int .i64 x9]] w fun r w' => fpplanP w b g s r w' := by
  have hbl := lt_of_cell h.c0
  have hK0 : Keep (fun _ => True) w ((w.alloc (.cells #[.string nm, .int .i64 x1, .int .i64 x2, .int .i64 x3, .int .i64 x4, .int .i64 x5, .int .i64 x6, .int .i64 x7, .int .i64 x8, .int .i64 x9] 23)).alloc (.cells #[.string { data := #[] }, .int .i64 0, .int .i64 0, .int .i64 0, .int .i64 0, .int .i64 0, .int .i64 0, .int .i64 0, .int .i64 0, .int .i64 0] 23)) := ((Keep.refl _ w).alloc _).alloc _
  have hsz : ((w.alloc (.cells #[.string nm, .int .i64 x1, .int .i64 x2, .int .i64 x3, .int .i64 x4, .int .i64 x5, .int .i64 x6, .int .i64 x7, .int .i64 x8, .int .i64 x9] 23)).alloc (.cells #[.string { data := #[] }, .int .i64 0, .int .i64 0, .int .i64 0, .int .i64 0, .int .i64 0, .int .i64 0, .int .i64 0, .int .i64 0, .int .i64 0] 23)).heap.size = w.heap.size + 1 + 1 := by simp
  have hTh : ((w.alloc (.cells #[.string nm, .int .i64 x1, .int .i64 x2, .int .i64 x3, .int .i64 x4, .int .i64 x5, .int .i64 x6, .int .i64 x7, .int .i64 x8, .int .i64 x9] 23)).alloc (.cells #[.string { data := #[] }, .int .i64 0, .int .i64 0, .int .i64 0, .int .i64 0, .int .i64 0, .int .i64 0, .int .i64 0, .int .i64 0, .int .i64 0] 23)).there (w.heap.size + 1) 0 10 := by
    have h1 := there_new2 (w.alloc (.cells #[.string nm, .int .i64 x1, .int .i64 x2, .int .i64 x3, .int .i64 x4, .int .i64 x5, .int .i64 x6, .int .i64 x7, .int .i64 x8, .int .i64 x9] 23)) #[.string { data := #[] }, .int .i64 0, .int .i64 0, .int .i64 0, .int .i64 0, .int .i64 0, .int .i64 0, .int .i64 0, .int .i64 0, .int .i64 0] 23
    simpa using h1
  have hy := headD_lt h.by8
  have hby := takeS_lt s (73 + s.l.headD 0) h.by8
  have hlen := takeS_length s (73 + s.l.headD 0)
  have hC1 : ∀ W, Keep (fun _ => True) ((w.alloc (.cells #[.string nm, .int .i64 x1, .int .i64 x2, .int .i64 x3, .int .i64 x4, .int .i64 x5, .int .i64 x6, .int .i64 x7, .int .i64 x8, .int .i64 x9] 23)).alloc (.cells #[.string { data := #[] }, .int .i64 0, .int .i64 0, .int .i64 0, .int .i64 0, .int .i64 0, .int .i64 0, .int .i64 0, .int .i64 0, .int .i64 0] 23)) W → Calls Try.prog 83 #[.agg #[.string { data := #[] }, .int .i64 0, .int .i64 0, .int .i64 0, .int .i64 0, .int .i64 0, .int .i64 0, .int .i64 0, .int .i64 0, .int .i64 0]] W fun e w' => ∃ v, e = .returned v ∧ (∃ a c, v = .slice a 73 c) ∧ Keep (fun _ => True) W w' := fun W _ => (enc_plan W ByteArray.empty 0 0 0 0 0 0 0 0 0 (by decide)).mono (by
    rintro e w' ⟨v, rfl, ho⟩
    obtain ⟨a, c, rfl⟩ := own_form ho.own
    exact ⟨_, rfl, ⟨a, c, rfl⟩, Keep.of ho.old⟩)
  have hC2 : ∀ W ba bc, Keep (fun _ => True) ((w.alloc (.cells #[.string nm, .int .i64 x1, .int .i64 x2, .int .i64 x3, .int .i64 x4, .int .i64 x5, .int .i64 x6, .int .i64 x7, .int .i64 x8, .int .i64 x9] 23)).alloc (.cells #[.string { data := #[] }, .int .i64 0, .int .i64 0, .int .i64 0, .int .i64 0, .int .i64 0, .int .i64 0, .int .i64 0, .int .i64 0, .int .i64 0] 23)) W → Calls Try.prog 55 #[.pointer (some ⟨b, 0, none⟩), .slice ba 73 bc] W fun e w' => ∃ v, e = .returned v ∧ FTook w' b g (73 + s.l.headD 0) (recS s 73).1 (recS s 73).2 v ∧ Keep (fun x => x ≠ b) W w' := fun W ba bc hK => fprecord 73 (by omega) ba bc (h.keep (P := fun _ => True) (hK0.trans hK) trivial trivial)
  have hC3 : ∀ W a cap, BytesAt W a (recS s 73).2 → 73 + s.l.headD 0 ≤ cap → cap ≤ maxLen → (a = none ∧ cap = 0 ∨ ∃ ab ao, a = some ⟨ab, ao, none⟩) → Calls Try.prog 89 #[.slice a (73 + s.l.headD 0) cap] W fun e w' => ∃ v, e = .returned v ∧ (∃ f nm y1 y2 y3 y4 y5 y6 y7 y8 y9 cs, parsedTi 9 (recS s 73).2 = (f, nm, [y1, y2, y3, y4, y5, y6, y7, y8, y9]) ∧ v = .tuple #[.agg cs.toArray, .int .i64 (f : Nat)] ∧ cs = planC nm y1 y2 y3 y4 y5 y6 y7 y8 y9 ∧ cs.length = 10 ∧ ∀ u ∈ cs, u.oneCell' = true) ∧ Keep (fun _ => True) W w' := fun W a cap h1 h2 h3 h4 => (pplan a cap _ _ hlen h1 h2 h3 h4 hby).mono (by
    rintro e w' ⟨f, nm, y1, y2, y3, y4, y5, y6, y7, y8, y9, hp, rfl, hT⟩
    exact ⟨_, rfl, ⟨f, nm, y1, y2, y3, y4, y5, y6, y7, y8, y9, _, hp, rfl, rfl, rfl, planC_one _ _ _ _ _ _ _ _ _ _⟩, Keep.of hT⟩)
  unfold fpplanP
  have HC1 := hide hC1
  have HC2 := hide hC2
  have HC3 := hide hC3
  have HK0 := hide hK0
  have HTh := hide hTh
  have HZ := hide hsz
  have HTT : Hid (∀ W w' : World, Keep (fun x => x ≠ b) W w' → ∀ q, q ≠ b → W.there q 0 10 → w'.there q 0 10) := fun W w' hK q hq ht => there_keep hK hq ht
  have HOne : Hid (∀ nm y1 y2 y3 y4 y5 y6 y7 y8 y9, ∀ v ∈ planC nm y1 y2 y3 y4 y5 y6 y7 y8 y9, v.oneCell' = true) := planC_one
  clear h hC1 hC2 hC3 hK0 hTh hsz hy hby hlen
  generalize hm : 73 + s.l.headD 0 = m at *
  generalize recS s 73 = tk at *
  obtain ⟨s2, l⟩ := tk
  dsimp only at HC2 HC3 ⊢
  generalize parsedTi 9 l = pt at *
  generalize hrb : w.heap.size = rb at *
  have HW := hide hrb
  have hqb : rb ≠ b := by omega
  go_enter Try.func87, Try.ntmps87
  go_wp2_with fail
  clear hrb hm
  generalize ((w.alloc (.cells #[.string nm, .int .i64 x1, .int .i64 x2, .int .i64 x3, .int .i64 x4, .int .i64 x5, .int .i64 x6, .int .i64 x7, .int .i64 x8, .int .i64 x9] 23)).alloc (.cells #[.string { data := #[] }, .int .i64 0, .int .i64 0, .int .i64 0, .int .i64 0, .int .i64 0, .int .i64 0, .int .i64 0, .int .i64 0, .int .i64 0] 23)) = w0 at *
  have hq0 : w0.heap.size ≠ b := by have := HZ.out; omega
  go_region_law (first
    | (refine step_call1 rfl 83 (.tmp 11) _ rfl _ (by first | rfl | simp [Act.eval]) (enterP _ _) (HC1.out _ (by first | exact (Keep.refl _ _).drew | exact ((Keep.refl _ _).alloc _).drew)) ?_; rintro v1 w1 ⟨⟨a1, c1, rfl⟩, k1⟩; have t1 := HTT.out _ _ (k1.less (fun _ _ _ => trivial)); have k1' : Keep (fun _ => True) w0 w1 := (by first | exact (Keep.refl _ w0).drew.trans k1 | exact ((Keep.refl _ w0).alloc _).drew.trans k1); have HT1 := hide t1; have HK1 := hide k1'; have hq1 : w1.heap.size ≠ b := (by have := k1'.size; have := HZ.out; omega); clear t1 k1 k1')
    | (refine step_call2 rfl 55 (.tmp 10) (.tmp 12) _ rfl _ _ (by first | rfl | simp [Act.eval]) (by first | rfl | simp [Act.eval]) (enterR _ _ _) (HC2.out _ a1 c1 (by first | exact HK1.out | exact HK1.out.alloc _)) ?_; rintro v2 w2 ⟨hT, k2⟩; obtain ⟨a2, c2, rfl, hB, h2, h3, h4⟩ := hT.v; have HSt : Hid (FpAt w2 b g s2) := hT.st; have HB : Hid (∀ W, Keep (fun _ => True) w2 W → BytesAt W a2 l) := (fun W hK => hK.bytes hB (fun _ _ _ => trivial)); have HC4 := hide (fun W hK => HC3.out W a2 c2 (HB.out W hK) h2 h3 h4); have HT2 := hide (HTT.out _ _ k2); have HK2 : Hid (Keep (fun x => x ≠ b) w0 w2) := (by first | exact (HK1.out.less (fun _ _ _ => trivial)).trans k2 | exact ((HK1.out.alloc _).less (fun _ _ _ => trivial)).trans k2); have hq2 : w2.heap.size ≠ b := (by have := HK2.out.size; have := HZ.out; omega); clear hT hB h2 h3 h4 k2)
    | (refine step_call1 rfl 89 (.tmp 13) _ rfl _ (by first | rfl | simp [Act.eval]) (enterPp _ _) (HC4.out _ (by first | exact Keep.refl _ _ | exact (Keep.refl _ _).alloc _)) ?_; rintro v3 w3 ⟨⟨f, nm', y1, y2, y3, y4, y5, y6, y7, y8, y9, cs, hp, rfl, hcs, hlc, hon⟩, k3⟩; have HP := hide hp; have HCs := hide hcs; have HOn := hide hon; have t3 := HTT.out _ _ (k3.less (fun _ _ _ => trivial)); have HK3 : Hid (Keep (fun x => x ≠ b) w0 w3) := (by first | exact HK2.out.trans (k3.less (fun _ _ _ => trivial)) | exact (HK2.out.alloc _).trans (k3.less (fun _ _ _ => trivial))); have HS3 : Hid (FpAt w3 b g s2) := (by first | exact HSt.out.keep (P := fun _ => True) k3 trivial trivial | exact HSt.out.keep (P := fun _ => True) (((Keep.refl _ _).alloc _).trans k3) trivial trivial); obtain ⟨w4, hst, HE⟩ := (by first | exact stored_at (t3 _ hq2 (there_new2 w2 #[.string { data := #[] }, .int .i64 0, .int .i64 0, .int .i64 0, .int .i64 0, .int .i64 0, .int .i64 0, .int .i64 0, .int .i64 0, .int .i64 0] 23)) hlc hon HK3.out HS3.out HK2.out.size (by have := HZ.out; omega) (by have := HZ.out; omega) | exact stored_at (t3 _ hq1 (HT2.out _ hq1 (there_new2 w1 #[.string { data := #[] }, .int .i64 0, .int .i64 0, .int .i64 0, .int .i64 0, .int .i64 0, .int .i64 0, .int .i64 0, .int .i64 0, .int .i64 0] 23))) hlc hon HK3.out HS3.out HK1.out.size (by have := HZ.out; omega) (by have := HZ.out; omega) | exact stored_at (t3 _ hq0 (HT2.out _ hq0 (HT1.out _ hq0 (there_new2 w0 #[.string { data := #[] }, .int .i64 0, .int .i64 0, .int .i64 0, .int .i64 0, .int .i64 0, .int .i64 0, .int .i64 0, .int .i64 0, .int .i64 0] 23)))) hlc hon HK3.out HS3.out (Nat.le_refl _) (by have := HZ.out; omega) (by have := HZ.out; omega) | exact stored_at (there_new2 w3 #[.string { data := #[] }, .int .i64 0, .int .i64 0, .int .i64 0, .int .i64 0, .int .i64 0, .int .i64 0, .int .i64 0, .int .i64 0, .int .i64 0] 23) hlc hon (HK3.out.alloc _) (HS3.out.keep (P := fun _ => True) ((Keep.refl _ _).alloc _) trivial trivial) HK3.out.size (by have := HZ.out; omega) (by have := HZ.out; omega) : ∃ w4 : World, _ ∧ _); clear hp k3 hcs hon t3)
    | fail)
  all_goals
    obtain ⟨hr4, hf4, hk4⟩ := HE.out
    have HR4 := hide hr4
    have HF4 := hide hf4
    have HK4 := hide hk4
    have HTq := hide (HTT.out _ _ hk4 (rb + 1) (by omega) HTh.out)
    have HR6 := hide (World.rangeAt_setCells_same w4 (rb + 1) 0 cs (by rw [hlc]; exact HTq.out))
    clear hr4 hf4 hk4 HE hst
    go_wp2_with (first | ((with_reducible refine load_sz 23 10 sz23 _ _ 0 cs hlc ?_ HR4.out ?_); rfl) | ((with_reducible refine store_sz 23 10 sz23 _ _ (rb + 1) 0 cs hlc HOn.out ?_ ?_ HTq.out ?_); rfl; rfl) | fail)
    refine bodyPost_ret (v := .agg cs.toArray) (results_sz sz23 Try.results87 hlc rfl HR6.out) rfl ⟨f, nm', y1, y2, y3, y4, y5, y6, y7, y8, y9, HP.out, ?_, ?_, ?_⟩
    · rw [HCs.out]
    · exact HF4.out.keep (P := fun x => x ≠ rb + 1) ((Keep.refl _ w4).setCells (.inl (fun h => h rfl)) 0 cs) (by omega) (by omega)
    · exact ((HK0.out.less (fun _ _ _ => trivial)).trans HK4.out).setCells (.inr (by have := HW.out; omega)) 0 cs

end Go.Proofs.Ytkbboingeacgjaa
