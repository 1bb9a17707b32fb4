/-
  FrameRequests, walked: any request is written, or refused, any bytes are read, any two requests are compared, as the document says.
-/
import Derived.Test.YtkbboingeacgjaaFRSamA
import Derived.Test.YtkbboingeacgjaaFRSamB
import Derived.Test.YtkbboingeacgjaaFEnc
import Derived.Test.YtkbboingeacgjaaFPrq
import Derived.Test.YtkbboingeacgjaaFREnc
import Derived.Deep.RegionHeld
import Derived.Deep.RegionHeld3
import Derived.Deep.Cut
namespace Go.Proofs.Ytkbboingeacgjaa
open Go.RowKit

/-- SameRequest of the reference. -/
theorem rsame (w : World) (a b : Rq) : Calls Try.prog 16 #[.agg (rqC a).toArray, .agg (rqC b).toArray] w fun e w' => ∃ z, e = .returned (.bool z) ∧ (z = true ↔ keptR a = keptR b) ∧ Turn [] w w' := by
  by_cases h : a.k = b.k
  · by_cases hk : isK a.k
    · rcases hk with e | e | e | e | e | e | e | e | e | e
      · exact rs_1 w a b e (by rw [← h]; exact e)
      · exact rs_4 w a b e (by rw [← h]; exact e)
      · exact rs_2 w a b e (by rw [← h]; exact e)
      · exact rs_3 w a b e (by rw [← h]; exact e)
      · exact rs_5 w a b e (by rw [← h]; exact e)
      · exact rs_16 w a b e (by rw [← h]; exact e)
      · exact rs_17 w a b e (by rw [← h]; exact e)
      · exact rs_18 w a b e (by rw [← h]; exact e)
      · exact rs_19 w a b e (by rw [← h]; exact e)
      · exact rs_20 w a b e (by rw [← h]; exact e)
    · exact rs_no w a b h hk
  · exact rs_ne w a b h

theorem app_8 {a b : List Nat} (ha : ∀ x ∈ a, x < 256) (hb : ∀ x ∈ b, x < 256) : ∀ x ∈ a ++ b, x < 256 := fun x hx => (List.mem_append.1 hx).elim (ha x) (hb x)
theorem txB_8 {t : ByteArray} (h : t.size ≤ 255) : ∀ x ∈ txB t, x < 256 := fun x hx => by
  unfold txB at hx
  rcases List.mem_append.1 hx with k | k
  · rw [List.mem_singleton.1 k]
    omega
  · exact natBytes_lt t x k
theorem tiB_8 {t : ByteArray} (h : t.size ≤ 255) (xs : List Int) : ∀ x ∈ tiB t xs, x < 256 := fun x hx => by
  unfold tiB at hx
  rcases List.mem_append.1 hx with k | k
  · exact txB_8 h x k
  · obtain ⟨y, _, hy⟩ := List.mem_flatMap.1 k
    exact be8_lt y x hy
theorem reqB_8 (r : Rq) (hk : isK r.k) (hf : Fit (txts r)) : ∀ x ∈ reqB r, x < 256 := by
  obtain ⟨k, key, id, n, ttl, o, nm, sec, pn, p1, p2, p3, p4, p5, p6, p7, p8, p9⟩ := r
  unfold Fit txts at hf
  dsimp only at hk hf
  have hb := fun x => be8_lt x
  unfold reqB bodyB
  dsimp only
  refine app_8 (app_8 ?_ ?_) ?_
  · intro x hx
    rw [List.mem_singleton.1 hx]
    rcases hk with rfl | rfl | rfl | rfl | rfl | rfl | rfl | rfl | rfl | rfl <;> decide
  · refine txB_8 (hf _ ?_)
    rcases hk with rfl | rfl | rfl | rfl | rfl | rfl | rfl | rfl | rfl | rfl <;> simp
  · rcases hk with rfl | rfl | rfl | rfl | rfl | rfl | rfl | rfl | rfl | rfl <;> simp at hf <;> simp only [reduceIte, Int.reduceEq, or_false, or_true, or_self] <;> first
      | exact app_8 (app_8 (hb _) (hb _)) (hb _)
      | exact app_8 (hb _) (hb _)
      | exact hb _
      | (intro x hx; cases hx; done)
      | exact tiB_8 hf.2 _
      | exact app_8 (app_8 (app_8 (txB_8 hf.2.1) (txB_8 hf.2.2.1)) (txB_8 hf.2.2.2)) (hb _)
      | exact app_8 (app_8 (txB_8 hf.2.1) (txB_8 hf.2.2)) (hb _)
      | exact app_8 (txB_8 hf.2) (hb _)
theorem enc_8 (r : Rq) (h : (reqS wrC ⟨[], 0⟩ r).1.e = 0) : ∀ x ∈ (reqS wrC ⟨[], 0⟩ r).1.l, x < 256 := by
  by_cases hk : isK r.k
  · by_cases hf : Fit (txts r)
    · rw [enc_ok r hk hf]
      exact reqB_8 r hk hf
    · rw [enc_long r hk hf] at h
      cases h
  · rw [enc_no r hk] at h
    cases h

/-- What is kept has no other texts. -/
theorem kept_ok (r : Rq) (hr : r.Ok) : (keptR r).Ok := by
  obtain ⟨h1, h2, h3, h4⟩ := hr
  have h0 : ByteArray.empty.size ≤ 9223372036854775807 := by decide
  by_cases hk : isK r.k
  · obtain ⟨k, key, id, n, ttl, o, nm, sec, pn, p1, p2, p3, p4, p5, p6, p7, p8, p9⟩ := r
    dsimp only at hk h1 h2 h3 h4
    unfold keptR reqS reqK kpC
    dsimp only
    rcases hk with rfl | rfl | rfl | rfl | rfl | rfl | rfl | rfl | rfl | rfl <;> refine ⟨?_, ?_, ?_, ?_⟩ <;> first | exact h1 | exact h2 | exact h3 | exact h4 | exact h0
  · rw [kept_no hk]
    exact ⟨h0, h0, h0, h0⟩
theorem kept_fit (r : Rq) (hk : isK r.k) (hf : Fit (txts r)) : (keptR r).Ok := by
  have h0 : ByteArray.empty.size ≤ 9223372036854775807 := by decide
  obtain ⟨k, key, id, n, ttl, o, nm, sec, pn, p1, p2, p3, p4, p5, p6, p7, p8, p9⟩ := r
  dsimp only at hk
  unfold Fit txts at hf
  dsimp only at hf
  unfold keptR reqS reqK kpC
  dsimp only
  rcases hk with rfl | rfl | rfl | rfl | rfl | rfl | rfl | rfl | rfl | rfl <;> simp at hf <;> refine ⟨?_, ?_, ?_, ?_⟩ <;> first | exact h0 | exact Nat.le_trans hf (by decide) | exact Nat.le_trans hf.1 (by decide) | exact Nat.le_trans hf.2 (by decide) | exact Nat.le_trans hf.2.1 (by decide) | exact Nat.le_trans hf.2.2 (by decide) | exact Nat.le_trans hf.2.2.1 (by decide) | exact Nat.le_trans hf.2.2.2 (by decide)
theorem kept_car (c : Cr) (s : Sx) (r : Rq) (K : Int) (hK : isK K) : keptR (reqK c s r K).2 = (reqK c s r K).2 := by
  rcases hK with rfl | rfl | rfl | rfl | rfl | rfl | rfl | rfl | rfl | rfl <;> rfl
/-- What was read has no long texts. -/
theorem prs_ok (l : List Nat) (hb : Byt l) (h : endS (reqS prC ⟨l, 0⟩ Rq.zero).1 = 0) : (reqS prC ⟨l, 0⟩ Rq.zero).2.Ok := by
  obtain ⟨h1, h2, _⟩ := wb_req l hb h
  have hc : keptR (reqS prC ⟨l, 0⟩ Rq.zero).2 = (reqS prC ⟨l, 0⟩ Rq.zero).2 := by
    have hk : (reqS prC ⟨l, 0⟩ Rq.zero).2.k = (prC.kind ⟨l, 0⟩ Rq.zero.k).2 := by
      by_cases hK : isK (prC.kind ⟨l, 0⟩ Rq.zero.k).2
      · show (reqK prC _ Rq.zero (prC.kind ⟨l, 0⟩ Rq.zero.k).2).2.k = _
        generalize (prC.kind ⟨l, 0⟩ Rq.zero.k).2 = K at *
        rcases hK with rfl | rfl | rfl | rfl | rfl | rfl | rfl | rfl | rfl | rfl <;> rfl
      · unfold isK at hK
        simp only [not_or] at hK
        obtain ⟨a1, a2, a3, a4, a5, a6, a7, a8, a9, a10⟩ := hK
        unfold reqS reqK
        dsimp only
        simp only [a1, a2, a3, a4, a5, a6, a7, a8, a9, a10, or_self, if_false]
    exact kept_car prC _ _ _ (by rw [← hk]; exact h1)
  rw [← hc]
  exact kept_fit _ h1 h2

/-- A request is laid into a new block. -/
theorem put_newR (u : World) (cs : List Value) (hl : cs.length = 18) : (u.alloc (.cells #[.int .i64 0, .string { data := #[] }, .int .i64 0, .int .i64 0, .int .i64 0, .int .i64 0, .string { data := #[] }, .string { data := #[] }, .string { data := #[] }, .int .i64 0, .int .i64 0, .int .i64 0, .int .i64 0, .int .i64 0, .int .i64 0, .int .i64 0, .int .i64 0, .int .i64 0] 25)).there u.heap.size 0 18 ∧ Turn [] u ((u.alloc (.cells #[.int .i64 0, .string { data := #[] }, .int .i64 0, .int .i64 0, .int .i64 0, .int .i64 0, .string { data := #[] }, .string { data := #[] }, .string { data := #[] }, .int .i64 0, .int .i64 0, .int .i64 0, .int .i64 0, .int .i64 0, .int .i64 0, .int .i64 0, .int .i64 0, .int .i64 0] 25)).setCells u.heap.size 0 cs) ∧ ((u.alloc (.cells #[.int .i64 0, .string { data := #[] }, .int .i64 0, .int .i64 0, .int .i64 0, .int .i64 0, .string { data := #[] }, .string { data := #[] }, .string { data := #[] }, .int .i64 0, .int .i64 0, .int .i64 0, .int .i64 0, .int .i64 0, .int .i64 0, .int .i64 0, .int .i64 0, .int .i64 0] 25)).setCells u.heap.size 0 cs).rangeAt u.heap.size 0 cs := by
  have h1 : (u.alloc (.cells #[.int .i64 0, .string { data := #[] }, .int .i64 0, .int .i64 0, .int .i64 0, .int .i64 0, .string { data := #[] }, .string { data := #[] }, .string { data := #[] }, .int .i64 0, .int .i64 0, .int .i64 0, .int .i64 0, .int .i64 0, .int .i64 0, .int .i64 0, .int .i64 0, .int .i64 0] 25)).there u.heap.size 0 18 := there_new2 u #[.int .i64 0, .string { data := #[] }, .int .i64 0, .int .i64 0, .int .i64 0, .int .i64 0, .string { data := #[] }, .string { data := #[] }, .string { data := #[] }, .int .i64 0, .int .i64 0, .int .i64 0, .int .i64 0, .int .i64 0, .int .i64 0, .int .i64 0, .int .i64 0, .int .i64 0] 25
  exact ⟨h1, ((Turn.refl [] u).alloc _).setCellsN _ (Nat.le_refl _) cs 0, World.rangeAt_setCells_same _ _ 0 cs (by rw [hl]; exact h1)⟩

theorem load_gd {ops : Array Oper} {rest : List Oper} {o : Oper} {a : Act} {w : World} {Q : Exit → Act → World → Prop} (T n : Nat) (hT : Sz T n) (x : Operand) (ho : o.op = .load T x) (hw : Region.wanted o (yielded ops a.tmps) = true) (b : Nat) (cs : List Value) (hl : cs.length = n)
    (hx : a.eval x = .pointer (some ⟨b, 0, none⟩)) (hr : w.rangeAt b 0 cs)
    (h : wpList Try.prog ops Q rest (a.put o.dst (.agg cs.toArray)) w) : wpList Try.prog ops Q (o :: rest) a w := by
  obtain ⟨h0, d, h1, h2⟩ := hT
  exact wpList_step fun K hK => by
    rw [if_pos hw]
    exact wp_load_mid T x ho b 0 hx cs d hr h1 h2 (by rw [h0, hl]) (hK _ _ h)
theorem rng_turn {w w' : World} {q : Nat} {cs : List Value} (h : w.rangeAt q 0 cs) (hT : Turn [] w w') : w'.rangeAt q 0 cs := fun j v hj => (World.cell?_of_block (a := ⟨q, 0 + j, none⟩) (hT.block q (lt_of_cell (h j v hj)) (by simp))).trans (h j v hj)
theorem neq_if (r : Rq) (w : World) : (binOp .neq 25 (.agg (rqC r).toArray) (.agg (rqC r).toArray)).run Try.prog w = .ok (.bool false) w := by
  have h := eq_reqs_if r r w
  simp only [if_true] at h
  rw [run_neq_struct, show (Op.equalIn 10000 25 (.agg (rqC r).toArray) (.agg (rqC r).toArray)).run Try.prog w = .ok true w from h]
  rfl
theorem yieldsIf_neq2 {ops : Array Oper} {S : World → Prop} {op : Oper} {a : Act} (hw : Region.wanted op (yielded ops a.tmps) = true) (t t2 : TypeId) (x y : Operand) (ho : op.op = .binOp .neq t x y t2)
    (A B : Array Value) (hx : a.eval x = .agg A) (hy : a.eval y = .agg B) (r : Bool) (hg : Try.prog.eqGuardType Try.prog.depth t = false) (hE : ∀ W, (binOp .neq t (.agg A) (.agg B)).run Try.prog W = .ok (.bool r) W) : YieldsIf Try.prog ops S op (.bool r) a :=
  .inl ⟨hw, fun W _ => by
    unfold execOp
    simp only [ho, hx, hy, Sem.run_bind, Sem.run_pure, Result.andThen_ok, run_eqGuard_agg (hm := hg), hE]⟩
/-- A request's bytes, by either: the same ones. -/
theorem enc_form {w w' : World} {r : Rq} {v : Value} (h : EncP w w' (reqS wrC ⟨[], 0⟩ r).1 v) : ∃ a c, v = .slice a (if (reqS wrC ⟨[], 0⟩ r).1.e = 0 then (reqS wrC ⟨[], 0⟩ r).1.l else []).length c ∧ Byr w' a c (if (reqS wrC ⟨[], 0⟩ r).1.e = 0 then (reqS wrC ⟨[], 0⟩ r).1.l else []) := by
  by_cases h0 : (reqS wrC ⟨[], 0⟩ r).1.e = 0
  · rw [if_pos h0]
    exact Byr.of (h.own h0) (enc_8 r h0)
  · rw [if_neg h0]
    exact ⟨none, 0, h.no h0, .inl rfl, fun x hx => (by cases hx), Nat.le_refl _, by decide, .inl ⟨rfl, rfl⟩⟩

set_option maxRecDepth 100000 in
set_option maxHeartbeats 16000000 in
theorem req_law (r o : Rq) (ba : Option Addr) (cb : Nat) (LB : List Nat) (w : World) (hrn : r.Nums) (hr : r.Fits) (ho : o.Fits) (hb : BytesAt w ba LB) (hby : ∀ x ∈ LB, x < 256) (hnil : ba = none → cb = 0) (hlcb : LB.length ≤ cb) (hcm : cb ≤ maxLen) :
    Calls Try.prog 3 #[.agg (rqC r).toArray, .agg (rqC o).toArray, .slice ba LB.length cb] w fun e w' => e = .returned (.bool true) ∧ Turn [] w w' := by
  obtain ⟨W, hW⟩ : ∃ W, W = (w.alloc (.cells (rqC r).toArray 25)).alloc (.cells (rqC o).toArray 25) := ⟨_, rfl⟩
  have hRa : W.rangeAt w.heap.size 0 (rqC r) := by rw [hW]; exact rangeAt_keep (rng_new w (rqC r) (rqC r).toArray 25 rfl) (Below.heap_alloc _ _ _ (by simp))
  have hRb : W.rangeAt (w.heap.size + 1) 0 (rqC o) := by
    have := rng_new (w.alloc (.cells (rqC r).toArray 25)) (rqC o) (rqC o).toArray 25 rfl
    rw [hW]
    rwa [show (w.alloc (.cells (rqC r).toArray 25)).heap.size = w.heap.size + 1 by simp] at this
  have hTW : Turn [] w W := by rw [hW]; exact ((Turn.refl [] w).alloc _).alloc _
  have HBW := hide (hb.turn hTW (by simp))
  have HRW := hide hRa
  have HOW := hide hRb
  have HTW := hide hTW
  have HBy := hide hby
  have HNc := hide hnil
  have HLc := hide hlcb
  have hcb : cb ≤ 9223372036854775807 := by unfold maxLen at hcm; omega
  have HF1 := hide (fun V => few_any r hr V)
  have HF2 := hide (fun V => few_any o ho V)
  have HE1 := hide (fun V => encreq V r hr.ok)
  have HE2 := hide (fun V => rencreq V r hr.ok)
  have HEf := hide (fun V V' v (h : EncP V V' (reqS wrC ⟨[], 0⟩ r).1 v) => enc_form h)
  have HEt := hide (fun V V' v (h : EncP V V' (reqS wrC ⟨[], 0⟩ r).1 v) => h.old)
  obtain ⟨zz, hzz⟩ : ∃ z : Bool, (z = true ↔ keptR r = keptR o) := by
    by_cases h : keptR r = keptR o
    · exact ⟨true, fun _ => h, fun _ => rfl⟩
    · exact ⟨false, fun e => (by cases e), fun e => absurd e h⟩
  have HS1 : Hid (∀ V, Calls Try.prog 15 #[.agg (rqC r).toArray, .agg (rqC o).toArray] V fun e w' => e = .returned (.bool zz) ∧ Turn [] V w') := fun V => (psame V r o hr.ok ho.ok).mono (by
    rintro e w' ⟨z, rfl, h, hT⟩
    exact ⟨by rw [Bool.eq_iff_iff.2 (h.trans hzz.symm)], hT⟩)
  have HS2 : Hid (∀ V, Calls Try.prog 16 #[.agg (rqC r).toArray, .agg (rqC o).toArray] V fun e w' => e = .returned (.bool zz) ∧ Turn [] V w') := fun V => (rsame V r o).mono (by
    rintro e w' ⟨z, rfl, h, hT⟩
    exact ⟨by rw [Bool.eq_iff_iff.2 (h.trans hzz.symm)], hT⟩)
  have HS3 : Hid (∀ V, Calls Try.prog 15 #[.agg (rqC r).toArray, .agg (rqC r).toArray] V fun e w' => e = .returned (.bool true) ∧ Turn [] V w') := fun V => (psame V r r hr.ok hr.ok).mono (by
    rintro e w' ⟨z, rfl, h, hT⟩
    exact ⟨by rw [h.2 rfl], hT⟩)
  have HS4 : Hid (∀ V, Calls Try.prog 15 #[.agg (rqC (keptR r)).toArray, .agg (rqC r).toArray] V fun e w' => e = .returned (.bool true) ∧ Turn [] V w') := fun V => (psame V (keptR r) r (kept_ok r hr.ok) hr.ok).mono (by
    rintro e w' ⟨z, rfl, h, hT⟩
    exact ⟨by rw [h.2 (kept_kept r)], hT⟩)
  have HPb : Hid ((reqS wrC ⟨[], 0⟩ r).1.e = 0 → ∀ V a c, Byr V a c (reqS wrC ⟨[], 0⟩ r).1.l → Calls Try.prog 13 #[.slice a (reqS wrC ⟨[], 0⟩ r).1.l.length c] V fun e w' => e = .returned (.tuple #[.agg (rqC (keptR r)).toArray, .int .i64 0]) ∧ Turn [] V w') := fun h V a c hB => by
    refine (parsereq V a c _ hB).mono ?_
    rintro e w' ⟨he, hT⟩
    have hk : isK r.k := Classical.byContradiction fun hk => by rw [enc_no r hk] at h; cases h
    have hf : Fit (txts r) := Classical.byContradiction fun hf => by rw [enc_long r hk hf] at h; cases h
    rw [enc_ok r hk hf] at he
    dsimp only at he
    rw [req_back r hk hrn] at he
    exact ⟨by rw [he]; rfl, hT⟩
  obtain ⟨PR, hPR⟩ : ∃ P, (if endS (reqS prC ⟨LB, 0⟩ Rq.zero).1 = 0 then (reqS prC ⟨LB, 0⟩ Rq.zero).2 else Rq.zero) = P := ⟨_, rfl⟩
  obtain ⟨GR, hGR⟩ : ∃ G, endS (reqS prC ⟨LB, 0⟩ Rq.zero).1 = G := ⟨_, rfl⟩
  have HPa : Hid (∀ V a c, Byr V a c LB → Calls Try.prog 13 #[.slice a LB.length c] V fun e w' => e = .returned (.tuple #[.agg (rqC PR).toArray, .int .i64 (GR : Nat)]) ∧ Turn [] V w') := fun V a c h => (parsereq V a c LB h).mono (by
    rintro e w' ⟨he, hT⟩
    exact ⟨by rw [he, hPR, hGR], hT⟩)
  have HPc : Hid (LB.length ≤ 1000000 → ∀ V, BytesAt V ba LB → Calls Try.prog 14 #[.slice ba LB.length cb] V fun e w' => e = .returned (.tuple #[.agg (rqC PR).toArray, .int .i64 (GR : Nat)]) ∧ Turn [] V w') := fun hl V h => (rparsereq V ba cb LB h hlcb hl hby).mono (by
    rintro e w' ⟨he, hT⟩
    exact ⟨by rw [he, hPR, hGR], hT⟩)
  have HEp : Hid (GR = 0 → ∀ V, Calls Try.prog 11 #[.agg (rqC PR).toArray] V fun e w' => ∃ a c, e = .returned (.tuple #[.slice a LB.length c, .int .i64 0]) ∧ BytesAt w' a LB ∧ Turn [] V w') := fun h V => by
    rw [h] at hGR
    rw [if_pos hGR] at hPR
    obtain ⟨h1, h2, h3⟩ := wb_req LB hby hGR
    have h4 := prs_ok LB hby hGR
    rw [hPR] at h1 h2 h3 h4
    refine (encreq V PR h4).mono ?_
    rintro e w' ⟨v, he, hP⟩
    rw [enc_ok PR h1 h2, h3] at he hP
    obtain ⟨a, c, hv, hB⟩ := Byr.of (hP.own rfl) hby
    exact ⟨a, c, by rw [he, hv]; rfl, hB.bt, hP.old⟩
  have HNe := hide (fun V => neq_if PR V)
  have hlc := rqC_len PR
  have HOneR := hide (rqC_one PR)
  clear hPR hGR
  have hXl : ∀ n : Nat, n = (if (reqS wrC ⟨[], 0⟩ r).1.e = 0 then (reqS wrC ⟨[], 0⟩ r).1.l else []).length → ∀ V a c, Byr V a c (if (reqS wrC ⟨[], 0⟩ r).1.e = 0 then (reqS wrC ⟨[], 0⟩ r).1.l else []) → n ≤ c ∧ c ≤ 9223372036854775807 := fun n hn V a c h => by
    have h1 := h.lc
    have h2 := h.cm
    unfold maxLen at h2
    omega
  have HXl := hide hXl
  have HLn : Hid (LB.length = LB.length) := rfl
  have hlr := rqC_len r
  have hlo := rqC_len o
  have hlk := rqC_len (keptR r)
  have HOk := hide (rqC_one (keptR r))
  clear hRa hRb hTW hb hby hnil hlcb hcm hr ho hrn hzz hXl HLn
  generalize hcr : rqC r = cr at *
  generalize hco : rqC o = co at *
  generalize hck : rqC (keptR r) = ck at *
  generalize hcp : rqC PR = cR at *
  have iR : Hid ((Try.prog.info? 25).map (·.size) = some cR.length) := by rw [← hcp]; exact sz25.1
  have ir : Hid ((Try.prog.info? 25).map (·.size) = some cr.length) := by rw [← hcr]; exact sz25.1
  have io : Hid ((Try.prog.info? 25).map (·.size) = some co.length) := by rw [← hco]; exact sz25.1
  generalize hX : (if (reqS wrC ⟨[], 0⟩ r).1.e = 0 then (reqS wrC ⟨[], 0⟩ r).1.l else []) = X at *
  have HX := hide hX
  generalize hG : (reqS wrC ⟨[], 0⟩ r).1.e = G at *
  have HG := hide hG
  clear hcr hco hck hcp hX hG
  generalize r.sum = s1 at *
  generalize o.sum = s2 at *
  generalize hfb : w.heap.size = fb at *
  obtain ⟨nb, hnb⟩ : ∃ n, n = LB.length := ⟨_, rfl⟩
  have Hnb := hide hnb
  have hnb2 : nb ≤ 9223372036854775807 := by have := HLc.out; omega
  rw [← hnb] at HPa HPc HEp ⊢
  clear hnb
  go_enter Try.func3, Try.ntmps3
  go_upto_region 1 with fail
  rw [hfb] at *
  rw [← hW]
  clear hW
  go_wp2_with fail
  refine (known_any W).mono ?_
  rintro e W1 ⟨rfl, hT⟩
  have HT1 := hide (HTW.out.trans hT)
  have HB1 := hide (HBW.out.turn hT (by simp))
  have HR1 := hide (rng_turn HRW.out hT)
  have HO1 := hide (rng_turn HOW.out hT)
  clear hT HTW HBW HRW HOW
  by_cases a1 : s1 < 2000
  rotate_left
  · have d1 : decide (s1 < 2000) = false := decide_eq_false a1
    rw [d1] at HF1
    go_wp2_with (first | (go_at_call 10; (with_reducible refine (HF1.out _).mono ?_); rintro e W2 ⟨rfl, hT⟩; have HT2 := hide (HT1.out.trans hT); have HB2 := hide (HB1.out.turn hT (by simp)); have HR2 := hide (rng_turn HR1.out hT); have HO2 := hide (rng_turn HO1.out hT); clear hT) | (go_at_call 10; (with_reducible refine (HF2.out _).mono ?_); rintro e W3 ⟨rfl, hT⟩; have HT3 := hide (HT2.out.trans hT); have HB3 := hide (HB2.out.turn hT (by simp)); have HR3 := hide (rng_turn HR2.out hT); have HO3 := hide (rng_turn HO2.out hT); clear hT) | ((with_reducible refine load_sz 25 18 sz25 _ fb 0 cr hlr ?_ HR1.out ?_); rfl) | ((with_reducible refine load_gd 25 18 sz25 (.tmp 4) ?_ ?_ (fb + 1) co hlo ?_ HO2.out ?_); rfl; rfl; rfl) | fail)
    go_ret
    exact ⟨rfl, HT2.out⟩
  have d1 : decide (s1 < 2000) = true := decide_eq_true a1
  rw [d1] at HF1
  by_cases a2 : s2 < 2000
  rotate_left
  · have d2 : decide (s2 < 2000) = false := decide_eq_false a2
    rw [d2] at HF2
    go_wp2_with (first | (go_at_call 10; (with_reducible refine (HF1.out _).mono ?_); rintro e W2 ⟨rfl, hT⟩; have HT2 := hide (HT1.out.trans hT); have HB2 := hide (HB1.out.turn hT (by simp)); have HR2 := hide (rng_turn HR1.out hT); have HO2 := hide (rng_turn HO1.out hT); clear hT) | (go_at_call 10; (with_reducible refine (HF2.out _).mono ?_); rintro e W3 ⟨rfl, hT⟩; have HT3 := hide (HT2.out.trans hT); have HB3 := hide (HB2.out.turn hT (by simp)); have HR3 := hide (rng_turn HR2.out hT); have HO3 := hide (rng_turn HO2.out hT); clear hT) | ((with_reducible refine load_sz 25 18 sz25 _ fb 0 cr hlr ?_ HR1.out ?_); rfl) | ((with_reducible refine load_gd 25 18 sz25 (.tmp 4) ?_ ?_ (fb + 1) co hlo ?_ HO2.out ?_); rfl; rfl; rfl) | fail)
    go_ret
    exact ⟨rfl, HT3.out⟩
  have d2 : decide (s2 < 2000) = true := decide_eq_true a2
  rw [d2] at HF2
  by_cases a3 : 2000 < nb
  · have d3 : (2000 : Int) < (nb : Int) := by omega
    go_wp2_with (first | (go_at_call 10; (with_reducible refine (HF1.out _).mono ?_); rintro e W2 ⟨rfl, hT⟩; have HT2 := hide (HT1.out.trans hT); have HB2 := hide (HB1.out.turn hT (by simp)); have HR2 := hide (rng_turn HR1.out hT); have HO2 := hide (rng_turn HO1.out hT); clear hT) | (go_at_call 10; (with_reducible refine (HF2.out _).mono ?_); rintro e W3 ⟨rfl, hT⟩; have HT3 := hide (HT2.out.trans hT); have HB3 := hide (HB2.out.turn hT (by simp)); have HR3 := hide (rng_turn HR2.out hT); have HO3 := hide (rng_turn HO2.out hT); clear hT) | ((with_reducible refine load_sz 25 18 sz25 _ fb 0 cr hlr ?_ HR1.out ?_); rfl) | ((with_reducible refine load_gd 25 18 sz25 (.tmp 4) ?_ ?_ (fb + 1) co hlo ?_ HO2.out ?_); rfl; rfl; rfl) | fail)
    go_ret
    exact ⟨rfl, HT3.out⟩
  have d3 : (nb : Int) ≤ 2000 := by omega
  go_upto_region 5 with (first | (go_at_call 10; (with_reducible refine (HF1.out _).mono ?_); rintro e W2 ⟨rfl, hT⟩; have HT2 := hide (HT1.out.trans hT); have HB2 := hide (HB1.out.turn hT (by simp)); have HR2 := hide (rng_turn HR1.out hT); have HO2 := hide (rng_turn HO1.out hT); clear hT) | (go_at_call 10; (with_reducible refine (HF2.out _).mono ?_); rintro e W3 ⟨rfl, hT⟩; have HT3 := hide (HT2.out.trans hT); have HB3 := hide (HB2.out.turn hT (by simp)); have HR3 := hide (rng_turn HR2.out hT); have HO3 := hide (rng_turn HO2.out hT); clear hT) | ((with_reducible refine load_sz 25 18 sz25 _ fb 0 cr hlr ?_ HR1.out ?_); rfl) | ((with_reducible refine load_gd 25 18 sz25 (.tmp 4) ?_ ?_ (fb + 1) co hlo ?_ HO2.out ?_); rfl; rfl; rfl) | fail)
  clear HF1 HF2 HT1 HT2 HB1 HB2 HR1 HR2 HO1 HO2 d1 d2 a1 a2
  go_upto_region 6 with (first | ((with_reducible refine load_sz 25 18 sz25 _ fb 0 cr hlr ?_ HR3.out ?_); rfl) | (go_at_call 11; (with_reducible refine (HE1.out _).mono ?_); rintro e W4 ⟨v4, rfl, hP⟩; obtain ⟨ax, cx, hv, hBx⟩ := HEf.out _ _ _ hP; have hT := HEt.out _ _ _ hP; have HT4 := hide (HT3.out.trans hT); have HB4 := hide (HB3.out.turn hT (by simp)); have HR4 := hide (rng_turn HR3.out hT); have HO4 := hide (rng_turn HO3.out hT); have HX4 := hide hBx; subst hv; clear hT hBx hP) | fail)
  clear HT3 HB3 HR3 HO3 HE1
  go_upto_region 7 with (first | ((with_reducible refine load_sz 25 18 sz25 _ fb 0 cr hlr ?_ HR4.out ?_); rfl) | (go_at_call 12; (with_reducible refine (HE2.out _).mono ?_); rintro e W5 ⟨v5, rfl, hP⟩; obtain ⟨ay, cy, hv, hBy5⟩ := HEf.out _ _ _ hP; have hT := HEt.out _ _ _ hP; have HT5 := hide (HT4.out.trans hT); have HB5 := hide (HB4.out.turn hT (by simp)); have HR5 := hide (rng_turn HR4.out hT); have HO5 := hide (rng_turn HO4.out hT); have HX5 := hide (HX4.out.turn hT); have HY5 := hide hBy5; subst hv; clear hT hBy5 hP) | fail)
  clear HT4 HB4 HR4 HO4 HX4 HE2 HEf HEt
  have hXY : X.length ≤ cx ∧ cx ≤ 9223372036854775807 := HXl.out _ rfl _ _ _ HX5.out
  have hXY2 : X.length ≤ cy ∧ cy ≤ 9223372036854775807 := HXl.out _ rfl _ _ _ HY5.out
  have HO : Hid ((W5.alloc (.cells #[] 5)).ownsRow W5.heap.size 5 1 (.slice (some ⟨W5.heap.size, 0, none⟩) 0 0) 0 (([] : List Nat).map byteCell)) := World.ownsRow_lit W5 #[] 0 (Nat.le_refl _) (by decide) rfl
  have HBa : Hid (BytesAt (W5.alloc (.cells #[] 5)) ba LB) := HB5.out.turn (S := []) ((Turn.refl [] W5).alloc _) (by simp)
  have HAp : Hid (∀ v' w', w'.ownsRow W5.heap.size 5 1 v' (0 + nb) (([] ++ LB).map byteCell) → (W5.alloc (.cells #[] 5)).grownBy w' (some W5.heap.size) → ∃ a c, v' = .slice a nb c ∧ Byr w' a c LB ∧ Turn [] W5 w') := fun v' w' h1 h2 => by
    obtain ⟨a5, c5, e5, y5⟩ := Byr.of h1 HBy.out
    exact ⟨a5, c5, by rw [e5, Hnb.out]; rfl, y5, ((Turn.refl [] W5).alloc _).grown h2 (fun k e => .inr (by have := Option.some.inj e; omega))⟩
  have HTn := hide (fun (u : World) => put_newR u cR hlc)
  go_upto_region 8 with (first | (at_builtin; refine append_bytes rfl _ _ rfl W5.heap.size (.slice (some ⟨W5.heap.size, 0, none⟩) 0 0) 0 [] rfl HO.out ba nb cb LB rfl Hnb.out.symm HNc.out HBa.out (by omega) (by simp) ?_; intro v5 V5 h1 h2 h3; obtain ⟨a5, c5, hv5, hy5, hT5⟩ := HAp.out v5 V5 h1 h2; subst hv5; have HY6 := hide hy5; have HT6 := hide hT5; clear h1 h2 h3 hy5 hT5) | (go_at_call 13; (with_reducible refine (HPa.out V5 a5 c5 HY6.out).mono ?_); rintro e V6 ⟨rfl, hT⟩; have HT7 := hide (HT6.out.trans hT); obtain ⟨ht, hTn, hrn⟩ := HTn.out V6; have HTh := hide ht; have HTp := hide hTn; have HRp := hide hrn; clear hT ht hTn hrn) | ((with_reducible refine store_sz 25 18 sz25 _ _ V6.heap.size 0 cR hlc HOneR.out ?_ ?_ HTh.out ?_); rfl; rfl) | fail)
  generalize V6.heap.size = q0 at *
  generalize (V6.alloc (.cells #[.int .i64 0, .string { data := #[] }, .int .i64 0, .int .i64 0, .int .i64 0, .int .i64 0, .string { data := #[] }, .string { data := #[] }, .string { data := #[] }, .int .i64 0, .int .i64 0, .int .i64 0, .int .i64 0, .int .i64 0, .int .i64 0, .int .i64 0, .int .i64 0, .int .i64 0] 25)).setCells q0 0 cR = V7 at *
  have HT8 := hide (HT7.out.trans HTp.out)
  have HR7 := hide HRp.out
  clear HTh HTp HRp HT6 HT7 HY6 HO HBa HAp HPa
  have HPr := hide (HPc.out (by have := Hnb.out; omega) V7 (HB5.out.turn HT8.out (by simp)))
  clear HPc
  go_upto_region 9 with (first | (go_at_call 14; (with_reducible refine HPr.out.mono ?_); rintro e V8 ⟨rfl, hT⟩; have HT9 := hide (HT8.out.trans hT); have HR8 := hide (rng_turn HR7.out hT); obtain ⟨ht, hTn, hrn⟩ := HTn.out V8; have HTh := hide ht; have HTp := hide hTn; have HRp := hide hrn; clear hT ht hTn hrn) | ((with_reducible refine store_sz 25 18 sz25 _ _ V8.heap.size 0 cR hlc HOneR.out ?_ ?_ HTh.out ?_); rfl; rfl) | fail)
  generalize V8.heap.size = q1 at *
  generalize (V8.alloc (.cells #[.int .i64 0, .string { data := #[] }, .int .i64 0, .int .i64 0, .int .i64 0, .int .i64 0, .string { data := #[] }, .string { data := #[] }, .string { data := #[] }, .int .i64 0, .int .i64 0, .int .i64 0, .int .i64 0, .int .i64 0, .int .i64 0, .int .i64 0, .int .i64 0, .int .i64 0] 25)).setCells q1 0 cR = wx at *
  have hTx := HT9.out.trans HTp.out
  have HRr := hide (rng_turn HR5.out hTx)
  have HRo := hide (rng_turn HO5.out hTx)
  have HR1 := hide (rng_turn HR8.out HTp.out)
  have HR2 := hide HRp.out
  have HBx := hide (HB5.out.turn hTx (by simp))
  have HXx := hide (HX5.out.turn hTx)
  have HYx := hide (HY5.out.turn hTx)
  have HTx := hide (HT5.out.trans hTx)
  clear HTh HTp HRp HT8 HT9 HR7 HR8 HPr hTx HR5 HO5 HB5 HX5 HY5 HT5
  have HKp : Hid (∀ V : World, (∀ k, k < wx.heap.size → V.heap[k]? = wx.heap[k]?) → ∀ q cs, wx.rangeAt q 0 cs → cs.length = 18 → V.rangeAt q 0 cs) := fun V hV q cs hr hl => rangeAt_keep hr (hV q (lt_of_cell (hr 0 _ (List.getElem?_eq_getElem (by omega)))))
  obtain ⟨tX, htX⟩ : ∃ t, textOf X = t := ⟨_, rfl⟩
  have HX1 : Hid (∀ V : World, (∀ k, k < wx.heap.size → V.heap[k]? = wx.heap[k]?) → (convert 26 9 (.slice ax X.length cx)).run Try.prog V = .ok (.string tX) V) := fun V hV => by
    rw [← htX]
    exact text_at (HXx.out.bt.keep (fun x hx e => hV _ (HXx.out.bt.lt x hx e))) _ _ rfl
  have HX2 : Hid (∀ V : World, (∀ k, k < wx.heap.size → V.heap[k]? = wx.heap[k]?) → (convert 26 9 (.slice ay X.length cy)).run Try.prog V = .ok (.string tX) V) := fun V hV => by
    rw [← htX]
    exact text_at (HYx.out.bt.keep (fun x hx e => hV _ (HYx.out.bt.lt x hx e))) _ _ rfl
  have HU0 : Hid (Turn [] wx wx.drew) := (Turn.refl [] wx).drew
  clear htX
  obtain ⟨nx, hnx⟩ : ∃ n, n = X.length := ⟨_, rfl⟩
  have Hnx := hide hnx
  rw [← hnx] at HX1 HX2 hXY hXY2 ⊢
  clear hnx
  go_cut [90] from 56 to 91 (fun u wz => u = .bool false ∧ Hid (Turn [] wx wz))
  case first =>
    clear HPb HEp HS4 HBx HXx HYx
    refine wp_region_noPanic ?_
    refine wp_region_held_drew (S := fun V => ∀ k, k < wx.heap.size → V.heap[k]? = wx.heap[k]?) (by kernel_rfl) (fun _ _ => rfl) (fun hHeld => ?_)
    refine' wpAnyH_take (i := 0) (oi := { dst := some 56, op := Go.Op.move (Go.Operand.tmp 7), type := 26, pos := "law.go:42", after := #[], guard := none }) (v := _) rfl (by kernel_rfl) (by kernel_rfl) (by kernel_rfl) (fun _ _ _ h => h) (Or.inl ⟨by rfl, ?_⟩) (by assumption) ?_
    rotate_left
    · intro w hSw; (try dsimp only at hSw); go_simp <;> with_reducible rfl
    simp only [Act.put, List.setIfInBounds_toArray, List.set_cons_zero, List.set_cons_succ]
    refine' wpAnyH_take (i := 1) (oi := { dst := some 57, op := Go.Op.convert 26 9 (Go.Operand.tmp 56), type := 9, pos := "law.go:42", after := #[{ on := 0, ground := Go.Ground.data }], guard := none }) (v := .string tX) rfl (by kernel_rfl) (by kernel_rfl) (by kernel_rfl) (fun _ _ _ h => h) (Or.inl ⟨by rfl, ?_⟩) (by assumption) ?_
    · intro V hV; have e1 := HX1.out V hV; go_simp
    simp only [Act.put, List.setIfInBounds_toArray, List.set_cons_zero, List.set_cons_succ]
    refine' wpAnyH_take (i := 2) (oi := { dst := some 58, op := Go.Op.move (Go.Operand.tmp 9), type := 26, pos := "law.go:42", after := #[], guard := none }) (v := _) rfl (by kernel_rfl) (by kernel_rfl) (by kernel_rfl) (fun _ _ _ h => h) (Or.inl ⟨by rfl, ?_⟩) (by assumption) ?_
    rotate_left
    · intro w hSw; (try dsimp only at hSw); go_simp <;> with_reducible rfl
    simp only [Act.put, List.setIfInBounds_toArray, List.set_cons_zero, List.set_cons_succ]
    refine' wpAnyH_take (i := 3) (oi := { dst := some 59, op := Go.Op.convert 26 9 (Go.Operand.tmp 58), type := 9, pos := "law.go:42", after := #[{ on := 2, ground := Go.Ground.data }], guard := none }) (v := .string tX) rfl (by kernel_rfl) (by kernel_rfl) (by kernel_rfl) (fun _ _ _ h => h) (Or.inl ⟨by rfl, ?_⟩) (by assumption) ?_
    · intro V hV; have e1 := HX2.out V hV; go_simp
    simp only [Act.put, List.setIfInBounds_toArray, List.set_cons_zero, List.set_cons_succ]
    refine' wpAnyH_take (i := 4) (oi := { dst := some 60, op := Go.Op.binOp Go.BinOp.neq 9 (Go.Operand.tmp 57) (Go.Operand.tmp 59) 9, type := 4, pos := "law.go:42", after := #[{ on := 1, ground := Go.Ground.data }, { on := 3, ground := Go.Ground.data }], guard := none }) (v := .bool false) rfl (by kernel_rfl) (by kernel_rfl) (by kernel_rfl) (fun _ _ _ h => h) (Or.inl ⟨by rfl, ?_⟩) (by assumption) ?_
    · intro V hV; go_simp
    simp only [Act.put, List.setIfInBounds_toArray, List.set_cons_zero, List.set_cons_succ]
    refine' wpAnyH_take (i := 5) (oi := { dst := some 61, op := Go.Op.move (Go.Operand.tmp 60), type := 4, pos := "law.go:42", after := #[{ on := 4, ground := Go.Ground.data }], guard := none }) (v := _) rfl (by kernel_rfl) (by kernel_rfl) (by kernel_rfl) (fun _ _ _ h => h) (Or.inl ⟨by rfl, ?_⟩) (by assumption) ?_
    rotate_left
    · intro w hSw; (try dsimp only at hSw); go_simp <;> with_reducible rfl
    simp only [Act.put, List.setIfInBounds_toArray, List.set_cons_zero, List.set_cons_succ]
    refine' wpAnyH_take (i := 6) (oi := { dst := some 62, op := Go.Op.move (Go.Operand.tmp 8), type := 29, pos := "law.go:42", after := #[{ on := 5, ground := Go.Ground.guard }], guard := some (5, false) }) (v := _) rfl (by kernel_rfl) (by kernel_rfl) (by kernel_rfl) (fun _ _ _ h => h) (Or.inl ⟨by rfl, ?_⟩) (by assumption) ?_
    rotate_left
    · intro w hSw; (try dsimp only at hSw); go_simp <;> with_reducible rfl
    simp only [Act.put, List.setIfInBounds_toArray, List.set_cons_zero, List.set_cons_succ]
    refine' wpAnyH_take (i := 7) (oi := { dst := some 63, op := Go.Op.move (Go.Operand.tmp 10), type := 3, pos := "law.go:42", after := #[{ on := 5, ground := Go.Ground.guard }], guard := some (5, false) }) (v := _) rfl (by kernel_rfl) (by kernel_rfl) (by kernel_rfl) (fun _ _ _ h => h) (Or.inl ⟨by rfl, ?_⟩) (by assumption) ?_
    rotate_left
    · intro w hSw; (try dsimp only at hSw); go_simp <;> with_reducible rfl
    simp only [Act.put, List.setIfInBounds_toArray, List.set_cons_zero, List.set_cons_succ]
    refine' wpAnyH_take (i := 8) (oi := { dst := some 64, op := Go.Op.binOp Go.BinOp.neq 3 (Go.Operand.tmp 62) (Go.Operand.tmp 63) 3, type := 4, pos := "law.go:42", after := #[{ on := 6, ground := Go.Ground.data }, { on := 7, ground := Go.Ground.data }, { on := 5, ground := Go.Ground.guard }], guard := some (5, false) }) (v := .bool false) rfl (by kernel_rfl) (by kernel_rfl) (by kernel_rfl) (fun _ _ _ h => h) (Or.inl ⟨by rfl, ?_⟩) (by assumption) ?_
    · intro V hV; go_simp
    simp only [Act.put, List.setIfInBounds_toArray, List.set_cons_zero, List.set_cons_succ]
    refine' wpAnyH_take (i := 9) (oi := { dst := some 65, op := Go.Op.pick (Go.Operand.tmp 61) (Go.Operand.const (Go.Value.bool true)) (Go.Operand.tmp 64), type := 4, pos := "law.go:42", after := #[{ on := 5, ground := Go.Ground.data }, { on := 8, ground := Go.Ground.data }], guard := none }) (v := .bool false) rfl (by kernel_rfl) (by kernel_rfl) (by kernel_rfl) (fun _ _ _ h => h) (Or.inl ⟨by rfl, ?_⟩) (by assumption) ?_
    · intro V hV; go_simp
    simp only [Act.put, List.setIfInBounds_toArray, List.set_cons_zero, List.set_cons_succ]
    refine' wpAnyH_take (i := 10) (oi := { dst := some 66, op := Go.Op.move (Go.Operand.tmp 65), type := 4, pos := "law.go:42", after := #[{ on := 9, ground := Go.Ground.data }, { on := 5, ground := Go.Ground.chain }], guard := none }) (v := _) rfl (by kernel_rfl) (by kernel_rfl) (by kernel_rfl) (fun _ _ _ h => h) (Or.inl ⟨by rfl, ?_⟩) (by assumption) ?_
    rotate_left
    · intro w hSw; (try dsimp only at hSw); go_simp <;> with_reducible rfl
    simp only [Act.put, List.setIfInBounds_toArray, List.set_cons_zero, List.set_cons_succ]
    refine' wpAnyH_take (i := 11) (oi := { dst := some 67, op := Go.Op.move (Go.Operand.tmp 12), type := 29, pos := "law.go:42", after := #[{ on := 10, ground := Go.Ground.guard }], guard := some (10, false) }) (v := _) rfl (by kernel_rfl) (by kernel_rfl) (by kernel_rfl) (fun _ _ _ h => h) (Or.inl ⟨by rfl, ?_⟩) (by assumption) ?_
    rotate_left
    · intro w hSw; (try dsimp only at hSw); go_simp <;> with_reducible rfl
    simp only [Act.put, List.setIfInBounds_toArray, List.set_cons_zero, List.set_cons_succ]
    refine' wpAnyH_take (i := 12) (oi := { dst := some 68, op := Go.Op.move (Go.Operand.tmp 14), type := 3, pos := "law.go:42", after := #[{ on := 10, ground := Go.Ground.guard }], guard := some (10, false) }) (v := _) rfl (by kernel_rfl) (by kernel_rfl) (by kernel_rfl) (fun _ _ _ h => h) (Or.inl ⟨by rfl, ?_⟩) (by assumption) ?_
    rotate_left
    · intro w hSw; (try dsimp only at hSw); go_simp <;> with_reducible rfl
    simp only [Act.put, List.setIfInBounds_toArray, List.set_cons_zero, List.set_cons_succ]
    refine' wpAnyH_take (i := 13) (oi := { dst := some 69, op := Go.Op.binOp Go.BinOp.neq 3 (Go.Operand.tmp 67) (Go.Operand.tmp 68) 3, type := 4, pos := "law.go:42", after := #[{ on := 11, ground := Go.Ground.data }, { on := 12, ground := Go.Ground.data }, { on := 10, ground := Go.Ground.guard }], guard := some (10, false) }) (v := .bool false) rfl (by kernel_rfl) (by kernel_rfl) (by kernel_rfl) (fun _ _ _ h => h) (Or.inl ⟨by rfl, ?_⟩) (by assumption) ?_
    · intro V hV; go_simp
    simp only [Act.put, List.setIfInBounds_toArray, List.set_cons_zero, List.set_cons_succ]
    refine' wpAnyH_take (i := 14) (oi := { dst := some 70, op := Go.Op.pick (Go.Operand.tmp 66) (Go.Operand.const (Go.Value.bool true)) (Go.Operand.tmp 69), type := 4, pos := "law.go:42", after := #[{ on := 10, ground := Go.Ground.data }, { on := 13, ground := Go.Ground.data }], guard := none }) (v := .bool false) rfl (by kernel_rfl) (by kernel_rfl) (by kernel_rfl) (fun _ _ _ h => h) (Or.inl ⟨by rfl, ?_⟩) (by assumption) ?_
    · intro V hV; go_simp
    simp only [Act.put, List.setIfInBounds_toArray, List.set_cons_zero, List.set_cons_succ]
    refine' wpAnyH_take (i := 15) (oi := { dst := some 71, op := Go.Op.move (Go.Operand.tmp 70), type := 4, pos := "law.go:42", after := #[{ on := 14, ground := Go.Ground.data }, { on := 10, ground := Go.Ground.chain }], guard := none }) (v := _) rfl (by kernel_rfl) (by kernel_rfl) (by kernel_rfl) (fun _ _ _ h => h) (Or.inl ⟨by rfl, ?_⟩) (by assumption) ?_
    rotate_left
    · intro w hSw; (try dsimp only at hSw); go_simp <;> with_reducible rfl
    simp only [Act.put, List.setIfInBounds_toArray, List.set_cons_zero, List.set_cons_succ]
    refine' wpAnyH_take (i := 16) (oi := { dst := some 72, op := Go.Op.load 25 (Go.Operand.tmp 11), type := 25, pos := "law.go:42", after := #[{ on := 15, ground := Go.Ground.guard }], guard := some (15, false) }) (v := .agg cR.toArray) rfl (by kernel_rfl) (by kernel_rfl) (by kernel_rfl) (fun _ _ _ h => h) (yieldsIf_load_mid (by rfl) _ _ rfl _ _ rfl _ _ (fun V hV => HKp.out V hV _ _ HR1.out hlc) fo25 rfl iR.out) (by assumption) ?_
    simp only [Act.put, List.setIfInBounds_toArray, List.set_cons_zero, List.set_cons_succ]
    refine' wpAnyH_take (i := 17) (oi := { dst := some 73, op := Go.Op.load 25 (Go.Operand.tmp 13), type := 25, pos := "law.go:42", after := #[{ on := 15, ground := Go.Ground.guard }], guard := some (15, false) }) (v := .agg cR.toArray) rfl (by kernel_rfl) (by kernel_rfl) (by kernel_rfl) (fun _ _ _ h => h) (yieldsIf_load_mid (by rfl) _ _ rfl _ _ rfl _ _ (fun V hV => HKp.out V hV _ _ HR2.out hlc) fo25 rfl iR.out) (by assumption) ?_
    simp only [Act.put, List.setIfInBounds_toArray, List.set_cons_zero, List.set_cons_succ]
    refine' wpAnyH_take (i := 18) (oi := { dst := some 74, op := Go.Op.binOp Go.BinOp.neq 25 (Go.Operand.tmp 72) (Go.Operand.tmp 73) 25, type := 4, pos := "law.go:42", after := #[{ on := 16, ground := Go.Ground.data }, { on := 17, ground := Go.Ground.data }, { on := 15, ground := Go.Ground.guard }], guard := some (15, false) }) (v := .bool false) rfl (by kernel_rfl) (by kernel_rfl) (by kernel_rfl) (fun _ _ _ h => h) (yieldsIf_neq2 (by rfl) _ _ _ _ rfl _ _ rfl rfl false eqg25 HNe.out) (by assumption) ?_
    simp only [Act.put, List.setIfInBounds_toArray, List.set_cons_zero, List.set_cons_succ]
    refine' wpAnyH_take (i := 19) (oi := { dst := some 75, op := Go.Op.pick (Go.Operand.tmp 71) (Go.Operand.const (Go.Value.bool true)) (Go.Operand.tmp 74), type := 4, pos := "law.go:42", after := #[{ on := 15, ground := Go.Ground.data }, { on := 18, ground := Go.Ground.data }], guard := none }) (v := .bool false) rfl (by kernel_rfl) (by kernel_rfl) (by kernel_rfl) (fun _ _ _ h => h) (Or.inl ⟨by rfl, ?_⟩) (by assumption) ?_
    · intro V hV; go_simp
    simp only [Act.put, List.setIfInBounds_toArray, List.set_cons_zero, List.set_cons_succ]
    refine' wpAnyH_take (i := 20) (oi := { dst := some 76, op := Go.Op.move (Go.Operand.tmp 75), type := 4, pos := "law.go:42", after := #[{ on := 19, ground := Go.Ground.data }, { on := 15, ground := Go.Ground.chain }], guard := none }) (v := _) rfl (by kernel_rfl) (by kernel_rfl) (by kernel_rfl) (fun _ _ _ h => h) (Or.inl ⟨by rfl, ?_⟩) (by assumption) ?_
    rotate_left
    · intro w hSw; (try dsimp only at hSw); go_simp <;> with_reducible rfl
    simp only [Act.put, List.setIfInBounds_toArray, List.set_cons_zero, List.set_cons_succ]
    refine' wpAnyH_take (i := 21) (oi := { dst := some 77, op := Go.Op.load 25 (Go.Operand.tmp 3), type := 25, pos := "law.go:42", after := #[{ on := 20, ground := Go.Ground.guard }], guard := some (20, false) }) (v := .agg cr.toArray) rfl (by kernel_rfl) (by kernel_rfl) (by kernel_rfl) (fun _ _ _ h => h) (yieldsIf_load_mid (by rfl) _ _ rfl _ _ rfl _ _ (fun V hV => HKp.out V hV _ _ HRr.out hlr) fo25 rfl ir.out) (by assumption) ?_
    simp only [Act.put, List.setIfInBounds_toArray, List.set_cons_zero, List.set_cons_succ]
    refine' wpAnyH_take (i := 22) (oi := { dst := some 78, op := Go.Op.load 25 (Go.Operand.tmp 4), type := 25, pos := "law.go:42", after := #[{ on := 20, ground := Go.Ground.guard }], guard := some (20, false) }) (v := .agg co.toArray) rfl (by kernel_rfl) (by kernel_rfl) (by kernel_rfl) (fun _ _ _ h => h) (yieldsIf_load_mid (by rfl) _ _ rfl _ _ rfl _ _ (fun V hV => HKp.out V hV _ _ HRo.out hlo) fo25 rfl io.out) (by assumption) ?_
    simp only [Act.put, List.setIfInBounds_toArray, List.set_cons_zero, List.set_cons_succ]
    refine' wpAnyH_take (i := 24) (oi := { dst := some 80, op := Go.Op.load 25 (Go.Operand.tmp 3), type := 25, pos := "law.go:42", after := #[{ on := 20, ground := Go.Ground.guard }], guard := some (20, false) }) (v := .agg cr.toArray) rfl (by kernel_rfl) (by kernel_rfl) (by kernel_rfl) (fun _ _ _ h => h) (yieldsIf_load_mid (by rfl) _ _ rfl _ _ rfl _ _ (fun V hV => HKp.out V hV _ _ HRr.out hlr) fo25 rfl ir.out) (by assumption) ?_
    simp only [Act.put, List.setIfInBounds_toArray, List.set_cons_zero, List.set_cons_succ]
    refine' wpAnyH_take (i := 25) (oi := { dst := some 81, op := Go.Op.load 25 (Go.Operand.tmp 4), type := 25, pos := "law.go:42", after := #[{ on := 20, ground := Go.Ground.guard }], guard := some (20, false) }) (v := .agg co.toArray) rfl (by kernel_rfl) (by kernel_rfl) (by kernel_rfl) (fun _ _ _ h => h) (yieldsIf_load_mid (by rfl) _ _ rfl _ _ rfl _ _ (fun V hV => HKp.out V hV _ _ HRo.out hlo) fo25 rfl io.out) (by assumption) ?_
    simp only [Act.put, List.setIfInBounds_toArray, List.set_cons_zero, List.set_cons_succ]
    refine wpAnyH_ready (rs := [23]) (by kernel_rfl) (by simp) ?_
    refine AllReadyH.cons rfl (fun K hK => ?_) AllReadyH.nil
    go_simp
    go_wp2_with (first | ((go_at_call 15; (with_reducible refine (HS1.out _).mono ?_)); rintro e' w1 ⟨rfl, hT⟩; have HU1 := hide (HU0.out.trans hT); clear hT) | fail)
    refine hK.out _ _ ?_ (fun hHeld => ?_)
    · exact fun k hk => HU1.out.block k hk (by simp)
    clear hK K
    try simp only [Act.put, List.setIfInBounds_toArray, List.set_cons_zero, List.set_cons_succ]
    refine wpAnyH_ready (rs := [26]) (by kernel_rfl) (by simp) ?_
    refine AllReadyH.cons rfl (fun K hK => ?_) AllReadyH.nil
    go_simp
    go_wp2_with (first | ((go_at_call 16; (with_reducible refine (HS2.out _).mono ?_)); rintro e' w2 ⟨rfl, hT⟩; have HU2 := hide (HU1.out.trans hT); clear hT) | fail)
    refine hK.out _ _ ?_ (fun hHeld => ?_)
    · exact fun k hk => HU2.out.block k hk (by simp)
    clear hK K
    try simp only [Act.put, List.setIfInBounds_toArray, List.set_cons_zero, List.set_cons_succ]
    refine' wpAnyH_take (i := 27) (oi := { dst := some 83, op := Go.Op.binOp Go.BinOp.neq 4 (Go.Operand.tmp 79) (Go.Operand.tmp 82) 4, type := 4, pos := "law.go:42", after := #[{ on := 23, ground := Go.Ground.data }, { on := 26, ground := Go.Ground.data }, { on := 20, ground := Go.Ground.guard }], guard := some (20, false) }) (v := .bool false) rfl (by kernel_rfl) (by kernel_rfl) (by kernel_rfl) (fun _ _ _ h => h) (Or.inl ⟨by rfl, ?_⟩) (by assumption) ?_
    · intro V hV; go_simp
    simp only [Act.put, List.setIfInBounds_toArray, List.set_cons_zero, List.set_cons_succ]
    refine' wpAnyH_take (i := 28) (oi := { dst := some 84, op := Go.Op.pick (Go.Operand.tmp 76) (Go.Operand.const (Go.Value.bool true)) (Go.Operand.tmp 83), type := 4, pos := "law.go:42", after := #[{ on := 20, ground := Go.Ground.data }, { on := 27, ground := Go.Ground.data }], guard := none }) (v := .bool false) rfl (by kernel_rfl) (by kernel_rfl) (by kernel_rfl) (fun _ _ _ h => h) (Or.inl ⟨by rfl, ?_⟩) (by assumption) ?_
    · intro V hV; go_simp
    simp only [Act.put, List.setIfInBounds_toArray, List.set_cons_zero, List.set_cons_succ]
    refine' wpAnyH_take (i := 29) (oi := { dst := some 85, op := Go.Op.move (Go.Operand.tmp 84), type := 4, pos := "law.go:42", after := #[{ on := 28, ground := Go.Ground.data }, { on := 26, ground := Go.Ground.chain }], guard := none }) (v := _) rfl (by kernel_rfl) (by kernel_rfl) (by kernel_rfl) (fun _ _ _ h => h) (Or.inl ⟨by rfl, ?_⟩) (by assumption) ?_
    rotate_left
    · intro w hSw; (try dsimp only at hSw); go_simp <;> with_reducible rfl
    simp only [Act.put, List.setIfInBounds_toArray, List.set_cons_zero, List.set_cons_succ]
    refine' wpAnyH_take (i := 30) (oi := { dst := some 86, op := Go.Op.load 25 (Go.Operand.tmp 3), type := 25, pos := "law.go:42", after := #[{ on := 29, ground := Go.Ground.guard }], guard := some (29, false) }) (v := .agg cr.toArray) rfl (by kernel_rfl) (by kernel_rfl) (by kernel_rfl) (fun _ _ _ h => h) (yieldsIf_load_mid (by rfl) _ _ rfl _ _ rfl _ _ (fun V hV => HKp.out V hV _ _ HRr.out hlr) fo25 rfl ir.out) (by assumption) ?_
    simp only [Act.put, List.setIfInBounds_toArray, List.set_cons_zero, List.set_cons_succ]
    refine' wpAnyH_take (i := 31) (oi := { dst := some 87, op := Go.Op.load 25 (Go.Operand.tmp 3), type := 25, pos := "law.go:42", after := #[{ on := 29, ground := Go.Ground.guard }], guard := some (29, false) }) (v := .agg cr.toArray) rfl (by kernel_rfl) (by kernel_rfl) (by kernel_rfl) (fun _ _ _ h => h) (yieldsIf_load_mid (by rfl) _ _ rfl _ _ rfl _ _ (fun V hV => HKp.out V hV _ _ HRr.out hlr) fo25 rfl ir.out) (by assumption) ?_
    simp only [Act.put, List.setIfInBounds_toArray, List.set_cons_zero, List.set_cons_succ]
    refine wpAnyH_ready (rs := [32]) (by kernel_rfl) (by simp) ?_
    refine AllReadyH.cons rfl (fun K hK => ?_) AllReadyH.nil
    go_simp
    go_wp2_with (first | ((go_at_call 15; (with_reducible refine (HS3.out _).mono ?_)); rintro e' w3 ⟨rfl, hT⟩; have HU3 := hide (HU2.out.trans hT); clear hT) | fail)
    refine hK.out _ _ ?_ (fun hHeld => ?_)
    · exact fun k hk => HU3.out.block k hk (by simp)
    clear hK K
    try simp only [Act.put, List.setIfInBounds_toArray, List.set_cons_zero, List.set_cons_succ]
    refine' wpAnyH_take (i := 33) (oi := { dst := some 89, op := Go.Op.unOp Go.UnOp.not 4 (Go.Operand.tmp 88), type := 4, pos := "law.go:42", after := #[{ on := 32, ground := Go.Ground.data }, { on := 29, ground := Go.Ground.guard }], guard := some (29, false) }) (v := .bool false) rfl (by kernel_rfl) (by kernel_rfl) (by kernel_rfl) (fun _ _ _ h => h) (Or.inl ⟨by rfl, ?_⟩) (by assumption) ?_
    · intro V hV; go_simp
    simp only [Act.put, List.setIfInBounds_toArray, List.set_cons_zero, List.set_cons_succ]
    refine' wpAnyH_take (i := 34) (oi := { dst := some 90, op := Go.Op.pick (Go.Operand.tmp 85) (Go.Operand.const (Go.Value.bool true)) (Go.Operand.tmp 89), type := 4, pos := "law.go:42", after := #[{ on := 29, ground := Go.Ground.data }, { on := 33, ground := Go.Ground.data }], guard := none }) (v := .bool false) rfl (by kernel_rfl) (by kernel_rfl) (by kernel_rfl) (fun _ _ _ h => h) (Or.inl ⟨by rfl, ?_⟩) (by assumption) ?_
    · intro V hV; go_simp
    simp only [Act.put, List.setIfInBounds_toArray, List.set_cons_zero, List.set_cons_succ]
    refine wpAnyH_done (by kernel_rfl) ?_ _
    refine NoPanic.normal ?_
    go_wp2_with fail
    go_meet
    case rel => exact ⟨rfl, HU3⟩
  case rest =>
  obtain ⟨rfl, HU⟩ := hcut
  have HTc := hide (HTx.out.trans HU.out)
  have HRc := hide (rng_turn HRr.out HU.out)
  have HPc := hide (rng_turn HR1.out HU.out)
  have HBc := hide (HBx.out.turn HU.out (by simp))
  have HXc := hide (HXx.out.turn HU.out)
  have HT0 : Hid (Turn [] wc wc) := Turn.refl _ _
  clear HTx HRr HRo HR1 HR2 HBx HXx HYx HU HX1 HX2 HKp HU0 HS1 HS2 HS3 HNe
  go_upto_region 11 with fail
  go_upto_if 92 with fail
  go_cut [] from 15 to 106 (fun wz => Hid (Turn [] wc wz))
  case first =>
    by_cases hG0 : G = 0
    · have hXe : (reqS wrC ⟨[], 0⟩ r).1.l = X := by
        have := HX.out
        rwa [if_pos hG0] at this
      have hPd := HPb.out hG0
      rw [hXe, ← Hnx.out] at hPd
      have HPd := hide (hPd wc ax cx HXc.out)
      have HTk := hide (fun (u : World) => put_newR u ck hlk)
      have hg0 : (((G : Nat) : Int) == 0) = true := by rw [beq_iff_eq]; omega
      clear hPd HPb hXe HX HG HEp hG0
      go_upto_region 13 with (first | (go_at_call 13; (with_reducible refine HPd.out.mono ?_); rintro e V8 ⟨rfl, hT⟩; have HT9 := hide hT; have HR8 := hide (rng_turn HRc.out hT); obtain ⟨ht, hTn, hrn⟩ := HTk.out V8; have HTh := hide ht; have HTp := hide hTn; have HRp := hide hrn; clear hT ht hTn hrn) | ((with_reducible refine store_sz 25 18 sz25 _ _ V8.heap.size 0 ck hlk HOk.out ?_ ?_ HTh.out ?_); rfl; rfl) | fail)
      generalize V8.heap.size = q2 at *
      generalize (V8.alloc (.cells #[.int .i64 0, .string { data := #[] }, .int .i64 0, .int .i64 0, .int .i64 0, .int .i64 0, .string { data := #[] }, .string { data := #[] }, .string { data := #[] }, .int .i64 0, .int .i64 0, .int .i64 0, .int .i64 0, .int .i64 0, .int .i64 0, .int .i64 0, .int .i64 0, .int .i64 0] 25)).setCells q2 0 ck = V9 at *
      have HRk := hide (rng_turn HR8.out HTp.out)
      have HTk9 := hide (HT9.out.trans HTp.out)
      have HRq := hide HRp.out
      clear HT9 HTp HTh HRp HR8
      go_wp2_with (first | ((with_reducible refine load_gd 25 18 sz25 (.tmp 15) ?_ ?_ q2 ck hlk ?_ HRq.out ?_); rfl; rfl; rfl) | ((with_reducible refine load_gd 25 18 sz25 (.tmp 3) ?_ ?_ fb cr hlr ?_ HRk.out ?_); rfl; rfl; rfl) | (go_at_call 15; (with_reducible refine (HS4.out _).mono ?_); rintro e V10 ⟨rfl, hT⟩; have HT10 := hide (HTk9.out.trans hT); clear hT) | fail)
      go_meet
      case rel => exact HT10
    · have hg0 : (((G : Nat) : Int) == 0) = false := by rw [beq_eq_false_iff_ne]; omega
      clear HPb HX HG HEp
      go_wp2_with fail
      go_meet
      case rel => exact HT0
  case rest =>
  have HU := hcut
  by_cases hR0 : GR = 0
  · have HE := hide (HEp.out hR0)
    have hr0 : (((GR : Nat) : Int) == 0) = true := by rw [beq_iff_eq]; omega
    have HPz := hide (rng_turn HPc.out HU.out)
    obtain ⟨tB, htB⟩ : ∃ t, textOf LB = t := ⟨_, rfl⟩
    have HCv : Hid (∀ V a c, BytesAt V a LB → (convert 26 9 (.slice a nb c)).run Try.prog V = .ok (.string tB) V) := fun V a c h => by
      rw [← htB]
      exact text_at h _ _ Hnb.out.symm
    clear hR0 HEp HPb HX HG htB HRc HPc HXc HS4
    go_upto_region 17 with (first | ((with_reducible refine load_sz 25 18 sz25 _ q0 0 cR hlc ?_ HPz.out ?_); rfl) | (go_at_call 11; (with_reducible refine (HE.out _).mono ?_); rintro e V12 ⟨az, cz, rfl, hB, hT⟩; have HT12 := hide (HU.out.trans hT); have hc1 := HCv.out V12 az cz hB; have hc2 := HCv.out V12 ba cb (HBc.out.turn (HU.out.trans hT) (by simp)); clear hB hT) | fail)
    clear HCv HE HPz HBc
    go_wp2_with fail
    go_ret
    exact ⟨rfl, HTc.out.trans HT12.out⟩
  · have hr0 : (((GR : Nat) : Int) == 0) = false := by rw [beq_eq_false_iff_ne]; omega
    clear HEp HPb HX HG
    go_wp2_with fail
    go_ret
    exact ⟨rfl, HTc.out.trans HU.out⟩

theorem requests_any (r o : Rq) (ba : Option Addr) (cb : Nat) (LB : List Nat) (w : World) (hrn : r.Nums) (hr : r.Fits) (_hon : o.Nums) (ho : o.Fits) (hb : BytesAt w ba LB ∧ (∀ x ∈ LB, x < 256) ∧ (ba = none → cb = 0) ∧ LB.length ≤ cb ∧ cb ≤ maxLen ∧ (ba = none ∧ cb = 0 ∨ LB = [] ∨ ∃ ab ao, ba = some ⟨ab, ao, none⟩)) :
    Calls Try.prog 3 #[.agg (rqC r).toArray, .agg (rqC o).toArray, .slice ba LB.length cb] w fun e w' => e = .returned (.bool true) ∧ Turn [] w w' :=
  req_law r o ba cb LB w hrn hr ho hb.1 hb.2.1 hb.2.2.1 hb.2.2.2.1 hb.2.2.2.2.1

end Go.Proofs.Ytkbboingeacgjaa
