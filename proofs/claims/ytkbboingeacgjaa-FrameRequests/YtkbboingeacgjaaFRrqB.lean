/-
  ParseRequest of the reference, walked.
-/
import Derived.Test.YtkbboingeacgjaaFRk
namespace Go.Proofs.Ytkbboingeacgjaa
open Go.RowKit

set_option maxRecDepth 100000 in
set_option maxHeartbeats 6400000 in
theorem rparse3 (w : World) (a : Option Addr) (c : Nat) (l : List Nat) (hB : BytesAt w a l) (hc : l.length ≤ c) (hl : l.length ≤ 1000000) (hx : ∀ x ∈ l, x < 256) (hk : (countS .pr ⟨l, 0⟩ 0).1.e = 0 ∧ (countS .pr ⟨l, 0⟩ 0).2 = 3) :
    Calls Try.prog 14 #[.slice a l.length c] w fun r w' => PrqP w (reqK rfC (countS .pr ⟨l, 0⟩ 0).1 Rq.zero 3).1 (reqK rfC (countS .pr ⟨l, 0⟩ 0).1 Rq.zero 3).2 r w' := by
  have hT0 : Turn [] w (w.alloc (.cells (rqC Rq.zero).toArray 25)) := (Turn.refl [] w).alloc _
  have hz0 : (w.alloc (.cells (rqC Rq.zero).toArray 25)).heap.size = w.heap.size + 1 := by simp
  have hF := rdr_new (w := w.alloc (.cells (rqC Rq.zero).toArray 25)) (hB.turn hT0 (by simp)) hc hl hx
  rw [hz0] at hF
  have hz1 : ((w.alloc (.cells (rqC Rq.zero).toArray 25)).alloc (.cells #[.slice a l.length c, .int .i64 0, .int .i64 0] 82)).heap.size = w.heap.size + 2 := by simp
  have hK0 : Turn [] w ((w.alloc (.cells (rqC Rq.zero).toArray 25)).alloc (.cells #[.slice a l.length c, .int .i64 0, .int .i64 0] 82)) := hT0.alloc _
  have hTh : ((w.alloc (.cells (rqC Rq.zero).toArray 25)).alloc (.cells #[.slice a l.length c, .int .i64 0, .int .i64 0] 82)).there w.heap.size 0 18 := there_blk (there_new2 w (rqC Rq.zero).toArray 25) (Below.heap_alloc _ _ _ (by rw [hz0]; omega))
  have HAd : Hid (∀ x, l ≠ [] → a = some x → x.block < w.heap.size + 2) := fun x h e => by have := hB.lt x h e; omega
  have HC := hide (ru8 hF)
  have HK0 := hide hK0
  have HZ := hide hz1
  have HTh := hide hTh
  clear hF hK0 hz1 hTh hT0 hz0 hB hx
  unfold U8P at HC
  unfold PrqP
  obtain ⟨⟨s0, k0⟩, h0⟩ : ∃ T, countS .pr ⟨l, 0⟩ 0 = T := ⟨_, rfl⟩
  rw [h0] at hk HC ⊢
  obtain ⟨hk1, hk2⟩ := hk
  dsimp only at hk1 hk2 HC ⊢
  subst hk2
  obtain ⟨⟨s1, y1⟩, h1⟩ : ∃ T, textS .pr s0 ByteArray.empty = T := ⟨_, rfl⟩
  obtain ⟨⟨s2, y2⟩, h2⟩ : ∃ T, numS .pr s1 0 = T := ⟨_, rfl⟩
  obtain ⟨⟨s3, y3⟩, h3⟩ : ∃ T, numS .pr s2 0 = T := ⟨_, rfl⟩
  have hS : reqK rfC s0 Rq.zero 3 = (s3, { Rq.zero with k := 3, key := y1, id := y2, o := y3 }) := by
    unfold reqK rfC
    simp only [h1, h2, h3]
    rfl
  rw [hS]
  dsimp only
  have HK1 : Hid (s1.e = 0 → s0.e = 0) := fun (h : s1.e = 0) => text_e (z := ByteArray.empty) (by rw [h1]; exact h)
  have HK2 : Hid (s2.e = 0 → s1.e = 0) := fun (h : s2.e = 0) => (Classical.byContradiction fun k => by have h9 := numS_fault k 0; rw [h2] at h9; dsimp only at h9; rw [h9] at h; exact k h)
  have HK3 : Hid (s3.e = 0 → s2.e = 0) := fun (h : s3.e = 0) => (Classical.byContradiction fun k => by have h9 := numS_fault k 0; rw [h3] at h9; dsimp only at h9; rw [h9] at h; exact k h)
  have H1 := hide h1
  have H2 := hide h2
  have H3 := hide h3
  clear hS h0 h1 h2 h3
  obtain ⟨RV, hRV⟩ : ∃ R, Value.tuple #[.agg (rqC (if endS s3 = 0 then { Rq.zero with k := 3, key := y1, id := y2, o := y3 } else Rq.zero)).toArray, .int .i64 (endS s3 : Nat)] = R := ⟨_, rfl⟩
  rw [hRV]
  have HRV := hide (fun (_ : Unit) => hRV)
  clear hRV
  generalize hrb : w.heap.size = rb at *
  have HW := hide hrb
  go_enter Try.func14, Try.ntmps14
  go_wp2_with fail
  clear hrb
  change Calls Try.prog _ _ ((w.alloc (.cells (rqC Rq.zero).toArray 25)).alloc (.cells #[.slice a l.length c, .int .i64 0, .int .i64 0] 82)) _
  generalize (w.alloc (.cells (rqC Rq.zero).toArray 25)).alloc (.cells #[.slice a l.length c, .int .i64 0, .int .i64 0] 82) = w0 at *
  refine HC.out.mono ?_
  rintro e w1 ⟨rfl, hR, hT⟩
  have hthq : (w1.alloc (.cells #[.int .i64 0, .string { data := #[] }, .int .i64 0, .int .i64 0, .int .i64 0, .int .i64 0, .string { data := #[] }, .string { data := #[] }, .string { data := #[] }, .int .i64 0, .int .i64 0, .int .i64 0, .int .i64 0, .int .i64 0, .int .i64 0, .int .i64 0, .int .i64 0, .int .i64 0] 25)).there w1.heap.size 0 18 := there_new2 w1 #[.int .i64 0, .string { data := #[] }, .int .i64 0, .int .i64 0, .int .i64 0, .int .i64 0, .string { data := #[] }, .string { data := #[] }, .string { data := #[] }, .int .i64 0, .int .i64 0, .int .i64 0, .int .i64 0, .int .i64 0, .int .i64 0, .int .i64 0, .int .i64 0, .int .i64 0] 25
  have hRs := (Rs.new hR hT (by have := HZ.out; omega) (fun x hx e => by have := HAd.out x hx e; have := HZ.out; omega) #[.int .i64 0, .string { data := #[] }, .int .i64 0, .int .i64 0, .int .i64 0, .int .i64 0, .string { data := #[] }, .string { data := #[] }, .string { data := #[] }, .int .i64 0, .int .i64 0, .int .i64 0, .int .i64 0, .int .i64 0, .int .i64 0, .int .i64 0, .int .i64 0, .int .i64 0] 25).puts 0 [.int .i64 3, .string { data := #[] }, .int .i64 0, .int .i64 0, .int .i64 0, .int .i64 0, .string { data := #[] }, .string { data := #[] }, .string { data := #[] }, .int .i64 0, .int .i64 0, .int .i64 0, .int .i64 0, .int .i64 0, .int .i64 0, .int .i64 0, .int .i64 0, .int .i64 0] (by simp)
  have HS0 : Hid (Rs w0 ((w1.alloc (.cells #[.int .i64 0, .string { data := #[] }, .int .i64 0, .int .i64 0, .int .i64 0, .int .i64 0, .string { data := #[] }, .string { data := #[] }, .string { data := #[] }, .int .i64 0, .int .i64 0, .int .i64 0, .int .i64 0, .int .i64 0, .int .i64 0, .int .i64 0, .int .i64 0, .int .i64 0] 25)).setCells w1.heap.size 0 [.int .i64 3, .string { data := #[] }, .int .i64 0, .int .i64 0, .int .i64 0, .int .i64 0, .string { data := #[] }, .string { data := #[] }, .string { data := #[] }, .int .i64 0, .int .i64 0, .int .i64 0, .int .i64 0, .int .i64 0, .int .i64 0, .int .i64 0, .int .i64 0, .int .i64 0]) (rb + 1) a c l s0 w1.heap.size [.int .i64 3, .string { data := #[] }, .int .i64 0, .int .i64 0, .int .i64 0, .int .i64 0, .string { data := #[] }, .string { data := #[] }, .string { data := #[] }, .int .i64 0, .int .i64 0, .int .i64 0, .int .i64 0, .int .i64 0, .int .i64 0, .int .i64 0, .int .i64 0, .int .i64 0]) := hRs
  have hl18 : ([.int .i64 3, .string { data := #[] }, .int .i64 0, .int .i64 0, .int .i64 0, .int .i64 0, .string { data := #[] }, .string { data := #[] }, .string { data := #[] }, .int .i64 0, .int .i64 0, .int .i64 0, .int .i64 0, .int .i64 0, .int .i64 0, .int .i64 0, .int .i64 0, .int .i64 0] : List Value).length = 18 := rfl
  have HOne0 : Hid (∀ v ∈ ([.int .i64 3, .string { data := #[] }, .int .i64 0, .int .i64 0, .int .i64 0, .int .i64 0, .string { data := #[] }, .string { data := #[] }, .string { data := #[] }, .int .i64 0, .int .i64 0, .int .i64 0, .int .i64 0, .int .i64 0, .int .i64 0, .int .i64 0, .int .i64 0, .int .i64 0] : List Value), v.oneCell' = true) := by
    intro v hv
    simp only [List.mem_cons, List.not_mem_nil, or_false] at hv
    rcases hv with rfl | rfl | rfl | rfl | rfl | rfl | rfl | rfl | rfl | rfl | rfl | rfl | rfl | rfl | rfl | rfl | rfl | rfl <;> rfl
  have HThq := hide hthq
  clear hR hT hRs hthq HC
  go_upto_region 3 with (first | ((with_reducible refine store_sz 25 18 sz25 _ _ w1.heap.size 0 [.int .i64 3, .string { data := #[] }, .int .i64 0, .int .i64 0, .int .i64 0, .int .i64 0, .string { data := #[] }, .string { data := #[] }, .string { data := #[] }, .int .i64 0, .int .i64 0, .int .i64 0, .int .i64 0, .int .i64 0, .int .i64 0, .int .i64 0, .int .i64 0, .int .i64 0] hl18 HOne0.out ?_ ?_ HThq.out ?_); rfl; rfl) | fail)
  generalize w1.heap.size = q at *
  generalize (w1.alloc (.cells #[.int .i64 0, .string { data := #[] }, .int .i64 0, .int .i64 0, .int .i64 0, .int .i64 0, .string { data := #[] }, .string { data := #[] }, .string { data := #[] }, .int .i64 0, .int .i64 0, .int .i64 0, .int .i64 0, .int .i64 0, .int .i64 0, .int .i64 0, .int .i64 0, .int .i64 0] 25)).setCells q 0 [.int .i64 3, .string { data := #[] }, .int .i64 0, .int .i64 0, .int .i64 0, .int .i64 0, .string { data := #[] }, .string { data := #[] }, .string { data := #[] }, .int .i64 0, .int .i64 0, .int .i64 0, .int .i64 0, .int .i64 0, .int .i64 0, .int .i64 0, .int .i64 0, .int .i64 0] = v0 at *
  clear HThq HOne0 hl18
  have ck := HS0.out.cell (i := 0) rfl
  have ce := HS0.out.rd.c2
  rw [hk1] at ce
  go_wp2_with (first | (go_at_call 26; refine (rk3 _).mono ?_; rintro e w' ⟨rfl, rfl⟩) | fail)
  have HCt := hide (rtxt HS0.out.rd)
  unfold TxtP at HCt
  rw [H1.out] at HCt
  dsimp only at HCt
  refine HCt.out.mono ?_
  rintro e u1 ⟨nm1, rfl, hR, hnm, hT⟩
  have HNm1 := hide hnm
  clear HCt hnm
  have hK1 := HS0.out.call hT hR
  have c1 := hK1.cell (i := 1) rfl
  have f1 := hK1.fz (i := 1) (by simp)
  have HS1 : Hid (Rs w0 (u1.setCell ⟨q, 1, none⟩ (.string nm1)) (rb + 1) a c l s1 q [.int .i64 3, .string nm1, .int .i64 0, .int .i64 0, .int .i64 0, .int .i64 0, .string { data := #[] }, .string { data := #[] }, .string { data := #[] }, .int .i64 0, .int .i64 0, .int .i64 0, .int .i64 0, .int .i64 0, .int .i64 0, .int .i64 0, .int .i64 0, .int .i64 0]) := hK1.put 1 (.string nm1) (by simp)
  have ck1 := HS1.out.cell (i := 0) rfl
  clear hR hT hK1
  try dsimp only
  go_wp2_with fail
  generalize u1.setCell ⟨q, 1, none⟩ (.string nm1) = v1 at *
  clear c1 f1 ck1
  refine (ri64 HS1.out.rd).mono ?_
  rintro e u2 ⟨rfl, hR, hT⟩
  rw [H2.out] at hR ⊢
  have hK2 := HS1.out.call hT hR
  have c2 := hK2.cell (i := 2) rfl
  have f2 := hK2.fz (i := 2) (by simp)
  have HS2 : Hid (Rs w0 (u2.setCell ⟨q, 2, none⟩ (.int .i64 y2)) (rb + 1) a c l s2 q [.int .i64 3, .string nm1, .int .i64 y2, .int .i64 0, .int .i64 0, .int .i64 0, .string { data := #[] }, .string { data := #[] }, .string { data := #[] }, .int .i64 0, .int .i64 0, .int .i64 0, .int .i64 0, .int .i64 0, .int .i64 0, .int .i64 0, .int .i64 0, .int .i64 0]) := hK2.put 2 (.int .i64 y2) (by simp)
  have ck2 := HS2.out.cell (i := 0) rfl
  clear hR hT hK2
  dsimp only
  go_wp2_with fail
  generalize u2.setCell ⟨q, 2, none⟩ (.int .i64 y2) = v2 at *
  clear c2 f2 ck2
  refine (ri64 HS2.out.rd).mono ?_
  rintro e u3 ⟨rfl, hR, hT⟩
  rw [H3.out] at hR ⊢
  have hK3 := HS2.out.call hT hR
  have c3 := hK3.cell (i := 5) rfl
  have f3 := hK3.fz (i := 5) (by simp)
  have HS3 : Hid (Rs w0 (u3.setCell ⟨q, 5, none⟩ (.int .i64 y3)) (rb + 1) a c l s3 q [.int .i64 3, .string nm1, .int .i64 y2, .int .i64 0, .int .i64 0, .int .i64 y3, .string { data := #[] }, .string { data := #[] }, .string { data := #[] }, .int .i64 0, .int .i64 0, .int .i64 0, .int .i64 0, .int .i64 0, .int .i64 0, .int .i64 0, .int .i64 0, .int .i64 0]) := hK3.put 5 (.int .i64 y3) (by simp)
  have ck3 := HS3.out.cell (i := 0) rfl
  clear hR hT hK3
  dsimp only
  go_upto_region 35 with fail
  generalize u3.setCell ⟨q, 5, none⟩ (.int .i64 y3) = v3 at *
  clear c3 f3 ck3
  have hl18 : ([.int .i64 3, .string nm1, .int .i64 y2, .int .i64 0, .int .i64 0, .int .i64 y3, .string { data := #[] }, .string { data := #[] }, .string { data := #[] }, .int .i64 0, .int .i64 0, .int .i64 0, .int .i64 0, .int .i64 0, .int .i64 0, .int .i64 0, .int .i64 0, .int .i64 0] : List Value).length = 18 := rfl
  have HOne : Hid (∀ v ∈ ([.int .i64 3, .string nm1, .int .i64 y2, .int .i64 0, .int .i64 0, .int .i64 y3, .string { data := #[] }, .string { data := #[] }, .string { data := #[] }, .int .i64 0, .int .i64 0, .int .i64 0, .int .i64 0, .int .i64 0, .int .i64 0, .int .i64 0, .int .i64 0, .int .i64 0] : List Value), v.oneCell' = true) := by
    intro v hv
    simp only [List.mem_cons, List.not_mem_nil, or_false] at hv
    rcases hv with rfl | rfl | rfl | rfl | rfl | rfl | rfl | rfl | rfl | rfl | rfl | rfl | rfl | rfl | rfl | rfl | rfl | rfl <;> rfl
  have hrbq : rb < w0.heap.size := by have := HZ.out; omega
  have HT0 : Hid (v3.there rb 0 18) := there_blk HTh.out (HS3.out.tn.block rb hrbq (by simp))
  have HTw : Hid (Turn [] w v3) := HK0.out.ends HS3.out.tn (by have := HW.out; omega)
  have HRq : Hid (v3.rangeAt q 0 [.int .i64 3, .string nm1, .int .i64 y2, .int .i64 0, .int .i64 0, .int .i64 y3, .string { data := #[] }, .string { data := #[] }, .string { data := #[] }, .int .i64 0, .int .i64 0, .int .i64 0, .int .i64 0, .int .i64 0, .int .i64 0, .int .i64 0, .int .i64 0, .int .i64 0]) := HS3.out.fl
  have HE := hide (rend HS3.out.rd)
  unfold EndP at HE
  generalize hcs : ([.int .i64 3, .string nm1, .int .i64 y2, .int .i64 0, .int .i64 0, .int .i64 y3, .string { data := #[] }, .string { data := #[] }, .string { data := #[] }, .int .i64 0, .int .i64 0, .int .i64 0, .int .i64 0, .int .i64 0, .int .i64 0, .int .i64 0, .int .i64 0, .int .i64 0] : List Value) = cs at *
  clear HS3 HTh HK0
  go_wp2_with fail
  refine HE.out.mono ?_
  rintro e x2 ⟨rfl, hR, n, rfl⟩
  have HE2 := hide (rend hR)
  unfold EndP at HE2
  have HR2 : Hid ((v3.drewN n).rangeAt q 0 cs) := fun j u hj => HRq.out j u hj
  have HT2 : Hid ((v3.drewN n).there rb 0 18) := HT0.out
  have HT2m : Hid (∀ m, ((v3.drewN n).drewN m).there rb 0 18) := fun m => HT0.out
  have HTn : Hid (∀ ds : List Value, Turn [] w ((v3.drewN n).setCells rb 0 ds)) := fun ds => by
    have h1 := HTw.out
    exact (show Turn [] w (v3.drewN n) from ⟨h1.os, h1.tape, h1.output, h1.size, h1.block⟩).setCellsN rb (by have := HW.out; omega) ds 0
  have HTm : Hid (∀ m (ds : List Value), Turn [] w (((v3.drewN n).drewN m).setCells rb 0 ds)) := fun m ds => by
    have h1 := HTw.out
    exact (show Turn [] w ((v3.drewN n).drewN m) from ⟨h1.os, h1.tape, h1.output, h1.size, h1.block⟩).setCellsN rb (by have := HW.out; omega) ds 0
  clear hR HE HRq HT0 HTw
  generalize v3.drewN n = x2 at *
  by_cases he : endS s3 = 0
  · rw [he]
    have HR6 := hide (World.rangeAt_setCells_same x2 rb 0 cs (by rw [hl18]; exact HT2.out))
    go_wp2_with (first | ((with_reducible refine load_sz 25 18 sz25 _ q 0 cs hl18 ?_ HR2.out ?_); rfl) | ((with_reducible refine store_sz 25 18 sz25 _ _ rb 0 cs hl18 HOne.out ?_ ?_ HT2.out ?_); rfl; rfl) | fail)
    refine bodyPost_ret (v := .tuple #[.agg cs.toArray, .int .i64 0]) (results_two sz25 Try.results14 hl18 rfl rfl HR6.out) rfl ⟨?_, HTn.out _⟩
    have hse3 : s3.e = 0 := (end_el he).1
    have hse2 : s2.e = 0 := HK3.out hse3
    have hse1 : s1.e = 0 := HK2.out hse2
    have hse0 : s0.e = 0 := HK1.out hse1
    have hx1 := HNm1.out hse1
    rw [← HRV.out (), he, if_pos rfl, ← hcs, hx1]
    rfl
  · have hne2 : ¬ ((endS s3 : Nat) : Int) = 0 := by omega
    have hlz : ([.int .i64 0, .string { data := #[] }, .int .i64 0, .int .i64 0, .int .i64 0, .int .i64 0, .string { data := #[] }, .string { data := #[] }, .string { data := #[] }, .int .i64 0, .int .i64 0, .int .i64 0, .int .i64 0, .int .i64 0, .int .i64 0, .int .i64 0, .int .i64 0, .int .i64 0] : List Value).length = 18 := rfl
    have HOz : Hid (∀ v ∈ ([.int .i64 0, .string { data := #[] }, .int .i64 0, .int .i64 0, .int .i64 0, .int .i64 0, .string { data := #[] }, .string { data := #[] }, .string { data := #[] }, .int .i64 0, .int .i64 0, .int .i64 0, .int .i64 0, .int .i64 0, .int .i64 0, .int .i64 0, .int .i64 0, .int .i64 0] : List Value), v.oneCell' = true) := rqC_one Rq.zero
    have HEn : Hid (endS s3 ≠ 0) := he
    clear he
    generalize endS s3 = E at *
    go_wp2_with fail
    refine HE2.out.mono ?_
    rintro e v9 ⟨rfl, _, m, rfl⟩
    have HT3 := hide (HT2m.out m)
    have HTq := hide (HTm.out m)
    clear HTm HT2m HTn
    generalize x2.drewN m = x3 at *
    have HR6 := hide (World.rangeAt_setCells_same x3 rb 0 [.int .i64 0, .string { data := #[] }, .int .i64 0, .int .i64 0, .int .i64 0, .int .i64 0, .string { data := #[] }, .string { data := #[] }, .string { data := #[] }, .int .i64 0, .int .i64 0, .int .i64 0, .int .i64 0, .int .i64 0, .int .i64 0, .int .i64 0, .int .i64 0, .int .i64 0] HT3.out)
    go_wp2_with (first | ((with_reducible refine store_sz 25 18 sz25 _ _ rb 0 [.int .i64 0, .string { data := #[] }, .int .i64 0, .int .i64 0, .int .i64 0, .int .i64 0, .string { data := #[] }, .string { data := #[] }, .string { data := #[] }, .int .i64 0, .int .i64 0, .int .i64 0, .int .i64 0, .int .i64 0, .int .i64 0, .int .i64 0, .int .i64 0, .int .i64 0] hlz HOz.out ?_ ?_ HT3.out ?_); rfl; rfl) | fail)
    refine bodyPost_ret (v := .tuple #[.agg (rqC Rq.zero).toArray, .int .i64 (E : Nat)]) (results_two sz25 Try.results14 hlz rfl rfl HR6.out) rfl ⟨?_, HTq.out _⟩
    rw [← HRV.out (), if_neg HEn.out]

set_option maxRecDepth 100000 in
set_option maxHeartbeats 6400000 in
theorem rparse16 (w : World) (a : Option Addr) (c : Nat) (l : List Nat) (hB : BytesAt w a l) (hc : l.length ≤ c) (hl : l.length ≤ 1000000) (hx : ∀ x ∈ l, x < 256) (hk : (countS .pr ⟨l, 0⟩ 0).1.e = 0 ∧ (countS .pr ⟨l, 0⟩ 0).2 = 16) :
    Calls Try.prog 14 #[.slice a l.length c] w fun r w' => PrqP w (reqK rfC (countS .pr ⟨l, 0⟩ 0).1 Rq.zero 16).1 (reqK rfC (countS .pr ⟨l, 0⟩ 0).1 Rq.zero 16).2 r w' := by
  have hT0 : Turn [] w (w.alloc (.cells (rqC Rq.zero).toArray 25)) := (Turn.refl [] w).alloc _
  have hz0 : (w.alloc (.cells (rqC Rq.zero).toArray 25)).heap.size = w.heap.size + 1 := by simp
  have hF := rdr_new (w := w.alloc (.cells (rqC Rq.zero).toArray 25)) (hB.turn hT0 (by simp)) hc hl hx
  rw [hz0] at hF
  have hz1 : ((w.alloc (.cells (rqC Rq.zero).toArray 25)).alloc (.cells #[.slice a l.length c, .int .i64 0, .int .i64 0] 82)).heap.size = w.heap.size + 2 := by simp
  have hK0 : Turn [] w ((w.alloc (.cells (rqC Rq.zero).toArray 25)).alloc (.cells #[.slice a l.length c, .int .i64 0, .int .i64 0] 82)) := hT0.alloc _
  have hTh : ((w.alloc (.cells (rqC Rq.zero).toArray 25)).alloc (.cells #[.slice a l.length c, .int .i64 0, .int .i64 0] 82)).there w.heap.size 0 18 := there_blk (there_new2 w (rqC Rq.zero).toArray 25) (Below.heap_alloc _ _ _ (by rw [hz0]; omega))
  have HAd : Hid (∀ x, l ≠ [] → a = some x → x.block < w.heap.size + 2) := fun x h e => by have := hB.lt x h e; omega
  have HC := hide (ru8 hF)
  have HK0 := hide hK0
  have HZ := hide hz1
  have HTh := hide hTh
  clear hF hK0 hz1 hTh hT0 hz0 hB hx
  unfold U8P at HC
  unfold PrqP
  obtain ⟨⟨s0, k0⟩, h0⟩ : ∃ T, countS .pr ⟨l, 0⟩ 0 = T := ⟨_, rfl⟩
  rw [h0] at hk HC ⊢
  obtain ⟨hk1, hk2⟩ := hk
  dsimp only at hk1 hk2 HC ⊢
  subst hk2
  obtain ⟨⟨s1, y1⟩, h1⟩ : ∃ T, textS .pr s0 ByteArray.empty = T := ⟨_, rfl⟩
  obtain ⟨⟨s2, m2, ys2⟩, h2⟩ : ∃ T, tiS .pr s1 ByteArray.empty (List.replicate 9 0) = T := ⟨_, rfl⟩
  have hy9 : ys2.length = 9 := by
    have := congrArg (fun T => T.2.2.length) h2
    rw [← this]
    exact (numsS_length .pr _ _).trans rfl
  have hS : reqK rfC s0 Rq.zero 16 = (s2, Rq.setP { Rq.zero with k := 16, key := y1 } m2 ys2) := by
    unfold reqK rfC
    simp only [h1, h2]
    rfl
  obtain ⟨z1, z2, z3, z4, z5, z6, z7, z8, z9, rfl⟩ : ∃ z1 z2 z3 z4 z5 z6 z7 z8 z9, ys2 = [z1, z2, z3, z4, z5, z6, z7, z8, z9] := by
    match ys2, hy9 with
    | [z1, z2, z3, z4, z5, z6, z7, z8, z9], _ => exact ⟨z1, z2, z3, z4, z5, z6, z7, z8, z9, rfl⟩
  clear hy9
  rw [hS]
  dsimp only
  have HK1 : Hid (s1.e = 0 → s0.e = 0) := fun (h : s1.e = 0) => text_e (z := ByteArray.empty) (by rw [h1]; exact h)
  have HK2 : Hid (s2.e = 0 → s1.e = 0) := fun (h : s2.e = 0) => text_e (tiS_text (l := List.replicate 9 0) (by rw [h2]; exact h))
  have HKt : Hid (s2.e = 0 → (textS .pr s1 ByteArray.empty).1.e = 0) := fun h => tiS_text (l := List.replicate 9 0) (by rw [h2]; exact h)
  have H1 := hide h1
  have H2 := hide h2
  clear hS h0 h1 h2
  obtain ⟨RV, hRV⟩ : ∃ R, Value.tuple #[.agg (rqC (if endS s2 = 0 then Rq.setP { Rq.zero with k := 16, key := y1 } m2 [z1, z2, z3, z4, z5, z6, z7, z8, z9] else Rq.zero)).toArray, .int .i64 (endS s2 : Nat)] = R := ⟨_, rfl⟩
  rw [hRV]
  have HRV := hide (fun (_ : Unit) => hRV)
  clear hRV
  generalize hrb : w.heap.size = rb at *
  have HW := hide hrb
  go_enter Try.func14, Try.ntmps14
  go_wp2_with fail
  clear hrb
  change Calls Try.prog _ _ ((w.alloc (.cells (rqC Rq.zero).toArray 25)).alloc (.cells #[.slice a l.length c, .int .i64 0, .int .i64 0] 82)) _
  generalize (w.alloc (.cells (rqC Rq.zero).toArray 25)).alloc (.cells #[.slice a l.length c, .int .i64 0, .int .i64 0] 82) = w0 at *
  refine HC.out.mono ?_
  rintro e w1 ⟨rfl, hR, hT⟩
  have hthq : (w1.alloc (.cells #[.int .i64 0, .string { data := #[] }, .int .i64 0, .int .i64 0, .int .i64 0, .int .i64 0, .string { data := #[] }, .string { data := #[] }, .string { data := #[] }, .int .i64 0, .int .i64 0, .int .i64 0, .int .i64 0, .int .i64 0, .int .i64 0, .int .i64 0, .int .i64 0, .int .i64 0] 25)).there w1.heap.size 0 18 := there_new2 w1 #[.int .i64 0, .string { data := #[] }, .int .i64 0, .int .i64 0, .int .i64 0, .int .i64 0, .string { data := #[] }, .string { data := #[] }, .string { data := #[] }, .int .i64 0, .int .i64 0, .int .i64 0, .int .i64 0, .int .i64 0, .int .i64 0, .int .i64 0, .int .i64 0, .int .i64 0] 25
  have hRs := (Rs.new hR hT (by have := HZ.out; omega) (fun x hx e => by have := HAd.out x hx e; have := HZ.out; omega) #[.int .i64 0, .string { data := #[] }, .int .i64 0, .int .i64 0, .int .i64 0, .int .i64 0, .string { data := #[] }, .string { data := #[] }, .string { data := #[] }, .int .i64 0, .int .i64 0, .int .i64 0, .int .i64 0, .int .i64 0, .int .i64 0, .int .i64 0, .int .i64 0, .int .i64 0] 25).puts 0 [.int .i64 16, .string { data := #[] }, .int .i64 0, .int .i64 0, .int .i64 0, .int .i64 0, .string { data := #[] }, .string { data := #[] }, .string { data := #[] }, .int .i64 0, .int .i64 0, .int .i64 0, .int .i64 0, .int .i64 0, .int .i64 0, .int .i64 0, .int .i64 0, .int .i64 0] (by simp)
  have HS0 : Hid (Rs w0 ((w1.alloc (.cells #[.int .i64 0, .string { data := #[] }, .int .i64 0, .int .i64 0, .int .i64 0, .int .i64 0, .string { data := #[] }, .string { data := #[] }, .string { data := #[] }, .int .i64 0, .int .i64 0, .int .i64 0, .int .i64 0, .int .i64 0, .int .i64 0, .int .i64 0, .int .i64 0, .int .i64 0] 25)).setCells w1.heap.size 0 [.int .i64 16, .string { data := #[] }, .int .i64 0, .int .i64 0, .int .i64 0, .int .i64 0, .string { data := #[] }, .string { data := #[] }, .string { data := #[] }, .int .i64 0, .int .i64 0, .int .i64 0, .int .i64 0, .int .i64 0, .int .i64 0, .int .i64 0, .int .i64 0, .int .i64 0]) (rb + 1) a c l s0 w1.heap.size [.int .i64 16, .string { data := #[] }, .int .i64 0, .int .i64 0, .int .i64 0, .int .i64 0, .string { data := #[] }, .string { data := #[] }, .string { data := #[] }, .int .i64 0, .int .i64 0, .int .i64 0, .int .i64 0, .int .i64 0, .int .i64 0, .int .i64 0, .int .i64 0, .int .i64 0]) := hRs
  have hl18 : ([.int .i64 16, .string { data := #[] }, .int .i64 0, .int .i64 0, .int .i64 0, .int .i64 0, .string { data := #[] }, .string { data := #[] }, .string { data := #[] }, .int .i64 0, .int .i64 0, .int .i64 0, .int .i64 0, .int .i64 0, .int .i64 0, .int .i64 0, .int .i64 0, .int .i64 0] : List Value).length = 18 := rfl
  have HOne0 : Hid (∀ v ∈ ([.int .i64 16, .string { data := #[] }, .int .i64 0, .int .i64 0, .int .i64 0, .int .i64 0, .string { data := #[] }, .string { data := #[] }, .string { data := #[] }, .int .i64 0, .int .i64 0, .int .i64 0, .int .i64 0, .int .i64 0, .int .i64 0, .int .i64 0, .int .i64 0, .int .i64 0] : List Value), v.oneCell' = true) := by
    intro v hv
    simp only [List.mem_cons, List.not_mem_nil, or_false] at hv
    rcases hv with rfl | rfl | rfl | rfl | rfl | rfl | rfl | rfl | rfl | rfl | rfl | rfl | rfl | rfl | rfl | rfl | rfl | rfl <;> rfl
  have HThq := hide hthq
  clear hR hT hRs hthq HC
  go_upto_region 3 with (first | ((with_reducible refine store_sz 25 18 sz25 _ _ w1.heap.size 0 [.int .i64 16, .string { data := #[] }, .int .i64 0, .int .i64 0, .int .i64 0, .int .i64 0, .string { data := #[] }, .string { data := #[] }, .string { data := #[] }, .int .i64 0, .int .i64 0, .int .i64 0, .int .i64 0, .int .i64 0, .int .i64 0, .int .i64 0, .int .i64 0, .int .i64 0] hl18 HOne0.out ?_ ?_ HThq.out ?_); rfl; rfl) | fail)
  generalize w1.heap.size = q at *
  generalize (w1.alloc (.cells #[.int .i64 0, .string { data := #[] }, .int .i64 0, .int .i64 0, .int .i64 0, .int .i64 0, .string { data := #[] }, .string { data := #[] }, .string { data := #[] }, .int .i64 0, .int .i64 0, .int .i64 0, .int .i64 0, .int .i64 0, .int .i64 0, .int .i64 0, .int .i64 0, .int .i64 0] 25)).setCells q 0 [.int .i64 16, .string { data := #[] }, .int .i64 0, .int .i64 0, .int .i64 0, .int .i64 0, .string { data := #[] }, .string { data := #[] }, .string { data := #[] }, .int .i64 0, .int .i64 0, .int .i64 0, .int .i64 0, .int .i64 0, .int .i64 0, .int .i64 0, .int .i64 0, .int .i64 0] = v0 at *
  clear HThq HOne0 hl18
  have ck := HS0.out.cell (i := 0) rfl
  have ce := HS0.out.rd.c2
  rw [hk1] at ce
  go_wp2_with (first | (go_at_call 26; refine (rk16 _).mono ?_; rintro e w' ⟨rfl, rfl⟩) | fail)
  have HCt := hide (rtxt HS0.out.rd)
  unfold TxtP at HCt
  rw [H1.out] at HCt
  dsimp only at HCt
  refine HCt.out.mono ?_
  rintro e u1 ⟨nm1, rfl, hR, hnm, hT⟩
  have HNm1 := hide hnm
  clear HCt hnm
  have hK1 := HS0.out.call hT hR
  have c1 := hK1.cell (i := 1) rfl
  have f1 := hK1.fz (i := 1) (by simp)
  have HS1 : Hid (Rs w0 (u1.setCell ⟨q, 1, none⟩ (.string nm1)) (rb + 1) a c l s1 q [.int .i64 16, .string nm1, .int .i64 0, .int .i64 0, .int .i64 0, .int .i64 0, .string { data := #[] }, .string { data := #[] }, .string { data := #[] }, .int .i64 0, .int .i64 0, .int .i64 0, .int .i64 0, .int .i64 0, .int .i64 0, .int .i64 0, .int .i64 0, .int .i64 0]) := hK1.put 1 (.string nm1) (by simp)
  have ck1 := HS1.out.cell (i := 0) rfl
  clear hR hT hK1
  try dsimp only
  go_wp2_with fail
  generalize u1.setCell ⟨q, 1, none⟩ (.string nm1) = v1 at *
  clear c1 f1 ck1
  have HCp := hide (rdPlan HS1.out.rd)
  unfold rdPlanP at HCp
  rw [H2.out] at HCp
  dsimp only at HCp
  refine HCp.out.mono ?_
  rintro e u2 ⟨nm2, rfl, hR, hnm, hT⟩
  have hK := HS1.out.call hT hR
  have HNm2 := hide hnm
  have HTp : Hid (u2.there q 8 10) := fun j hj => by
    have := hK.th (8 + j) (by simp; omega)
    rw [Nat.zero_add] at this
    exact this
  have hlp : ([.string nm2, .int .i64 z1, .int .i64 z2, .int .i64 z3, .int .i64 z4, .int .i64 z5, .int .i64 z6, .int .i64 z7, .int .i64 z8, .int .i64 z9] : List Value).length = 10 := rfl
  have HOp : Hid (∀ v ∈ ([.string nm2, .int .i64 z1, .int .i64 z2, .int .i64 z3, .int .i64 z4, .int .i64 z5, .int .i64 z6, .int .i64 z7, .int .i64 z8, .int .i64 z9] : List Value), v.oneCell' = true) := by
    intro v hv
    simp only [List.mem_cons, List.not_mem_nil, or_false] at hv
    rcases hv with rfl | rfl | rfl | rfl | rfl | rfl | rfl | rfl | rfl | rfl <;> rfl
  have HS2 : Hid (Rs w0 (u2.setCells q 8 [.string nm2, .int .i64 z1, .int .i64 z2, .int .i64 z3, .int .i64 z4, .int .i64 z5, .int .i64 z6, .int .i64 z7, .int .i64 z8, .int .i64 z9]) (rb + 1) a c l s2 q [.int .i64 16, .string nm1, .int .i64 0, .int .i64 0, .int .i64 0, .int .i64 0, .string { data := #[] }, .string { data := #[] }, .string nm2, .int .i64 z1, .int .i64 z2, .int .i64 z3, .int .i64 z4, .int .i64 z5, .int .i64 z6, .int .i64 z7, .int .i64 z8, .int .i64 z9]) := hK.puts 8 [.string nm2, .int .i64 z1, .int .i64 z2, .int .i64 z3, .int .i64 z4, .int .i64 z5, .int .i64 z6, .int .i64 z7, .int .i64 z8, .int .i64 z9] (by simp)
  have hpe : (Value.string nm2 :: intC [z1, z2, z3, z4, z5, z6, z7, z8, z9]) = [.string nm2, .int .i64 z1, .int .i64 z2, .int .i64 z3, .int .i64 z4, .int .i64 z5, .int .i64 z6, .int .i64 z7, .int .i64 z8, .int .i64 z9] := rfl
  rw [hpe]
  clear hR hT hK hnm HCp hpe
  go_upto_region 35 with (first | ((with_reducible refine store_sz 23 10 sz23 _ _ q 8 [.string nm2, .int .i64 z1, .int .i64 z2, .int .i64 z3, .int .i64 z4, .int .i64 z5, .int .i64 z6, .int .i64 z7, .int .i64 z8, .int .i64 z9] hlp HOp.out ?_ ?_ HTp.out ?_); rfl; rfl) | fail)
  generalize u2.setCells q 8 [.string nm2, .int .i64 z1, .int .i64 z2, .int .i64 z3, .int .i64 z4, .int .i64 z5, .int .i64 z6, .int .i64 z7, .int .i64 z8, .int .i64 z9] = v2 at *
  clear hlp HOp HTp
  have hl18 : ([.int .i64 16, .string nm1, .int .i64 0, .int .i64 0, .int .i64 0, .int .i64 0, .string { data := #[] }, .string { data := #[] }, .string nm2, .int .i64 z1, .int .i64 z2, .int .i64 z3, .int .i64 z4, .int .i64 z5, .int .i64 z6, .int .i64 z7, .int .i64 z8, .int .i64 z9] : List Value).length = 18 := rfl
  have HOne : Hid (∀ v ∈ ([.int .i64 16, .string nm1, .int .i64 0, .int .i64 0, .int .i64 0, .int .i64 0, .string { data := #[] }, .string { data := #[] }, .string nm2, .int .i64 z1, .int .i64 z2, .int .i64 z3, .int .i64 z4, .int .i64 z5, .int .i64 z6, .int .i64 z7, .int .i64 z8, .int .i64 z9] : List Value), v.oneCell' = true) := by
    intro v hv
    simp only [List.mem_cons, List.not_mem_nil, or_false] at hv
    rcases hv with rfl | rfl | rfl | rfl | rfl | rfl | rfl | rfl | rfl | rfl | rfl | rfl | rfl | rfl | rfl | rfl | rfl | rfl <;> rfl
  have hrbq : rb < w0.heap.size := by have := HZ.out; omega
  have HT0 : Hid (v2.there rb 0 18) := there_blk HTh.out (HS2.out.tn.block rb hrbq (by simp))
  have HTw : Hid (Turn [] w v2) := HK0.out.ends HS2.out.tn (by have := HW.out; omega)
  have HRq : Hid (v2.rangeAt q 0 [.int .i64 16, .string nm1, .int .i64 0, .int .i64 0, .int .i64 0, .int .i64 0, .string { data := #[] }, .string { data := #[] }, .string nm2, .int .i64 z1, .int .i64 z2, .int .i64 z3, .int .i64 z4, .int .i64 z5, .int .i64 z6, .int .i64 z7, .int .i64 z8, .int .i64 z9]) := HS2.out.fl
  have HE := hide (rend HS2.out.rd)
  unfold EndP at HE
  generalize hcs : ([.int .i64 16, .string nm1, .int .i64 0, .int .i64 0, .int .i64 0, .int .i64 0, .string { data := #[] }, .string { data := #[] }, .string nm2, .int .i64 z1, .int .i64 z2, .int .i64 z3, .int .i64 z4, .int .i64 z5, .int .i64 z6, .int .i64 z7, .int .i64 z8, .int .i64 z9] : List Value) = cs at *
  clear HS2 HTh HK0
  go_wp2_with fail
  refine HE.out.mono ?_
  rintro e x2 ⟨rfl, hR, n, rfl⟩
  have HE2 := hide (rend hR)
  unfold EndP at HE2
  have HR2 : Hid ((v2.drewN n).rangeAt q 0 cs) := fun j u hj => HRq.out j u hj
  have HT2 : Hid ((v2.drewN n).there rb 0 18) := HT0.out
  have HT2m : Hid (∀ m, ((v2.drewN n).drewN m).there rb 0 18) := fun m => HT0.out
  have HTn : Hid (∀ ds : List Value, Turn [] w ((v2.drewN n).setCells rb 0 ds)) := fun ds => by
    have h1 := HTw.out
    exact (show Turn [] w (v2.drewN n) from ⟨h1.os, h1.tape, h1.output, h1.size, h1.block⟩).setCellsN rb (by have := HW.out; omega) ds 0
  have HTm : Hid (∀ m (ds : List Value), Turn [] w (((v2.drewN n).drewN m).setCells rb 0 ds)) := fun m ds => by
    have h1 := HTw.out
    exact (show Turn [] w ((v2.drewN n).drewN m) from ⟨h1.os, h1.tape, h1.output, h1.size, h1.block⟩).setCellsN rb (by have := HW.out; omega) ds 0
  clear hR HE HRq HT0 HTw
  generalize v2.drewN n = x2 at *
  by_cases he : endS s2 = 0
  · rw [he]
    have HR6 := hide (World.rangeAt_setCells_same x2 rb 0 cs (by rw [hl18]; exact HT2.out))
    go_wp2_with (first | ((with_reducible refine load_sz 25 18 sz25 _ q 0 cs hl18 ?_ HR2.out ?_); rfl) | ((with_reducible refine store_sz 25 18 sz25 _ _ rb 0 cs hl18 HOne.out ?_ ?_ HT2.out ?_); rfl; rfl) | fail)
    refine bodyPost_ret (v := .tuple #[.agg cs.toArray, .int .i64 0]) (results_two sz25 Try.results14 hl18 rfl rfl HR6.out) rfl ⟨?_, HTn.out _⟩
    have hse2 : s2.e = 0 := (end_el he).1
    have hse1 : s1.e = 0 := HK2.out hse2
    have hse0 : s0.e = 0 := HK1.out hse1
    have hx1 := HNm1.out hse1
    have hx2 := HNm2.out (HKt.out hse2)
    rw [← HRV.out (), he, if_pos rfl, ← hcs, hx1, hx2]
    rfl
  · have hne2 : ¬ ((endS s2 : Nat) : Int) = 0 := by omega
    have hlz : ([.int .i64 0, .string { data := #[] }, .int .i64 0, .int .i64 0, .int .i64 0, .int .i64 0, .string { data := #[] }, .string { data := #[] }, .string { data := #[] }, .int .i64 0, .int .i64 0, .int .i64 0, .int .i64 0, .int .i64 0, .int .i64 0, .int .i64 0, .int .i64 0, .int .i64 0] : List Value).length = 18 := rfl
    have HOz : Hid (∀ v ∈ ([.int .i64 0, .string { data := #[] }, .int .i64 0, .int .i64 0, .int .i64 0, .int .i64 0, .string { data := #[] }, .string { data := #[] }, .string { data := #[] }, .int .i64 0, .int .i64 0, .int .i64 0, .int .i64 0, .int .i64 0, .int .i64 0, .int .i64 0, .int .i64 0, .int .i64 0] : List Value), v.oneCell' = true) := rqC_one Rq.zero
    have HEn : Hid (endS s2 ≠ 0) := he
    clear he
    generalize endS s2 = E at *
    go_wp2_with fail
    refine HE2.out.mono ?_
    rintro e v9 ⟨rfl, _, m, rfl⟩
    have HT3 := hide (HT2m.out m)
    have HTq := hide (HTm.out m)
    clear HTm HT2m HTn
    generalize x2.drewN m = x3 at *
    have HR6 := hide (World.rangeAt_setCells_same x3 rb 0 [.int .i64 0, .string { data := #[] }, .int .i64 0, .int .i64 0, .int .i64 0, .int .i64 0, .string { data := #[] }, .string { data := #[] }, .string { data := #[] }, .int .i64 0, .int .i64 0, .int .i64 0, .int .i64 0, .int .i64 0, .int .i64 0, .int .i64 0, .int .i64 0, .int .i64 0] HT3.out)
    go_wp2_with (first | ((with_reducible refine store_sz 25 18 sz25 _ _ rb 0 [.int .i64 0, .string { data := #[] }, .int .i64 0, .int .i64 0, .int .i64 0, .int .i64 0, .string { data := #[] }, .string { data := #[] }, .string { data := #[] }, .int .i64 0, .int .i64 0, .int .i64 0, .int .i64 0, .int .i64 0, .int .i64 0, .int .i64 0, .int .i64 0, .int .i64 0] hlz HOz.out ?_ ?_ HT3.out ?_); rfl; rfl) | fail)
    refine bodyPost_ret (v := .tuple #[.agg (rqC Rq.zero).toArray, .int .i64 (E : Nat)]) (results_two sz25 Try.results14 hlz rfl rfl HR6.out) rfl ⟨?_, HTq.out _⟩
    rw [← HRV.out (), if_neg HEn.out]

set_option maxRecDepth 100000 in
set_option maxHeartbeats 6400000 in
theorem rparse17 (w : World) (a : Option Addr) (c : Nat) (l : List Nat) (hB : BytesAt w a l) (hc : l.length ≤ c) (hl : l.length ≤ 1000000) (hx : ∀ x ∈ l, x < 256) (hk : (countS .pr ⟨l, 0⟩ 0).1.e = 0 ∧ (countS .pr ⟨l, 0⟩ 0).2 = 17) :
    Calls Try.prog 14 #[.slice a l.length c] w fun r w' => PrqP w (reqK rfC (countS .pr ⟨l, 0⟩ 0).1 Rq.zero 17).1 (reqK rfC (countS .pr ⟨l, 0⟩ 0).1 Rq.zero 17).2 r w' := by
  have hT0 : Turn [] w (w.alloc (.cells (rqC Rq.zero).toArray 25)) := (Turn.refl [] w).alloc _
  have hz0 : (w.alloc (.cells (rqC Rq.zero).toArray 25)).heap.size = w.heap.size + 1 := by simp
  have hF := rdr_new (w := w.alloc (.cells (rqC Rq.zero).toArray 25)) (hB.turn hT0 (by simp)) hc hl hx
  rw [hz0] at hF
  have hz1 : ((w.alloc (.cells (rqC Rq.zero).toArray 25)).alloc (.cells #[.slice a l.length c, .int .i64 0, .int .i64 0] 82)).heap.size = w.heap.size + 2 := by simp
  have hK0 : Turn [] w ((w.alloc (.cells (rqC Rq.zero).toArray 25)).alloc (.cells #[.slice a l.length c, .int .i64 0, .int .i64 0] 82)) := hT0.alloc _
  have hTh : ((w.alloc (.cells (rqC Rq.zero).toArray 25)).alloc (.cells #[.slice a l.length c, .int .i64 0, .int .i64 0] 82)).there w.heap.size 0 18 := there_blk (there_new2 w (rqC Rq.zero).toArray 25) (Below.heap_alloc _ _ _ (by rw [hz0]; omega))
  have HAd : Hid (∀ x, l ≠ [] → a = some x → x.block < w.heap.size + 2) := fun x h e => by have := hB.lt x h e; omega
  have HC := hide (ru8 hF)
  have HK0 := hide hK0
  have HZ := hide hz1
  have HTh := hide hTh
  clear hF hK0 hz1 hTh hT0 hz0 hB hx
  unfold U8P at HC
  unfold PrqP
  obtain ⟨⟨s0, k0⟩, h0⟩ : ∃ T, countS .pr ⟨l, 0⟩ 0 = T := ⟨_, rfl⟩
  rw [h0] at hk HC ⊢
  obtain ⟨hk1, hk2⟩ := hk
  dsimp only at hk1 hk2 HC ⊢
  subst hk2
  obtain ⟨⟨s1, y1⟩, h1⟩ : ∃ T, textS .pr s0 ByteArray.empty = T := ⟨_, rfl⟩
  obtain ⟨⟨s2, y2⟩, h2⟩ : ∃ T, textS .pr s1 ByteArray.empty = T := ⟨_, rfl⟩
  obtain ⟨⟨s3, y3⟩, h3⟩ : ∃ T, textS .pr s2 ByteArray.empty = T := ⟨_, rfl⟩
  obtain ⟨⟨s4, y4⟩, h4⟩ : ∃ T, textS .pr s3 ByteArray.empty = T := ⟨_, rfl⟩
  obtain ⟨⟨s5, y5⟩, h5⟩ : ∃ T, numS .pr s4 0 = T := ⟨_, rfl⟩
  have hS : reqK rfC s0 Rq.zero 17 = (s5, { Rq.zero with k := 17, key := y1, nm := y2, sec := y3, pn := y4, p1 := y5 }) := by
    unfold reqK rfC
    simp only [h1, h2, h3, h4, h5]
    rfl
  rw [hS]
  dsimp only
  have HK1 : Hid (s1.e = 0 → s0.e = 0) := fun (h : s1.e = 0) => text_e (z := ByteArray.empty) (by rw [h1]; exact h)
  have HK2 : Hid (s2.e = 0 → s1.e = 0) := fun (h : s2.e = 0) => text_e (z := ByteArray.empty) (by rw [h2]; exact h)
  have HK3 : Hid (s3.e = 0 → s2.e = 0) := fun (h : s3.e = 0) => text_e (z := ByteArray.empty) (by rw [h3]; exact h)
  have HK4 : Hid (s4.e = 0 → s3.e = 0) := fun (h : s4.e = 0) => text_e (z := ByteArray.empty) (by rw [h4]; exact h)
  have HK5 : Hid (s5.e = 0 → s4.e = 0) := fun (h : s5.e = 0) => (Classical.byContradiction fun k => by have h9 := numS_fault k 0; rw [h5] at h9; dsimp only at h9; rw [h9] at h; exact k h)
  have H1 := hide h1
  have H2 := hide h2
  have H3 := hide h3
  have H4 := hide h4
  have H5 := hide h5
  clear hS h0 h1 h2 h3 h4 h5
  obtain ⟨RV, hRV⟩ : ∃ R, Value.tuple #[.agg (rqC (if endS s5 = 0 then { Rq.zero with k := 17, key := y1, nm := y2, sec := y3, pn := y4, p1 := y5 } else Rq.zero)).toArray, .int .i64 (endS s5 : Nat)] = R := ⟨_, rfl⟩
  rw [hRV]
  have HRV := hide (fun (_ : Unit) => hRV)
  clear hRV
  generalize hrb : w.heap.size = rb at *
  have HW := hide hrb
  go_enter Try.func14, Try.ntmps14
  go_wp2_with fail
  clear hrb
  change Calls Try.prog _ _ ((w.alloc (.cells (rqC Rq.zero).toArray 25)).alloc (.cells #[.slice a l.length c, .int .i64 0, .int .i64 0] 82)) _
  generalize (w.alloc (.cells (rqC Rq.zero).toArray 25)).alloc (.cells #[.slice a l.length c, .int .i64 0, .int .i64 0] 82) = w0 at *
  refine HC.out.mono ?_
  rintro e w1 ⟨rfl, hR, hT⟩
  have hthq : (w1.alloc (.cells #[.int .i64 0, .string { data := #[] }, .int .i64 0, .int .i64 0, .int .i64 0, .int .i64 0, .string { data := #[] }, .string { data := #[] }, .string { data := #[] }, .int .i64 0, .int .i64 0, .int .i64 0, .int .i64 0, .int .i64 0, .int .i64 0, .int .i64 0, .int .i64 0, .int .i64 0] 25)).there w1.heap.size 0 18 := there_new2 w1 #[.int .i64 0, .string { data := #[] }, .int .i64 0, .int .i64 0, .int .i64 0, .int .i64 0, .string { data := #[] }, .string { data := #[] }, .string { data := #[] }, .int .i64 0, .int .i64 0, .int .i64 0, .int .i64 0, .int .i64 0, .int .i64 0, .int .i64 0, .int .i64 0, .int .i64 0] 25
  have hRs := (Rs.new hR hT (by have := HZ.out; omega) (fun x hx e => by have := HAd.out x hx e; have := HZ.out; omega) #[.int .i64 0, .string { data := #[] }, .int .i64 0, .int .i64 0, .int .i64 0, .int .i64 0, .string { data := #[] }, .string { data := #[] }, .string { data := #[] }, .int .i64 0, .int .i64 0, .int .i64 0, .int .i64 0, .int .i64 0, .int .i64 0, .int .i64 0, .int .i64 0, .int .i64 0] 25).puts 0 [.int .i64 17, .string { data := #[] }, .int .i64 0, .int .i64 0, .int .i64 0, .int .i64 0, .string { data := #[] }, .string { data := #[] }, .string { data := #[] }, .int .i64 0, .int .i64 0, .int .i64 0, .int .i64 0, .int .i64 0, .int .i64 0, .int .i64 0, .int .i64 0, .int .i64 0] (by simp)
  have HS0 : Hid (Rs w0 ((w1.alloc (.cells #[.int .i64 0, .string { data := #[] }, .int .i64 0, .int .i64 0, .int .i64 0, .int .i64 0, .string { data := #[] }, .string { data := #[] }, .string { data := #[] }, .int .i64 0, .int .i64 0, .int .i64 0, .int .i64 0, .int .i64 0, .int .i64 0, .int .i64 0, .int .i64 0, .int .i64 0] 25)).setCells w1.heap.size 0 [.int .i64 17, .string { data := #[] }, .int .i64 0, .int .i64 0, .int .i64 0, .int .i64 0, .string { data := #[] }, .string { data := #[] }, .string { data := #[] }, .int .i64 0, .int .i64 0, .int .i64 0, .int .i64 0, .int .i64 0, .int .i64 0, .int .i64 0, .int .i64 0, .int .i64 0]) (rb + 1) a c l s0 w1.heap.size [.int .i64 17, .string { data := #[] }, .int .i64 0, .int .i64 0, .int .i64 0, .int .i64 0, .string { data := #[] }, .string { data := #[] }, .string { data := #[] }, .int .i64 0, .int .i64 0, .int .i64 0, .int .i64 0, .int .i64 0, .int .i64 0, .int .i64 0, .int .i64 0, .int .i64 0]) := hRs
  have hl18 : ([.int .i64 17, .string { data := #[] }, .int .i64 0, .int .i64 0, .int .i64 0, .int .i64 0, .string { data := #[] }, .string { data := #[] }, .string { data := #[] }, .int .i64 0, .int .i64 0, .int .i64 0, .int .i64 0, .int .i64 0, .int .i64 0, .int .i64 0, .int .i64 0, .int .i64 0] : List Value).length = 18 := rfl
  have HOne0 : Hid (∀ v ∈ ([.int .i64 17, .string { data := #[] }, .int .i64 0, .int .i64 0, .int .i64 0, .int .i64 0, .string { data := #[] }, .string { data := #[] }, .string { data := #[] }, .int .i64 0, .int .i64 0, .int .i64 0, .int .i64 0, .int .i64 0, .int .i64 0, .int .i64 0, .int .i64 0, .int .i64 0] : List Value), v.oneCell' = true) := by
    intro v hv
    simp only [List.mem_cons, List.not_mem_nil, or_false] at hv
    rcases hv with rfl | rfl | rfl | rfl | rfl | rfl | rfl | rfl | rfl | rfl | rfl | rfl | rfl | rfl | rfl | rfl | rfl | rfl <;> rfl
  have HThq := hide hthq
  clear hR hT hRs hthq HC
  go_upto_region 3 with (first | ((with_reducible refine store_sz 25 18 sz25 _ _ w1.heap.size 0 [.int .i64 17, .string { data := #[] }, .int .i64 0, .int .i64 0, .int .i64 0, .int .i64 0, .string { data := #[] }, .string { data := #[] }, .string { data := #[] }, .int .i64 0, .int .i64 0, .int .i64 0, .int .i64 0, .int .i64 0, .int .i64 0, .int .i64 0, .int .i64 0, .int .i64 0] hl18 HOne0.out ?_ ?_ HThq.out ?_); rfl; rfl) | fail)
  generalize w1.heap.size = q at *
  generalize (w1.alloc (.cells #[.int .i64 0, .string { data := #[] }, .int .i64 0, .int .i64 0, .int .i64 0, .int .i64 0, .string { data := #[] }, .string { data := #[] }, .string { data := #[] }, .int .i64 0, .int .i64 0, .int .i64 0, .int .i64 0, .int .i64 0, .int .i64 0, .int .i64 0, .int .i64 0, .int .i64 0] 25)).setCells q 0 [.int .i64 17, .string { data := #[] }, .int .i64 0, .int .i64 0, .int .i64 0, .int .i64 0, .string { data := #[] }, .string { data := #[] }, .string { data := #[] }, .int .i64 0, .int .i64 0, .int .i64 0, .int .i64 0, .int .i64 0, .int .i64 0, .int .i64 0, .int .i64 0, .int .i64 0] = v0 at *
  clear HThq HOne0 hl18
  have ck := HS0.out.cell (i := 0) rfl
  have ce := HS0.out.rd.c2
  rw [hk1] at ce
  go_wp2_with (first | (go_at_call 26; refine (rk17 _).mono ?_; rintro e w' ⟨rfl, rfl⟩) | fail)
  have HCt := hide (rtxt HS0.out.rd)
  unfold TxtP at HCt
  rw [H1.out] at HCt
  dsimp only at HCt
  refine HCt.out.mono ?_
  rintro e u1 ⟨nm1, rfl, hR, hnm, hT⟩
  have HNm1 := hide hnm
  clear HCt hnm
  have hK1 := HS0.out.call hT hR
  have c1 := hK1.cell (i := 1) rfl
  have f1 := hK1.fz (i := 1) (by simp)
  have HS1 : Hid (Rs w0 (u1.setCell ⟨q, 1, none⟩ (.string nm1)) (rb + 1) a c l s1 q [.int .i64 17, .string nm1, .int .i64 0, .int .i64 0, .int .i64 0, .int .i64 0, .string { data := #[] }, .string { data := #[] }, .string { data := #[] }, .int .i64 0, .int .i64 0, .int .i64 0, .int .i64 0, .int .i64 0, .int .i64 0, .int .i64 0, .int .i64 0, .int .i64 0]) := hK1.put 1 (.string nm1) (by simp)
  have ck1 := HS1.out.cell (i := 0) rfl
  clear hR hT hK1
  try dsimp only
  go_wp2_with fail
  generalize u1.setCell ⟨q, 1, none⟩ (.string nm1) = v1 at *
  clear c1 f1 ck1
  have HCt := hide (rtxt HS1.out.rd)
  unfold TxtP at HCt
  rw [H2.out] at HCt
  dsimp only at HCt
  refine HCt.out.mono ?_
  rintro e u2 ⟨nm2, rfl, hR, hnm, hT⟩
  have HNm2 := hide hnm
  clear HCt hnm
  have hK2 := HS1.out.call hT hR
  have c2 := hK2.cell (i := 6) rfl
  have f2 := hK2.fz (i := 6) (by simp)
  have HS2 : Hid (Rs w0 (u2.setCell ⟨q, 6, none⟩ (.string nm2)) (rb + 1) a c l s2 q [.int .i64 17, .string nm1, .int .i64 0, .int .i64 0, .int .i64 0, .int .i64 0, .string nm2, .string { data := #[] }, .string { data := #[] }, .int .i64 0, .int .i64 0, .int .i64 0, .int .i64 0, .int .i64 0, .int .i64 0, .int .i64 0, .int .i64 0, .int .i64 0]) := hK2.put 6 (.string nm2) (by simp)
  have ck2 := HS2.out.cell (i := 0) rfl
  clear hR hT hK2
  try dsimp only
  go_wp2_with fail
  generalize u2.setCell ⟨q, 6, none⟩ (.string nm2) = v2 at *
  clear c2 f2 ck2
  have HCt := hide (rtxt HS2.out.rd)
  unfold TxtP at HCt
  rw [H3.out] at HCt
  dsimp only at HCt
  refine HCt.out.mono ?_
  rintro e u3 ⟨nm3, rfl, hR, hnm, hT⟩
  have HNm3 := hide hnm
  clear HCt hnm
  have hK3 := HS2.out.call hT hR
  have c3 := hK3.cell (i := 7) rfl
  have f3 := hK3.fz (i := 7) (by simp)
  have HS3 : Hid (Rs w0 (u3.setCell ⟨q, 7, none⟩ (.string nm3)) (rb + 1) a c l s3 q [.int .i64 17, .string nm1, .int .i64 0, .int .i64 0, .int .i64 0, .int .i64 0, .string nm2, .string nm3, .string { data := #[] }, .int .i64 0, .int .i64 0, .int .i64 0, .int .i64 0, .int .i64 0, .int .i64 0, .int .i64 0, .int .i64 0, .int .i64 0]) := hK3.put 7 (.string nm3) (by simp)
  have ck3 := HS3.out.cell (i := 0) rfl
  clear hR hT hK3
  try dsimp only
  go_wp2_with fail
  generalize u3.setCell ⟨q, 7, none⟩ (.string nm3) = v3 at *
  clear c3 f3 ck3
  have HCt := hide (rtxt HS3.out.rd)
  unfold TxtP at HCt
  rw [H4.out] at HCt
  dsimp only at HCt
  refine HCt.out.mono ?_
  rintro e u4 ⟨nm4, rfl, hR, hnm, hT⟩
  have HNm4 := hide hnm
  clear HCt hnm
  have hK4 := HS3.out.call hT hR
  have c4 := hK4.cell (i := 8) rfl
  have f4 := hK4.fz (i := 8) (by simp)
  have HS4 : Hid (Rs w0 (u4.setCell ⟨q, 8, none⟩ (.string nm4)) (rb + 1) a c l s4 q [.int .i64 17, .string nm1, .int .i64 0, .int .i64 0, .int .i64 0, .int .i64 0, .string nm2, .string nm3, .string nm4, .int .i64 0, .int .i64 0, .int .i64 0, .int .i64 0, .int .i64 0, .int .i64 0, .int .i64 0, .int .i64 0, .int .i64 0]) := hK4.put 8 (.string nm4) (by simp)
  have ck4 := HS4.out.cell (i := 0) rfl
  clear hR hT hK4
  try dsimp only
  go_wp2_with fail
  generalize u4.setCell ⟨q, 8, none⟩ (.string nm4) = v4 at *
  clear c4 f4 ck4
  refine (ri64 HS4.out.rd).mono ?_
  rintro e u5 ⟨rfl, hR, hT⟩
  rw [H5.out] at hR ⊢
  have hK5 := HS4.out.call hT hR
  have c5 := hK5.cell (i := 9) rfl
  have f5 := hK5.fz (i := 9) (by simp)
  have HS5 : Hid (Rs w0 (u5.setCell ⟨q, 9, none⟩ (.int .i64 y5)) (rb + 1) a c l s5 q [.int .i64 17, .string nm1, .int .i64 0, .int .i64 0, .int .i64 0, .int .i64 0, .string nm2, .string nm3, .string nm4, .int .i64 y5, .int .i64 0, .int .i64 0, .int .i64 0, .int .i64 0, .int .i64 0, .int .i64 0, .int .i64 0, .int .i64 0]) := hK5.put 9 (.int .i64 y5) (by simp)
  have ck5 := HS5.out.cell (i := 0) rfl
  clear hR hT hK5
  dsimp only
  go_upto_region 35 with fail
  generalize u5.setCell ⟨q, 9, none⟩ (.int .i64 y5) = v5 at *
  clear c5 f5 ck5
  have hl18 : ([.int .i64 17, .string nm1, .int .i64 0, .int .i64 0, .int .i64 0, .int .i64 0, .string nm2, .string nm3, .string nm4, .int .i64 y5, .int .i64 0, .int .i64 0, .int .i64 0, .int .i64 0, .int .i64 0, .int .i64 0, .int .i64 0, .int .i64 0] : List Value).length = 18 := rfl
  have HOne : Hid (∀ v ∈ ([.int .i64 17, .string nm1, .int .i64 0, .int .i64 0, .int .i64 0, .int .i64 0, .string nm2, .string nm3, .string nm4, .int .i64 y5, .int .i64 0, .int .i64 0, .int .i64 0, .int .i64 0, .int .i64 0, .int .i64 0, .int .i64 0, .int .i64 0] : List Value), v.oneCell' = true) := by
    intro v hv
    simp only [List.mem_cons, List.not_mem_nil, or_false] at hv
    rcases hv with rfl | rfl | rfl | rfl | rfl | rfl | rfl | rfl | rfl | rfl | rfl | rfl | rfl | rfl | rfl | rfl | rfl | rfl <;> rfl
  have hrbq : rb < w0.heap.size := by have := HZ.out; omega
  have HT0 : Hid (v5.there rb 0 18) := there_blk HTh.out (HS5.out.tn.block rb hrbq (by simp))
  have HTw : Hid (Turn [] w v5) := HK0.out.ends HS5.out.tn (by have := HW.out; omega)
  have HRq : Hid (v5.rangeAt q 0 [.int .i64 17, .string nm1, .int .i64 0, .int .i64 0, .int .i64 0, .int .i64 0, .string nm2, .string nm3, .string nm4, .int .i64 y5, .int .i64 0, .int .i64 0, .int .i64 0, .int .i64 0, .int .i64 0, .int .i64 0, .int .i64 0, .int .i64 0]) := HS5.out.fl
  have HE := hide (rend HS5.out.rd)
  unfold EndP at HE
  generalize hcs : ([.int .i64 17, .string nm1, .int .i64 0, .int .i64 0, .int .i64 0, .int .i64 0, .string nm2, .string nm3, .string nm4, .int .i64 y5, .int .i64 0, .int .i64 0, .int .i64 0, .int .i64 0, .int .i64 0, .int .i64 0, .int .i64 0, .int .i64 0] : List Value) = cs at *
  clear HS5 HTh HK0
  go_wp2_with fail
  refine HE.out.mono ?_
  rintro e x2 ⟨rfl, hR, n, rfl⟩
  have HE2 := hide (rend hR)
  unfold EndP at HE2
  have HR2 : Hid ((v5.drewN n).rangeAt q 0 cs) := fun j u hj => HRq.out j u hj
  have HT2 : Hid ((v5.drewN n).there rb 0 18) := HT0.out
  have HT2m : Hid (∀ m, ((v5.drewN n).drewN m).there rb 0 18) := fun m => HT0.out
  have HTn : Hid (∀ ds : List Value, Turn [] w ((v5.drewN n).setCells rb 0 ds)) := fun ds => by
    have h1 := HTw.out
    exact (show Turn [] w (v5.drewN n) from ⟨h1.os, h1.tape, h1.output, h1.size, h1.block⟩).setCellsN rb (by have := HW.out; omega) ds 0
  have HTm : Hid (∀ m (ds : List Value), Turn [] w (((v5.drewN n).drewN m).setCells rb 0 ds)) := fun m ds => by
    have h1 := HTw.out
    exact (show Turn [] w ((v5.drewN n).drewN m) from ⟨h1.os, h1.tape, h1.output, h1.size, h1.block⟩).setCellsN rb (by have := HW.out; omega) ds 0
  clear hR HE HRq HT0 HTw
  generalize v5.drewN n = x2 at *
  by_cases he : endS s5 = 0
  · rw [he]
    have HR6 := hide (World.rangeAt_setCells_same x2 rb 0 cs (by rw [hl18]; exact HT2.out))
    go_wp2_with (first | ((with_reducible refine load_sz 25 18 sz25 _ q 0 cs hl18 ?_ HR2.out ?_); rfl) | ((with_reducible refine store_sz 25 18 sz25 _ _ rb 0 cs hl18 HOne.out ?_ ?_ HT2.out ?_); rfl; rfl) | fail)
    refine bodyPost_ret (v := .tuple #[.agg cs.toArray, .int .i64 0]) (results_two sz25 Try.results14 hl18 rfl rfl HR6.out) rfl ⟨?_, HTn.out _⟩
    have hse5 : s5.e = 0 := (end_el he).1
    have hse4 : s4.e = 0 := HK5.out hse5
    have hse3 : s3.e = 0 := HK4.out hse4
    have hse2 : s2.e = 0 := HK3.out hse3
    have hse1 : s1.e = 0 := HK2.out hse2
    have hse0 : s0.e = 0 := HK1.out hse1
    have hx1 := HNm1.out hse1
    have hx2 := HNm2.out hse2
    have hx3 := HNm3.out hse3
    have hx4 := HNm4.out hse4
    rw [← HRV.out (), he, if_pos rfl, ← hcs, hx1, hx2, hx3, hx4]
    rfl
  · have hne2 : ¬ ((endS s5 : Nat) : Int) = 0 := by omega
    have hlz : ([.int .i64 0, .string { data := #[] }, .int .i64 0, .int .i64 0, .int .i64 0, .int .i64 0, .string { data := #[] }, .string { data := #[] }, .string { data := #[] }, .int .i64 0, .int .i64 0, .int .i64 0, .int .i64 0, .int .i64 0, .int .i64 0, .int .i64 0, .int .i64 0, .int .i64 0] : List Value).length = 18 := rfl
    have HOz : Hid (∀ v ∈ ([.int .i64 0, .string { data := #[] }, .int .i64 0, .int .i64 0, .int .i64 0, .int .i64 0, .string { data := #[] }, .string { data := #[] }, .string { data := #[] }, .int .i64 0, .int .i64 0, .int .i64 0, .int .i64 0, .int .i64 0, .int .i64 0, .int .i64 0, .int .i64 0, .int .i64 0] : List Value), v.oneCell' = true) := rqC_one Rq.zero
    have HEn : Hid (endS s5 ≠ 0) := he
    clear he
    generalize endS s5 = E at *
    go_wp2_with fail
    refine HE2.out.mono ?_
    rintro e v9 ⟨rfl, _, m, rfl⟩
    have HT3 := hide (HT2m.out m)
    have HTq := hide (HTm.out m)
    clear HTm HT2m HTn
    generalize x2.drewN m = x3 at *
    have HR6 := hide (World.rangeAt_setCells_same x3 rb 0 [.int .i64 0, .string { data := #[] }, .int .i64 0, .int .i64 0, .int .i64 0, .int .i64 0, .string { data := #[] }, .string { data := #[] }, .string { data := #[] }, .int .i64 0, .int .i64 0, .int .i64 0, .int .i64 0, .int .i64 0, .int .i64 0, .int .i64 0, .int .i64 0, .int .i64 0] HT3.out)
    go_wp2_with (first | ((with_reducible refine store_sz 25 18 sz25 _ _ rb 0 [.int .i64 0, .string { data := #[] }, .int .i64 0, .int .i64 0, .int .i64 0, .int .i64 0, .string { data := #[] }, .string { data := #[] }, .string { data := #[] }, .int .i64 0, .int .i64 0, .int .i64 0, .int .i64 0, .int .i64 0, .int .i64 0, .int .i64 0, .int .i64 0, .int .i64 0] hlz HOz.out ?_ ?_ HT3.out ?_); rfl; rfl) | fail)
    refine bodyPost_ret (v := .tuple #[.agg (rqC Rq.zero).toArray, .int .i64 (E : Nat)]) (results_two sz25 Try.results14 hlz rfl rfl HR6.out) rfl ⟨?_, HTq.out _⟩
    rw [← HRV.out (), if_neg HEn.out]

end Go.Proofs.Ytkbboingeacgjaa
