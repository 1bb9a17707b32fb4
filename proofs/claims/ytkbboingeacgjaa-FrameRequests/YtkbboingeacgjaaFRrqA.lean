/-
  ParseRequest of the reference, walked.
-/
import Derived.Test.YtkbboingeacgjaaFRk
namespace Go.Proofs.Ytkbboingeacgjaa
open Go.RowKit

set_option maxRecDepth 100000 in
set_option maxHeartbeats 6400000 in
theorem rparse5 (w : World) (a : Option Addr) (c : Nat) (l : List Nat) (hB : BytesAt w a l) (hc : l.length ≤ c) (hl : l.length ≤ 1000000) (hx : ∀ x ∈ l, x < 256) (hk : (countS .pr ⟨l, 0⟩ 0).1.e = 0 ∧ (countS .pr ⟨l, 0⟩ 0).2 = 5) :
    Calls Try.prog 14 #[.slice a l.length c] w fun r w' => PrqP w (reqK rfC (countS .pr ⟨l, 0⟩ 0).1 Rq.zero 5).1 (reqK rfC (countS .pr ⟨l, 0⟩ 0).1 Rq.zero 5).2 r w' := by
  have hT0 : Turn [] w (w.alloc (.cells (rqC Rq.zero).toArray 25)) := (Turn.refl [] w).alloc _
  have hz0 : (w.alloc (.cells (rqC Rq.zero).toArray 25)).heap.size = w.heap.size + 1 := by simp
  have hF := rdr_new (w := w.alloc (.cells (rqC Rq.zero).toArray 25)) (hB.turn hT0 (by simp)) hc hl hx
  rw [hz0] at hF
  have hz1 : ((w.alloc (.cells (rqC Rq.zero).toArray 25)).alloc (.cells #[.slice a l.length c, .int .i64 0, .int .i64 0] 82)).heap.size = w.heap.size + 2 := by simp
  have hK0 : Turn [] w ((w.alloc (.cells (rqC Rq.zero).toArray 25)).alloc (.cells #[.slice a l.length c, .int .i64 0, .int .i64 0] 82)) := hT0.alloc _
  have hTh : ((w.alloc (.cells (rqC Rq.zero).toArray 25)).alloc (.cells #[.slice a l.length c, .int .i64 0, .int .i64 0] 82)).there w.heap.size 0 18 := there_blk (there_new2 w (rqC Rq.zero).toArray 25) (Below.heap_alloc _ _ _ (by rw [hz0]; omega))
  have HAd : Hid (∀ x, l ≠ [] → a = some x → x.block < w.heap.size + 2) := fun x h e => by have := hB.lt x h e; omega
  have HC := hide (ru8 hF)
  have HK0 := hide hK0
  have HZ := hide hz1
  have HTh := hide hTh
  clear hF hK0 hz1 hTh hT0 hz0 hB hx
  unfold U8P at HC
  unfold PrqP
  obtain ⟨⟨s0, k0⟩, h0⟩ : ∃ T, countS .pr ⟨l, 0⟩ 0 = T := ⟨_, rfl⟩
  rw [h0] at hk HC ⊢
  obtain ⟨hk1, hk2⟩ := hk
  dsimp only at hk1 hk2 HC ⊢
  subst hk2
  obtain ⟨⟨s1, y1⟩, h1⟩ : ∃ T, textS .pr s0 ByteArray.empty = T := ⟨_, rfl⟩
  have hS : reqK rfC s0 Rq.zero 5 = (s1, { Rq.zero with k := 5, key := y1 }) := by
    unfold reqK rfC
    simp only [h1]
    rfl
  rw [hS]
  dsimp only
  have HK1 : Hid (s1.e = 0 → s0.e = 0) := fun (h : s1.e = 0) => text_e (z := ByteArray.empty) (by rw [h1]; exact h)
  have H1 := hide h1
  clear hS h0 h1
  obtain ⟨RV, hRV⟩ : ∃ R, Value.tuple #[.agg (rqC (if endS s1 = 0 then { Rq.zero with k := 5, key := y1 } else Rq.zero)).toArray, .int .i64 (endS s1 : Nat)] = R := ⟨_, rfl⟩
  rw [hRV]
  have HRV := hide (fun (_ : Unit) => hRV)
  clear hRV
  generalize hrb : w.heap.size = rb at *
  have HW := hide hrb
  go_enter Try.func14, Try.ntmps14
  go_wp2_with fail
  clear hrb
  change Calls Try.prog _ _ ((w.alloc (.cells (rqC Rq.zero).toArray 25)).alloc (.cells #[.slice a l.length c, .int .i64 0, .int .i64 0] 82)) _
  generalize (w.alloc (.cells (rqC Rq.zero).toArray 25)).alloc (.cells #[.slice a l.length c, .int .i64 0, .int .i64 0] 82) = w0 at *
  refine HC.out.mono ?_
  rintro e w1 ⟨rfl, hR, hT⟩
  have hthq : (w1.alloc (.cells #[.int .i64 0, .string { data := #[] }, .int .i64 0, .int .i64 0, .int .i64 0, .int .i64 0, .string { data := #[] }, .string { data := #[] }, .string { data := #[] }, .int .i64 0, .int .i64 0, .int .i64 0, .int .i64 0, .int .i64 0, .int .i64 0, .int .i64 0, .int .i64 0, .int .i64 0] 25)).there w1.heap.size 0 18 := there_new2 w1 #[.int .i64 0, .string { data := #[] }, .int .i64 0, .int .i64 0, .int .i64 0, .int .i64 0, .string { data := #[] }, .string { data := #[] }, .string { data := #[] }, .int .i64 0, .int .i64 0, .int .i64 0, .int .i64 0, .int .i64 0, .int .i64 0, .int .i64 0, .int .i64 0, .int .i64 0] 25
  have hRs := (Rs.new hR hT (by have := HZ.out; omega) (fun x hx e => by have := HAd.out x hx e; have := HZ.out; omega) #[.int .i64 0, .string { data := #[] }, .int .i64 0, .int .i64 0, .int .i64 0, .int .i64 0, .string { data := #[] }, .string { data := #[] }, .string { data := #[] }, .int .i64 0, .int .i64 0, .int .i64 0, .int .i64 0, .int .i64 0, .int .i64 0, .int .i64 0, .int .i64 0, .int .i64 0] 25).puts 0 [.int .i64 5, .string { data := #[] }, .int .i64 0, .int .i64 0, .int .i64 0, .int .i64 0, .string { data := #[] }, .string { data := #[] }, .string { data := #[] }, .int .i64 0, .int .i64 0, .int .i64 0, .int .i64 0, .int .i64 0, .int .i64 0, .int .i64 0, .int .i64 0, .int .i64 0] (by simp)
  have HS0 : Hid (Rs w0 ((w1.alloc (.cells #[.int .i64 0, .string { data := #[] }, .int .i64 0, .int .i64 0, .int .i64 0, .int .i64 0, .string { data := #[] }, .string { data := #[] }, .string { data := #[] }, .int .i64 0, .int .i64 0, .int .i64 0, .int .i64 0, .int .i64 0, .int .i64 0, .int .i64 0, .int .i64 0, .int .i64 0] 25)).setCells w1.heap.size 0 [.int .i64 5, .string { data := #[] }, .int .i64 0, .int .i64 0, .int .i64 0, .int .i64 0, .string { data := #[] }, .string { data := #[] }, .string { data := #[] }, .int .i64 0, .int .i64 0, .int .i64 0, .int .i64 0, .int .i64 0, .int .i64 0, .int .i64 0, .int .i64 0, .int .i64 0]) (rb + 1) a c l s0 w1.heap.size [.int .i64 5, .string { data := #[] }, .int .i64 0, .int .i64 0, .int .i64 0, .int .i64 0, .string { data := #[] }, .string { data := #[] }, .string { data := #[] }, .int .i64 0, .int .i64 0, .int .i64 0, .int .i64 0, .int .i64 0, .int .i64 0, .int .i64 0, .int .i64 0, .int .i64 0]) := hRs
  have hl18 : ([.int .i64 5, .string { data := #[] }, .int .i64 0, .int .i64 0, .int .i64 0, .int .i64 0, .string { data := #[] }, .string { data := #[] }, .string { data := #[] }, .int .i64 0, .int .i64 0, .int .i64 0, .int .i64 0, .int .i64 0, .int .i64 0, .int .i64 0, .int .i64 0, .int .i64 0] : List Value).length = 18 := rfl
  have HOne0 : Hid (∀ v ∈ ([.int .i64 5, .string { data := #[] }, .int .i64 0, .int .i64 0, .int .i64 0, .int .i64 0, .string { data := #[] }, .string { data := #[] }, .string { data := #[] }, .int .i64 0, .int .i64 0, .int .i64 0, .int .i64 0, .int .i64 0, .int .i64 0, .int .i64 0, .int .i64 0, .int .i64 0] : List Value), v.oneCell' = true) := by
    intro v hv
    simp only [List.mem_cons, List.not_mem_nil, or_false] at hv
    rcases hv with rfl | rfl | rfl | rfl | rfl | rfl | rfl | rfl | rfl | rfl | rfl | rfl | rfl | rfl | rfl | rfl | rfl | rfl <;> rfl
  have HThq := hide hthq
  clear hR hT hRs hthq HC
  go_upto_region 3 with (first | ((with_reducible refine store_sz 25 18 sz25 _ _ w1.heap.size 0 [.int .i64 5, .string { data := #[] }, .int .i64 0, .int .i64 0, .int .i64 0, .int .i64 0, .string { data := #[] }, .string { data := #[] }, .string { data := #[] }, .int .i64 0, .int .i64 0, .int .i64 0, .int .i64 0, .int .i64 0, .int .i64 0, .int .i64 0, .int .i64 0, .int .i64 0] hl18 HOne0.out ?_ ?_ HThq.out ?_); rfl; rfl) | fail)
  generalize w1.heap.size = q at *
  generalize (w1.alloc (.cells #[.int .i64 0, .string { data := #[] }, .int .i64 0, .int .i64 0, .int .i64 0, .int .i64 0, .string { data := #[] }, .string { data := #[] }, .string { data := #[] }, .int .i64 0, .int .i64 0, .int .i64 0, .int .i64 0, .int .i64 0, .int .i64 0, .int .i64 0, .int .i64 0, .int .i64 0] 25)).setCells q 0 [.int .i64 5, .string { data := #[] }, .int .i64 0, .int .i64 0, .int .i64 0, .int .i64 0, .string { data := #[] }, .string { data := #[] }, .string { data := #[] }, .int .i64 0, .int .i64 0, .int .i64 0, .int .i64 0, .int .i64 0, .int .i64 0, .int .i64 0, .int .i64 0, .int .i64 0] = v0 at *
  clear HThq HOne0 hl18
  have ck := HS0.out.cell (i := 0) rfl
  have ce := HS0.out.rd.c2
  rw [hk1] at ce
  go_wp2_with (first | (go_at_call 26; refine (rk5 _).mono ?_; rintro e w' ⟨rfl, rfl⟩) | fail)
  have HCt := hide (rtxt HS0.out.rd)
  unfold TxtP at HCt
  rw [H1.out] at HCt
  dsimp only at HCt
  refine HCt.out.mono ?_
  rintro e u1 ⟨nm1, rfl, hR, hnm, hT⟩
  have HNm1 := hide hnm
  clear HCt hnm
  have hK1 := HS0.out.call hT hR
  have c1 := hK1.cell (i := 1) rfl
  have f1 := hK1.fz (i := 1) (by simp)
  have HS1 : Hid (Rs w0 (u1.setCell ⟨q, 1, none⟩ (.string nm1)) (rb + 1) a c l s1 q [.int .i64 5, .string nm1, .int .i64 0, .int .i64 0, .int .i64 0, .int .i64 0, .string { data := #[] }, .string { data := #[] }, .string { data := #[] }, .int .i64 0, .int .i64 0, .int .i64 0, .int .i64 0, .int .i64 0, .int .i64 0, .int .i64 0, .int .i64 0, .int .i64 0]) := hK1.put 1 (.string nm1) (by simp)
  have ck1 := HS1.out.cell (i := 0) rfl
  clear hR hT hK1
  try dsimp only
  go_upto_region 35 with fail
  generalize u1.setCell ⟨q, 1, none⟩ (.string nm1) = v1 at *
  clear c1 f1 ck1
  have hl18 : ([.int .i64 5, .string nm1, .int .i64 0, .int .i64 0, .int .i64 0, .int .i64 0, .string { data := #[] }, .string { data := #[] }, .string { data := #[] }, .int .i64 0, .int .i64 0, .int .i64 0, .int .i64 0, .int .i64 0, .int .i64 0, .int .i64 0, .int .i64 0, .int .i64 0] : List Value).length = 18 := rfl
  have HOne : Hid (∀ v ∈ ([.int .i64 5, .string nm1, .int .i64 0, .int .i64 0, .int .i64 0, .int .i64 0, .string { data := #[] }, .string { data := #[] }, .string { data := #[] }, .int .i64 0, .int .i64 0, .int .i64 0, .int .i64 0, .int .i64 0, .int .i64 0, .int .i64 0, .int .i64 0, .int .i64 0] : List Value), v.oneCell' = true) := by
    intro v hv
    simp only [List.mem_cons, List.not_mem_nil, or_false] at hv
    rcases hv with rfl | rfl | rfl | rfl | rfl | rfl | rfl | rfl | rfl | rfl | rfl | rfl | rfl | rfl | rfl | rfl | rfl | rfl <;> rfl
  have hrbq : rb < w0.heap.size := by have := HZ.out; omega
  have HT0 : Hid (v1.there rb 0 18) := there_blk HTh.out (HS1.out.tn.block rb hrbq (by simp))
  have HTw : Hid (Turn [] w v1) := HK0.out.ends HS1.out.tn (by have := HW.out; omega)
  have HRq : Hid (v1.rangeAt q 0 [.int .i64 5, .string nm1, .int .i64 0, .int .i64 0, .int .i64 0, .int .i64 0, .string { data := #[] }, .string { data := #[] }, .string { data := #[] }, .int .i64 0, .int .i64 0, .int .i64 0, .int .i64 0, .int .i64 0, .int .i64 0, .int .i64 0, .int .i64 0, .int .i64 0]) := HS1.out.fl
  have HE := hide (rend HS1.out.rd)
  unfold EndP at HE
  generalize hcs : ([.int .i64 5, .string nm1, .int .i64 0, .int .i64 0, .int .i64 0, .int .i64 0, .string { data := #[] }, .string { data := #[] }, .string { data := #[] }, .int .i64 0, .int .i64 0, .int .i64 0, .int .i64 0, .int .i64 0, .int .i64 0, .int .i64 0, .int .i64 0, .int .i64 0] : List Value) = cs at *
  clear HS1 HTh HK0
  go_wp2_with fail
  refine HE.out.mono ?_
  rintro e x2 ⟨rfl, hR, n, rfl⟩
  have HE2 := hide (rend hR)
  unfold EndP at HE2
  have HR2 : Hid ((v1.drewN n).rangeAt q 0 cs) := fun j u hj => HRq.out j u hj
  have HT2 : Hid ((v1.drewN n).there rb 0 18) := HT0.out
  have HT2m : Hid (∀ m, ((v1.drewN n).drewN m).there rb 0 18) := fun m => HT0.out
  have HTn : Hid (∀ ds : List Value, Turn [] w ((v1.drewN n).setCells rb 0 ds)) := fun ds => by
    have h1 := HTw.out
    exact (show Turn [] w (v1.drewN n) from ⟨h1.os, h1.tape, h1.output, h1.size, h1.block⟩).setCellsN rb (by have := HW.out; omega) ds 0
  have HTm : Hid (∀ m (ds : List Value), Turn [] w (((v1.drewN n).drewN m).setCells rb 0 ds)) := fun m ds => by
    have h1 := HTw.out
    exact (show Turn [] w ((v1.drewN n).drewN m) from ⟨h1.os, h1.tape, h1.output, h1.size, h1.block⟩).setCellsN rb (by have := HW.out; omega) ds 0
  clear hR HE HRq HT0 HTw
  generalize v1.drewN n = x2 at *
  by_cases he : endS s1 = 0
  · rw [he]
    have HR6 := hide (World.rangeAt_setCells_same x2 rb 0 cs (by rw [hl18]; exact HT2.out))
    go_wp2_with (first | ((with_reducible refine load_sz 25 18 sz25 _ q 0 cs hl18 ?_ HR2.out ?_); rfl) | ((with_reducible refine store_sz 25 18 sz25 _ _ rb 0 cs hl18 HOne.out ?_ ?_ HT2.out ?_); rfl; rfl) | fail)
    refine bodyPost_ret (v := .tuple #[.agg cs.toArray, .int .i64 0]) (results_two sz25 Try.results14 hl18 rfl rfl HR6.out) rfl ⟨?_, HTn.out _⟩
    have hse1 : s1.e = 0 := (end_el he).1
    have hse0 : s0.e = 0 := HK1.out hse1
    have hx1 := HNm1.out hse1
    rw [← HRV.out (), he, if_pos rfl, ← hcs, hx1]
    rfl
  · have hne2 : ¬ ((endS s1 : Nat) : Int) = 0 := by omega
    have hlz : ([.int .i64 0, .string { data := #[] }, .int .i64 0, .int .i64 0, .int .i64 0, .int .i64 0, .string { data := #[] }, .string { data := #[] }, .string { data := #[] }, .int .i64 0, .int .i64 0, .int .i64 0, .int .i64 0, .int .i64 0, .int .i64 0, .int .i64 0, .int .i64 0, .int .i64 0] : List Value).length = 18 := rfl
    have HOz : Hid (∀ v ∈ ([.int .i64 0, .string { data := #[] }, .int .i64 0, .int .i64 0, .int .i64 0, .int .i64 0, .string { data := #[] }, .string { data := #[] }, .string { data := #[] }, .int .i64 0, .int .i64 0, .int .i64 0, .int .i64 0, .int .i64 0, .int .i64 0, .int .i64 0, .int .i64 0, .int .i64 0] : List Value), v.oneCell' = true) := rqC_one Rq.zero
    have HEn : Hid (endS s1 ≠ 0) := he
    clear he
    generalize endS s1 = E at *
    go_wp2_with fail
    refine HE2.out.mono ?_
    rintro e v9 ⟨rfl, _, m, rfl⟩
    have HT3 := hide (HT2m.out m)
    have HTq := hide (HTm.out m)
    clear HTm HT2m HTn
    generalize x2.drewN m = x3 at *
    have HR6 := hide (World.rangeAt_setCells_same x3 rb 0 [.int .i64 0, .string { data := #[] }, .int .i64 0, .int .i64 0, .int .i64 0, .int .i64 0, .string { data := #[] }, .string { data := #[] }, .string { data := #[] }, .int .i64 0, .int .i64 0, .int .i64 0, .int .i64 0, .int .i64 0, .int .i64 0, .int .i64 0, .int .i64 0, .int .i64 0] HT3.out)
    go_wp2_with (first | ((with_reducible refine store_sz 25 18 sz25 _ _ rb 0 [.int .i64 0, .string { data := #[] }, .int .i64 0, .int .i64 0, .int .i64 0, .int .i64 0, .string { data := #[] }, .string { data := #[] }, .string { data := #[] }, .int .i64 0, .int .i64 0, .int .i64 0, .int .i64 0, .int .i64 0, .int .i64 0, .int .i64 0, .int .i64 0, .int .i64 0] hlz HOz.out ?_ ?_ HT3.out ?_); rfl; rfl) | fail)
    refine bodyPost_ret (v := .tuple #[.agg (rqC Rq.zero).toArray, .int .i64 (E : Nat)]) (results_two sz25 Try.results14 hlz rfl rfl HR6.out) rfl ⟨?_, HTq.out _⟩
    rw [← HRV.out (), if_neg HEn.out]

set_option maxRecDepth 100000 in
set_option maxHeartbeats 6400000 in
theorem rparse1 (w : World) (a : Option Addr) (c : Nat) (l : List Nat) (hB : BytesAt w a l) (hc : l.length ≤ c) (hl : l.length ≤ 1000000) (hx : ∀ x ∈ l, x < 256) (hk : (countS .pr ⟨l, 0⟩ 0).1.e = 0 ∧ (countS .pr ⟨l, 0⟩ 0).2 = 1) :
    Calls Try.prog 14 #[.slice a l.length c] w fun r w' => PrqP w (reqK rfC (countS .pr ⟨l, 0⟩ 0).1 Rq.zero 1).1 (reqK rfC (countS .pr ⟨l, 0⟩ 0).1 Rq.zero 1).2 r w' := by
  have hT0 : Turn [] w (w.alloc (.cells (rqC Rq.zero).toArray 25)) := (Turn.refl [] w).alloc _
  have hz0 : (w.alloc (.cells (rqC Rq.zero).toArray 25)).heap.size = w.heap.size + 1 := by simp
  have hF := rdr_new (w := w.alloc (.cells (rqC Rq.zero).toArray 25)) (hB.turn hT0 (by simp)) hc hl hx
  rw [hz0] at hF
  have hz1 : ((w.alloc (.cells (rqC Rq.zero).toArray 25)).alloc (.cells #[.slice a l.length c, .int .i64 0, .int .i64 0] 82)).heap.size = w.heap.size + 2 := by simp
  have hK0 : Turn [] w ((w.alloc (.cells (rqC Rq.zero).toArray 25)).alloc (.cells #[.slice a l.length c, .int .i64 0, .int .i64 0] 82)) := hT0.alloc _
  have hTh : ((w.alloc (.cells (rqC Rq.zero).toArray 25)).alloc (.cells #[.slice a l.length c, .int .i64 0, .int .i64 0] 82)).there w.heap.size 0 18 := there_blk (there_new2 w (rqC Rq.zero).toArray 25) (Below.heap_alloc _ _ _ (by rw [hz0]; omega))
  have HAd : Hid (∀ x, l ≠ [] → a = some x → x.block < w.heap.size + 2) := fun x h e => by have := hB.lt x h e; omega
  have HC := hide (ru8 hF)
  have HK0 := hide hK0
  have HZ := hide hz1
  have HTh := hide hTh
  clear hF hK0 hz1 hTh hT0 hz0 hB hx
  unfold U8P at HC
  unfold PrqP
  obtain ⟨⟨s0, k0⟩, h0⟩ : ∃ T, countS .pr ⟨l, 0⟩ 0 = T := ⟨_, rfl⟩
  rw [h0] at hk HC ⊢
  obtain ⟨hk1, hk2⟩ := hk
  dsimp only at hk1 hk2 HC ⊢
  subst hk2
  obtain ⟨⟨s1, y1⟩, h1⟩ : ∃ T, textS .pr s0 ByteArray.empty = T := ⟨_, rfl⟩
  obtain ⟨⟨s2, y2⟩, h2⟩ : ∃ T, numS .pr s1 0 = T := ⟨_, rfl⟩
  obtain ⟨⟨s3, y3⟩, h3⟩ : ∃ T, numS .pr s2 0 = T := ⟨_, rfl⟩
  obtain ⟨⟨s4, y4⟩, h4⟩ : ∃ T, numS .pr s3 0 = T := ⟨_, rfl⟩
  have hS : reqK rfC s0 Rq.zero 1 = (s4, { Rq.zero with k := 1, key := y1, id := y2, n := y3, ttl := y4 }) := by
    unfold reqK rfC
    simp only [h1, h2, h3, h4]
    rfl
  rw [hS]
  dsimp only
  have HK1 : Hid (s1.e = 0 → s0.e = 0) := fun (h : s1.e = 0) => text_e (z := ByteArray.empty) (by rw [h1]; exact h)
  have HK2 : Hid (s2.e = 0 → s1.e = 0) := fun (h : s2.e = 0) => (Classical.byContradiction fun k => by have h9 := numS_fault k 0; rw [h2] at h9; dsimp only at h9; rw [h9] at h; exact k h)
  have HK3 : Hid (s3.e = 0 → s2.e = 0) := fun (h : s3.e = 0) => (Classical.byContradiction fun k => by have h9 := numS_fault k 0; rw [h3] at h9; dsimp only at h9; rw [h9] at h; exact k h)
  have HK4 : Hid (s4.e = 0 → s3.e = 0) := fun (h : s4.e = 0) => (Classical.byContradiction fun k => by have h9 := numS_fault k 0; rw [h4] at h9; dsimp only at h9; rw [h9] at h; exact k h)
  have H1 := hide h1
  have H2 := hide h2
  have H3 := hide h3
  have H4 := hide h4
  clear hS h0 h1 h2 h3 h4
  obtain ⟨RV, hRV⟩ : ∃ R, Value.tuple #[.agg (rqC (if endS s4 = 0 then { Rq.zero with k := 1, key := y1, id := y2, n := y3, ttl := y4 } else Rq.zero)).toArray, .int .i64 (endS s4 : Nat)] = R := ⟨_, rfl⟩
  rw [hRV]
  have HRV := hide (fun (_ : Unit) => hRV)
  clear hRV
  generalize hrb : w.heap.size = rb at *
  have HW := hide hrb
  go_enter Try.func14, Try.ntmps14
  go_wp2_with fail
  clear hrb
  change Calls Try.prog _ _ ((w.alloc (.cells (rqC Rq.zero).toArray 25)).alloc (.cells #[.slice a l.length c, .int .i64 0, .int .i64 0] 82)) _
  generalize (w.alloc (.cells (rqC Rq.zero).toArray 25)).alloc (.cells #[.slice a l.length c, .int .i64 0, .int .i64 0] 82) = w0 at *
  refine HC.out.mono ?_
  rintro e w1 ⟨rfl, hR, hT⟩
  have hthq : (w1.alloc (.cells #[.int .i64 0, .string { data := #[] }, .int .i64 0, .int .i64 0, .int .i64 0, .int .i64 0, .string { data := #[] }, .string { data := #[] }, .string { data := #[] }, .int .i64 0, .int .i64 0, .int .i64 0, .int .i64 0, .int .i64 0, .int .i64 0, .int .i64 0, .int .i64 0, .int .i64 0] 25)).there w1.heap.size 0 18 := there_new2 w1 #[.int .i64 0, .string { data := #[] }, .int .i64 0, .int .i64 0, .int .i64 0, .int .i64 0, .string { data := #[] }, .string { data := #[] }, .string { data := #[] }, .int .i64 0, .int .i64 0, .int .i64 0, .int .i64 0, .int .i64 0, .int .i64 0, .int .i64 0, .int .i64 0, .int .i64 0] 25
  have hRs := (Rs.new hR hT (by have := HZ.out; omega) (fun x hx e => by have := HAd.out x hx e; have := HZ.out; omega) #[.int .i64 0, .string { data := #[] }, .int .i64 0, .int .i64 0, .int .i64 0, .int .i64 0, .string { data := #[] }, .string { data := #[] }, .string { data := #[] }, .int .i64 0, .int .i64 0, .int .i64 0, .int .i64 0, .int .i64 0, .int .i64 0, .int .i64 0, .int .i64 0, .int .i64 0] 25).puts 0 [.int .i64 1, .string { data := #[] }, .int .i64 0, .int .i64 0, .int .i64 0, .int .i64 0, .string { data := #[] }, .string { data := #[] }, .string { data := #[] }, .int .i64 0, .int .i64 0, .int .i64 0, .int .i64 0, .int .i64 0, .int .i64 0, .int .i64 0, .int .i64 0, .int .i64 0] (by simp)
  have HS0 : Hid (Rs w0 ((w1.alloc (.cells #[.int .i64 0, .string { data := #[] }, .int .i64 0, .int .i64 0, .int .i64 0, .int .i64 0, .string { data := #[] }, .string { data := #[] }, .string { data := #[] }, .int .i64 0, .int .i64 0, .int .i64 0, .int .i64 0, .int .i64 0, .int .i64 0, .int .i64 0, .int .i64 0, .int .i64 0] 25)).setCells w1.heap.size 0 [.int .i64 1, .string { data := #[] }, .int .i64 0, .int .i64 0, .int .i64 0, .int .i64 0, .string { data := #[] }, .string { data := #[] }, .string { data := #[] }, .int .i64 0, .int .i64 0, .int .i64 0, .int .i64 0, .int .i64 0, .int .i64 0, .int .i64 0, .int .i64 0, .int .i64 0]) (rb + 1) a c l s0 w1.heap.size [.int .i64 1, .string { data := #[] }, .int .i64 0, .int .i64 0, .int .i64 0, .int .i64 0, .string { data := #[] }, .string { data := #[] }, .string { data := #[] }, .int .i64 0, .int .i64 0, .int .i64 0, .int .i64 0, .int .i64 0, .int .i64 0, .int .i64 0, .int .i64 0, .int .i64 0]) := hRs
  have hl18 : ([.int .i64 1, .string { data := #[] }, .int .i64 0, .int .i64 0, .int .i64 0, .int .i64 0, .string { data := #[] }, .string { data := #[] }, .string { data := #[] }, .int .i64 0, .int .i64 0, .int .i64 0, .int .i64 0, .int .i64 0, .int .i64 0, .int .i64 0, .int .i64 0, .int .i64 0] : List Value).length = 18 := rfl
  have HOne0 : Hid (∀ v ∈ ([.int .i64 1, .string { data := #[] }, .int .i64 0, .int .i64 0, .int .i64 0, .int .i64 0, .string { data := #[] }, .string { data := #[] }, .string { data := #[] }, .int .i64 0, .int .i64 0, .int .i64 0, .int .i64 0, .int .i64 0, .int .i64 0, .int .i64 0, .int .i64 0, .int .i64 0] : List Value), v.oneCell' = true) := by
    intro v hv
    simp only [List.mem_cons, List.not_mem_nil, or_false] at hv
    rcases hv with rfl | rfl | rfl | rfl | rfl | rfl | rfl | rfl | rfl | rfl | rfl | rfl | rfl | rfl | rfl | rfl | rfl | rfl <;> rfl
  have HThq := hide hthq
  clear hR hT hRs hthq HC
  go_upto_region 3 with (first | ((with_reducible refine store_sz 25 18 sz25 _ _ w1.heap.size 0 [.int .i64 1, .string { data := #[] }, .int .i64 0, .int .i64 0, .int .i64 0, .int .i64 0, .string { data := #[] }, .string { data := #[] }, .string { data := #[] }, .int .i64 0, .int .i64 0, .int .i64 0, .int .i64 0, .int .i64 0, .int .i64 0, .int .i64 0, .int .i64 0, .int .i64 0] hl18 HOne0.out ?_ ?_ HThq.out ?_); rfl; rfl) | fail)
  generalize w1.heap.size = q at *
  generalize (w1.alloc (.cells #[.int .i64 0, .string { data := #[] }, .int .i64 0, .int .i64 0, .int .i64 0, .int .i64 0, .string { data := #[] }, .string { data := #[] }, .string { data := #[] }, .int .i64 0, .int .i64 0, .int .i64 0, .int .i64 0, .int .i64 0, .int .i64 0, .int .i64 0, .int .i64 0, .int .i64 0] 25)).setCells q 0 [.int .i64 1, .string { data := #[] }, .int .i64 0, .int .i64 0, .int .i64 0, .int .i64 0, .string { data := #[] }, .string { data := #[] }, .string { data := #[] }, .int .i64 0, .int .i64 0, .int .i64 0, .int .i64 0, .int .i64 0, .int .i64 0, .int .i64 0, .int .i64 0, .int .i64 0] = v0 at *
  clear HThq HOne0 hl18
  have ck := HS0.out.cell (i := 0) rfl
  have ce := HS0.out.rd.c2
  rw [hk1] at ce
  go_wp2_with (first | (go_at_call 26; refine (rk1 _).mono ?_; rintro e w' ⟨rfl, rfl⟩) | fail)
  have HCt := hide (rtxt HS0.out.rd)
  unfold TxtP at HCt
  rw [H1.out] at HCt
  dsimp only at HCt
  refine HCt.out.mono ?_
  rintro e u1 ⟨nm1, rfl, hR, hnm, hT⟩
  have HNm1 := hide hnm
  clear HCt hnm
  have hK1 := HS0.out.call hT hR
  have c1 := hK1.cell (i := 1) rfl
  have f1 := hK1.fz (i := 1) (by simp)
  have HS1 : Hid (Rs w0 (u1.setCell ⟨q, 1, none⟩ (.string nm1)) (rb + 1) a c l s1 q [.int .i64 1, .string nm1, .int .i64 0, .int .i64 0, .int .i64 0, .int .i64 0, .string { data := #[] }, .string { data := #[] }, .string { data := #[] }, .int .i64 0, .int .i64 0, .int .i64 0, .int .i64 0, .int .i64 0, .int .i64 0, .int .i64 0, .int .i64 0, .int .i64 0]) := hK1.put 1 (.string nm1) (by simp)
  have ck1 := HS1.out.cell (i := 0) rfl
  clear hR hT hK1
  try dsimp only
  go_wp2_with fail
  generalize u1.setCell ⟨q, 1, none⟩ (.string nm1) = v1 at *
  clear c1 f1 ck1
  refine (ri64 HS1.out.rd).mono ?_
  rintro e u2 ⟨rfl, hR, hT⟩
  rw [H2.out] at hR ⊢
  have hK2 := HS1.out.call hT hR
  have c2 := hK2.cell (i := 2) rfl
  have f2 := hK2.fz (i := 2) (by simp)
  have HS2 : Hid (Rs w0 (u2.setCell ⟨q, 2, none⟩ (.int .i64 y2)) (rb + 1) a c l s2 q [.int .i64 1, .string nm1, .int .i64 y2, .int .i64 0, .int .i64 0, .int .i64 0, .string { data := #[] }, .string { data := #[] }, .string { data := #[] }, .int .i64 0, .int .i64 0, .int .i64 0, .int .i64 0, .int .i64 0, .int .i64 0, .int .i64 0, .int .i64 0, .int .i64 0]) := hK2.put 2 (.int .i64 y2) (by simp)
  have ck2 := HS2.out.cell (i := 0) rfl
  clear hR hT hK2
  dsimp only
  go_wp2_with fail
  generalize u2.setCell ⟨q, 2, none⟩ (.int .i64 y2) = v2 at *
  clear c2 f2 ck2
  refine (ri64 HS2.out.rd).mono ?_
  rintro e u3 ⟨rfl, hR, hT⟩
  rw [H3.out] at hR ⊢
  have hK3 := HS2.out.call hT hR
  have c3 := hK3.cell (i := 3) rfl
  have f3 := hK3.fz (i := 3) (by simp)
  have HS3 : Hid (Rs w0 (u3.setCell ⟨q, 3, none⟩ (.int .i64 y3)) (rb + 1) a c l s3 q [.int .i64 1, .string nm1, .int .i64 y2, .int .i64 y3, .int .i64 0, .int .i64 0, .string { data := #[] }, .string { data := #[] }, .string { data := #[] }, .int .i64 0, .int .i64 0, .int .i64 0, .int .i64 0, .int .i64 0, .int .i64 0, .int .i64 0, .int .i64 0, .int .i64 0]) := hK3.put 3 (.int .i64 y3) (by simp)
  have ck3 := HS3.out.cell (i := 0) rfl
  clear hR hT hK3
  dsimp only
  go_wp2_with fail
  generalize u3.setCell ⟨q, 3, none⟩ (.int .i64 y3) = v3 at *
  clear c3 f3 ck3
  refine (ri64 HS3.out.rd).mono ?_
  rintro e u4 ⟨rfl, hR, hT⟩
  rw [H4.out] at hR ⊢
  have hK4 := HS3.out.call hT hR
  have c4 := hK4.cell (i := 4) rfl
  have f4 := hK4.fz (i := 4) (by simp)
  have HS4 : Hid (Rs w0 (u4.setCell ⟨q, 4, none⟩ (.int .i64 y4)) (rb + 1) a c l s4 q [.int .i64 1, .string nm1, .int .i64 y2, .int .i64 y3, .int .i64 y4, .int .i64 0, .string { data := #[] }, .string { data := #[] }, .string { data := #[] }, .int .i64 0, .int .i64 0, .int .i64 0, .int .i64 0, .int .i64 0, .int .i64 0, .int .i64 0, .int .i64 0, .int .i64 0]) := hK4.put 4 (.int .i64 y4) (by simp)
  have ck4 := HS4.out.cell (i := 0) rfl
  clear hR hT hK4
  dsimp only
  go_upto_region 35 with fail
  generalize u4.setCell ⟨q, 4, none⟩ (.int .i64 y4) = v4 at *
  clear c4 f4 ck4
  have hl18 : ([.int .i64 1, .string nm1, .int .i64 y2, .int .i64 y3, .int .i64 y4, .int .i64 0, .string { data := #[] }, .string { data := #[] }, .string { data := #[] }, .int .i64 0, .int .i64 0, .int .i64 0, .int .i64 0, .int .i64 0, .int .i64 0, .int .i64 0, .int .i64 0, .int .i64 0] : List Value).length = 18 := rfl
  have HOne : Hid (∀ v ∈ ([.int .i64 1, .string nm1, .int .i64 y2, .int .i64 y3, .int .i64 y4, .int .i64 0, .string { data := #[] }, .string { data := #[] }, .string { data := #[] }, .int .i64 0, .int .i64 0, .int .i64 0, .int .i64 0, .int .i64 0, .int .i64 0, .int .i64 0, .int .i64 0, .int .i64 0] : List Value), v.oneCell' = true) := by
    intro v hv
    simp only [List.mem_cons, List.not_mem_nil, or_false] at hv
    rcases hv with rfl | rfl | rfl | rfl | rfl | rfl | rfl | rfl | rfl | rfl | rfl | rfl | rfl | rfl | rfl | rfl | rfl | rfl <;> rfl
  have hrbq : rb < w0.heap.size := by have := HZ.out; omega
  have HT0 : Hid (v4.there rb 0 18) := there_blk HTh.out (HS4.out.tn.block rb hrbq (by simp))
  have HTw : Hid (Turn [] w v4) := HK0.out.ends HS4.out.tn (by have := HW.out; omega)
  have HRq : Hid (v4.rangeAt q 0 [.int .i64 1, .string nm1, .int .i64 y2, .int .i64 y3, .int .i64 y4, .int .i64 0, .string { data := #[] }, .string { data := #[] }, .string { data := #[] }, .int .i64 0, .int .i64 0, .int .i64 0, .int .i64 0, .int .i64 0, .int .i64 0, .int .i64 0, .int .i64 0, .int .i64 0]) := HS4.out.fl
  have HE := hide (rend HS4.out.rd)
  unfold EndP at HE
  generalize hcs : ([.int .i64 1, .string nm1, .int .i64 y2, .int .i64 y3, .int .i64 y4, .int .i64 0, .string { data := #[] }, .string { data := #[] }, .string { data := #[] }, .int .i64 0, .int .i64 0, .int .i64 0, .int .i64 0, .int .i64 0, .int .i64 0, .int .i64 0, .int .i64 0, .int .i64 0] : List Value) = cs at *
  clear HS4 HTh HK0
  go_wp2_with fail
  refine HE.out.mono ?_
  rintro e x2 ⟨rfl, hR, n, rfl⟩
  have HE2 := hide (rend hR)
  unfold EndP at HE2
  have HR2 : Hid ((v4.drewN n).rangeAt q 0 cs) := fun j u hj => HRq.out j u hj
  have HT2 : Hid ((v4.drewN n).there rb 0 18) := HT0.out
  have HT2m : Hid (∀ m, ((v4.drewN n).drewN m).there rb 0 18) := fun m => HT0.out
  have HTn : Hid (∀ ds : List Value, Turn [] w ((v4.drewN n).setCells rb 0 ds)) := fun ds => by
    have h1 := HTw.out
    exact (show Turn [] w (v4.drewN n) from ⟨h1.os, h1.tape, h1.output, h1.size, h1.block⟩).setCellsN rb (by have := HW.out; omega) ds 0
  have HTm : Hid (∀ m (ds : List Value), Turn [] w (((v4.drewN n).drewN m).setCells rb 0 ds)) := fun m ds => by
    have h1 := HTw.out
    exact (show Turn [] w ((v4.drewN n).drewN m) from ⟨h1.os, h1.tape, h1.output, h1.size, h1.block⟩).setCellsN rb (by have := HW.out; omega) ds 0
  clear hR HE HRq HT0 HTw
  generalize v4.drewN n = x2 at *
  by_cases he : endS s4 = 0
  · rw [he]
    have HR6 := hide (World.rangeAt_setCells_same x2 rb 0 cs (by rw [hl18]; exact HT2.out))
    go_wp2_with (first | ((with_reducible refine load_sz 25 18 sz25 _ q 0 cs hl18 ?_ HR2.out ?_); rfl) | ((with_reducible refine store_sz 25 18 sz25 _ _ rb 0 cs hl18 HOne.out ?_ ?_ HT2.out ?_); rfl; rfl) | fail)
    refine bodyPost_ret (v := .tuple #[.agg cs.toArray, .int .i64 0]) (results_two sz25 Try.results14 hl18 rfl rfl HR6.out) rfl ⟨?_, HTn.out _⟩
    have hse4 : s4.e = 0 := (end_el he).1
    have hse3 : s3.e = 0 := HK4.out hse4
    have hse2 : s2.e = 0 := HK3.out hse3
    have hse1 : s1.e = 0 := HK2.out hse2
    have hse0 : s0.e = 0 := HK1.out hse1
    have hx1 := HNm1.out hse1
    rw [← HRV.out (), he, if_pos rfl, ← hcs, hx1]
    rfl
  · have hne2 : ¬ ((endS s4 : Nat) : Int) = 0 := by omega
    have hlz : ([.int .i64 0, .string { data := #[] }, .int .i64 0, .int .i64 0, .int .i64 0, .int .i64 0, .string { data := #[] }, .string { data := #[] }, .string { data := #[] }, .int .i64 0, .int .i64 0, .int .i64 0, .int .i64 0, .int .i64 0, .int .i64 0, .int .i64 0, .int .i64 0, .int .i64 0] : List Value).length = 18 := rfl
    have HOz : Hid (∀ v ∈ ([.int .i64 0, .string { data := #[] }, .int .i64 0, .int .i64 0, .int .i64 0, .int .i64 0, .string { data := #[] }, .string { data := #[] }, .string { data := #[] }, .int .i64 0, .int .i64 0, .int .i64 0, .int .i64 0, .int .i64 0, .int .i64 0, .int .i64 0, .int .i64 0, .int .i64 0] : List Value), v.oneCell' = true) := rqC_one Rq.zero
    have HEn : Hid (endS s4 ≠ 0) := he
    clear he
    generalize endS s4 = E at *
    go_wp2_with fail
    refine HE2.out.mono ?_
    rintro e v9 ⟨rfl, _, m, rfl⟩
    have HT3 := hide (HT2m.out m)
    have HTq := hide (HTm.out m)
    clear HTm HT2m HTn
    generalize x2.drewN m = x3 at *
    have HR6 := hide (World.rangeAt_setCells_same x3 rb 0 [.int .i64 0, .string { data := #[] }, .int .i64 0, .int .i64 0, .int .i64 0, .int .i64 0, .string { data := #[] }, .string { data := #[] }, .string { data := #[] }, .int .i64 0, .int .i64 0, .int .i64 0, .int .i64 0, .int .i64 0, .int .i64 0, .int .i64 0, .int .i64 0, .int .i64 0] HT3.out)
    go_wp2_with (first | ((with_reducible refine store_sz 25 18 sz25 _ _ rb 0 [.int .i64 0, .string { data := #[] }, .int .i64 0, .int .i64 0, .int .i64 0, .int .i64 0, .string { data := #[] }, .string { data := #[] }, .string { data := #[] }, .int .i64 0, .int .i64 0, .int .i64 0, .int .i64 0, .int .i64 0, .int .i64 0, .int .i64 0, .int .i64 0, .int .i64 0] hlz HOz.out ?_ ?_ HT3.out ?_); rfl; rfl) | fail)
    refine bodyPost_ret (v := .tuple #[.agg (rqC Rq.zero).toArray, .int .i64 (E : Nat)]) (results_two sz25 Try.results14 hlz rfl rfl HR6.out) rfl ⟨?_, HTq.out _⟩
    rw [← HRV.out (), if_neg HEn.out]

set_option maxRecDepth 100000 in
set_option maxHeartbeats 6400000 in
theorem rparse4 (w : World) (a : Option Addr) (c : Nat) (l : List Nat) (hB : BytesAt w a l) (hc : l.length ≤ c) (hl : l.length ≤ 1000000) (hx : ∀ x ∈ l, x < 256) (hk : (countS .pr ⟨l, 0⟩ 0).1.e = 0 ∧ (countS .pr ⟨l, 0⟩ 0).2 = 4) :
    Calls Try.prog 14 #[.slice a l.length c] w fun r w' => PrqP w (reqK rfC (countS .pr ⟨l, 0⟩ 0).1 Rq.zero 4).1 (reqK rfC (countS .pr ⟨l, 0⟩ 0).1 Rq.zero 4).2 r w' := by
  have hT0 : Turn [] w (w.alloc (.cells (rqC Rq.zero).toArray 25)) := (Turn.refl [] w).alloc _
  have hz0 : (w.alloc (.cells (rqC Rq.zero).toArray 25)).heap.size = w.heap.size + 1 := by simp
  have hF := rdr_new (w := w.alloc (.cells (rqC Rq.zero).toArray 25)) (hB.turn hT0 (by simp)) hc hl hx
  rw [hz0] at hF
  have hz1 : ((w.alloc (.cells (rqC Rq.zero).toArray 25)).alloc (.cells #[.slice a l.length c, .int .i64 0, .int .i64 0] 82)).heap.size = w.heap.size + 2 := by simp
  have hK0 : Turn [] w ((w.alloc (.cells (rqC Rq.zero).toArray 25)).alloc (.cells #[.slice a l.length c, .int .i64 0, .int .i64 0] 82)) := hT0.alloc _
  have hTh : ((w.alloc (.cells (rqC Rq.zero).toArray 25)).alloc (.cells #[.slice a l.length c, .int .i64 0, .int .i64 0] 82)).there w.heap.size 0 18 := there_blk (there_new2 w (rqC Rq.zero).toArray 25) (Below.heap_alloc _ _ _ (by rw [hz0]; omega))
  have HAd : Hid (∀ x, l ≠ [] → a = some x → x.block < w.heap.size + 2) := fun x h e => by have := hB.lt x h e; omega
  have HC := hide (ru8 hF)
  have HK0 := hide hK0
  have HZ := hide hz1
  have HTh := hide hTh
  clear hF hK0 hz1 hTh hT0 hz0 hB hx
  unfold U8P at HC
  unfold PrqP
  obtain ⟨⟨s0, k0⟩, h0⟩ : ∃ T, countS .pr ⟨l, 0⟩ 0 = T := ⟨_, rfl⟩
  rw [h0] at hk HC ⊢
  obtain ⟨hk1, hk2⟩ := hk
  dsimp only at hk1 hk2 HC ⊢
  subst hk2
  obtain ⟨⟨s1, y1⟩, h1⟩ : ∃ T, textS .pr s0 ByteArray.empty = T := ⟨_, rfl⟩
  obtain ⟨⟨s2, y2⟩, h2⟩ : ∃ T, numS .pr s1 0 = T := ⟨_, rfl⟩
  obtain ⟨⟨s3, y3⟩, h3⟩ : ∃ T, numS .pr s2 0 = T := ⟨_, rfl⟩
  obtain ⟨⟨s4, y4⟩, h4⟩ : ∃ T, numS .pr s3 0 = T := ⟨_, rfl⟩
  have hS : reqK rfC s0 Rq.zero 4 = (s4, { Rq.zero with k := 4, key := y1, id := y2, n := y3, ttl := y4 }) := by
    unfold reqK rfC
    simp only [h1, h2, h3, h4]
    rfl
  rw [hS]
  dsimp only
  have HK1 : Hid (s1.e = 0 → s0.e = 0) := fun (h : s1.e = 0) => text_e (z := ByteArray.empty) (by rw [h1]; exact h)
  have HK2 : Hid (s2.e = 0 → s1.e = 0) := fun (h : s2.e = 0) => (Classical.byContradiction fun k => by have h9 := numS_fault k 0; rw [h2] at h9; dsimp only at h9; rw [h9] at h; exact k h)
  have HK3 : Hid (s3.e = 0 → s2.e = 0) := fun (h : s3.e = 0) => (Classical.byContradiction fun k => by have h9 := numS_fault k 0; rw [h3] at h9; dsimp only at h9; rw [h9] at h; exact k h)
  have HK4 : Hid (s4.e = 0 → s3.e = 0) := fun (h : s4.e = 0) => (Classical.byContradiction fun k => by have h9 := numS_fault k 0; rw [h4] at h9; dsimp only at h9; rw [h9] at h; exact k h)
  have H1 := hide h1
  have H2 := hide h2
  have H3 := hide h3
  have H4 := hide h4
  clear hS h0 h1 h2 h3 h4
  obtain ⟨RV, hRV⟩ : ∃ R, Value.tuple #[.agg (rqC (if endS s4 = 0 then { Rq.zero with k := 4, key := y1, id := y2, n := y3, ttl := y4 } else Rq.zero)).toArray, .int .i64 (endS s4 : Nat)] = R := ⟨_, rfl⟩
  rw [hRV]
  have HRV := hide (fun (_ : Unit) => hRV)
  clear hRV
  generalize hrb : w.heap.size = rb at *
  have HW := hide hrb
  go_enter Try.func14, Try.ntmps14
  go_wp2_with fail
  clear hrb
  change Calls Try.prog _ _ ((w.alloc (.cells (rqC Rq.zero).toArray 25)).alloc (.cells #[.slice a l.length c, .int .i64 0, .int .i64 0] 82)) _
  generalize (w.alloc (.cells (rqC Rq.zero).toArray 25)).alloc (.cells #[.slice a l.length c, .int .i64 0, .int .i64 0] 82) = w0 at *
  refine HC.out.mono ?_
  rintro e w1 ⟨rfl, hR, hT⟩
  have hthq : (w1.alloc (.cells #[.int .i64 0, .string { data := #[] }, .int .i64 0, .int .i64 0, .int .i64 0, .int .i64 0, .string { data := #[] }, .string { data := #[] }, .string { data := #[] }, .int .i64 0, .int .i64 0, .int .i64 0, .int .i64 0, .int .i64 0, .int .i64 0, .int .i64 0, .int .i64 0, .int .i64 0] 25)).there w1.heap.size 0 18 := there_new2 w1 #[.int .i64 0, .string { data := #[] }, .int .i64 0, .int .i64 0, .int .i64 0, .int .i64 0, .string { data := #[] }, .string { data := #[] }, .string { data := #[] }, .int .i64 0, .int .i64 0, .int .i64 0, .int .i64 0, .int .i64 0, .int .i64 0, .int .i64 0, .int .i64 0, .int .i64 0] 25
  have hRs := (Rs.new hR hT (by have := HZ.out; omega) (fun x hx e => by have := HAd.out x hx e; have := HZ.out; omega) #[.int .i64 0, .string { data := #[] }, .int .i64 0, .int .i64 0, .int .i64 0, .int .i64 0, .string { data := #[] }, .string { data := #[] }, .string { data := #[] }, .int .i64 0, .int .i64 0, .int .i64 0, .int .i64 0, .int .i64 0, .int .i64 0, .int .i64 0, .int .i64 0, .int .i64 0] 25).puts 0 [.int .i64 4, .string { data := #[] }, .int .i64 0, .int .i64 0, .int .i64 0, .int .i64 0, .string { data := #[] }, .string { data := #[] }, .string { data := #[] }, .int .i64 0, .int .i64 0, .int .i64 0, .int .i64 0, .int .i64 0, .int .i64 0, .int .i64 0, .int .i64 0, .int .i64 0] (by simp)
  have HS0 : Hid (Rs w0 ((w1.alloc (.cells #[.int .i64 0, .string { data := #[] }, .int .i64 0, .int .i64 0, .int .i64 0, .int .i64 0, .string { data := #[] }, .string { data := #[] }, .string { data := #[] }, .int .i64 0, .int .i64 0, .int .i64 0, .int .i64 0, .int .i64 0, .int .i64 0, .int .i64 0, .int .i64 0, .int .i64 0] 25)).setCells w1.heap.size 0 [.int .i64 4, .string { data := #[] }, .int .i64 0, .int .i64 0, .int .i64 0, .int .i64 0, .string { data := #[] }, .string { data := #[] }, .string { data := #[] }, .int .i64 0, .int .i64 0, .int .i64 0, .int .i64 0, .int .i64 0, .int .i64 0, .int .i64 0, .int .i64 0, .int .i64 0]) (rb + 1) a c l s0 w1.heap.size [.int .i64 4, .string { data := #[] }, .int .i64 0, .int .i64 0, .int .i64 0, .int .i64 0, .string { data := #[] }, .string { data := #[] }, .string { data := #[] }, .int .i64 0, .int .i64 0, .int .i64 0, .int .i64 0, .int .i64 0, .int .i64 0, .int .i64 0, .int .i64 0, .int .i64 0]) := hRs
  have hl18 : ([.int .i64 4, .string { data := #[] }, .int .i64 0, .int .i64 0, .int .i64 0, .int .i64 0, .string { data := #[] }, .string { data := #[] }, .string { data := #[] }, .int .i64 0, .int .i64 0, .int .i64 0, .int .i64 0, .int .i64 0, .int .i64 0, .int .i64 0, .int .i64 0, .int .i64 0] : List Value).length = 18 := rfl
  have HOne0 : Hid (∀ v ∈ ([.int .i64 4, .string { data := #[] }, .int .i64 0, .int .i64 0, .int .i64 0, .int .i64 0, .string { data := #[] }, .string { data := #[] }, .string { data := #[] }, .int .i64 0, .int .i64 0, .int .i64 0, .int .i64 0, .int .i64 0, .int .i64 0, .int .i64 0, .int .i64 0, .int .i64 0] : List Value), v.oneCell' = true) := by
    intro v hv
    simp only [List.mem_cons, List.not_mem_nil, or_false] at hv
    rcases hv with rfl | rfl | rfl | rfl | rfl | rfl | rfl | rfl | rfl | rfl | rfl | rfl | rfl | rfl | rfl | rfl | rfl | rfl <;> rfl
  have HThq := hide hthq
  clear hR hT hRs hthq HC
  go_upto_region 3 with (first | ((with_reducible refine store_sz 25 18 sz25 _ _ w1.heap.size 0 [.int .i64 4, .string { data := #[] }, .int .i64 0, .int .i64 0, .int .i64 0, .int .i64 0, .string { data := #[] }, .string { data := #[] }, .string { data := #[] }, .int .i64 0, .int .i64 0, .int .i64 0, .int .i64 0, .int .i64 0, .int .i64 0, .int .i64 0, .int .i64 0, .int .i64 0] hl18 HOne0.out ?_ ?_ HThq.out ?_); rfl; rfl) | fail)
  generalize w1.heap.size = q at *
  generalize (w1.alloc (.cells #[.int .i64 0, .string { data := #[] }, .int .i64 0, .int .i64 0, .int .i64 0, .int .i64 0, .string { data := #[] }, .string { data := #[] }, .string { data := #[] }, .int .i64 0, .int .i64 0, .int .i64 0, .int .i64 0, .int .i64 0, .int .i64 0, .int .i64 0, .int .i64 0, .int .i64 0] 25)).setCells q 0 [.int .i64 4, .string { data := #[] }, .int .i64 0, .int .i64 0, .int .i64 0, .int .i64 0, .string { data := #[] }, .string { data := #[] }, .string { data := #[] }, .int .i64 0, .int .i64 0, .int .i64 0, .int .i64 0, .int .i64 0, .int .i64 0, .int .i64 0, .int .i64 0, .int .i64 0] = v0 at *
  clear HThq HOne0 hl18
  have ck := HS0.out.cell (i := 0) rfl
  have ce := HS0.out.rd.c2
  rw [hk1] at ce
  go_wp2_with (first | (go_at_call 26; refine (rk4 _).mono ?_; rintro e w' ⟨rfl, rfl⟩) | fail)
  have HCt := hide (rtxt HS0.out.rd)
  unfold TxtP at HCt
  rw [H1.out] at HCt
  dsimp only at HCt
  refine HCt.out.mono ?_
  rintro e u1 ⟨nm1, rfl, hR, hnm, hT⟩
  have HNm1 := hide hnm
  clear HCt hnm
  have hK1 := HS0.out.call hT hR
  have c1 := hK1.cell (i := 1) rfl
  have f1 := hK1.fz (i := 1) (by simp)
  have HS1 : Hid (Rs w0 (u1.setCell ⟨q, 1, none⟩ (.string nm1)) (rb + 1) a c l s1 q [.int .i64 4, .string nm1, .int .i64 0, .int .i64 0, .int .i64 0, .int .i64 0, .string { data := #[] }, .string { data := #[] }, .string { data := #[] }, .int .i64 0, .int .i64 0, .int .i64 0, .int .i64 0, .int .i64 0, .int .i64 0, .int .i64 0, .int .i64 0, .int .i64 0]) := hK1.put 1 (.string nm1) (by simp)
  have ck1 := HS1.out.cell (i := 0) rfl
  clear hR hT hK1
  try dsimp only
  go_wp2_with fail
  generalize u1.setCell ⟨q, 1, none⟩ (.string nm1) = v1 at *
  clear c1 f1 ck1
  refine (ri64 HS1.out.rd).mono ?_
  rintro e u2 ⟨rfl, hR, hT⟩
  rw [H2.out] at hR ⊢
  have hK2 := HS1.out.call hT hR
  have c2 := hK2.cell (i := 2) rfl
  have f2 := hK2.fz (i := 2) (by simp)
  have HS2 : Hid (Rs w0 (u2.setCell ⟨q, 2, none⟩ (.int .i64 y2)) (rb + 1) a c l s2 q [.int .i64 4, .string nm1, .int .i64 y2, .int .i64 0, .int .i64 0, .int .i64 0, .string { data := #[] }, .string { data := #[] }, .string { data := #[] }, .int .i64 0, .int .i64 0, .int .i64 0, .int .i64 0, .int .i64 0, .int .i64 0, .int .i64 0, .int .i64 0, .int .i64 0]) := hK2.put 2 (.int .i64 y2) (by simp)
  have ck2 := HS2.out.cell (i := 0) rfl
  clear hR hT hK2
  dsimp only
  go_wp2_with fail
  generalize u2.setCell ⟨q, 2, none⟩ (.int .i64 y2) = v2 at *
  clear c2 f2 ck2
  refine (ri64 HS2.out.rd).mono ?_
  rintro e u3 ⟨rfl, hR, hT⟩
  rw [H3.out] at hR ⊢
  have hK3 := HS2.out.call hT hR
  have c3 := hK3.cell (i := 3) rfl
  have f3 := hK3.fz (i := 3) (by simp)
  have HS3 : Hid (Rs w0 (u3.setCell ⟨q, 3, none⟩ (.int .i64 y3)) (rb + 1) a c l s3 q [.int .i64 4, .string nm1, .int .i64 y2, .int .i64 y3, .int .i64 0, .int .i64 0, .string { data := #[] }, .string { data := #[] }, .string { data := #[] }, .int .i64 0, .int .i64 0, .int .i64 0, .int .i64 0, .int .i64 0, .int .i64 0, .int .i64 0, .int .i64 0, .int .i64 0]) := hK3.put 3 (.int .i64 y3) (by simp)
  have ck3 := HS3.out.cell (i := 0) rfl
  clear hR hT hK3
  dsimp only
  go_wp2_with fail
  generalize u3.setCell ⟨q, 3, none⟩ (.int .i64 y3) = v3 at *
  clear c3 f3 ck3
  refine (ri64 HS3.out.rd).mono ?_
  rintro e u4 ⟨rfl, hR, hT⟩
  rw [H4.out] at hR ⊢
  have hK4 := HS3.out.call hT hR
  have c4 := hK4.cell (i := 4) rfl
  have f4 := hK4.fz (i := 4) (by simp)
  have HS4 : Hid (Rs w0 (u4.setCell ⟨q, 4, none⟩ (.int .i64 y4)) (rb + 1) a c l s4 q [.int .i64 4, .string nm1, .int .i64 y2, .int .i64 y3, .int .i64 y4, .int .i64 0, .string { data := #[] }, .string { data := #[] }, .string { data := #[] }, .int .i64 0, .int .i64 0, .int .i64 0, .int .i64 0, .int .i64 0, .int .i64 0, .int .i64 0, .int .i64 0, .int .i64 0]) := hK4.put 4 (.int .i64 y4) (by simp)
  have ck4 := HS4.out.cell (i := 0) rfl
  clear hR hT hK4
  dsimp only
  go_upto_region 35 with fail
  generalize u4.setCell ⟨q, 4, none⟩ (.int .i64 y4) = v4 at *
  clear c4 f4 ck4
  have hl18 : ([.int .i64 4, .string nm1, .int .i64 y2, .int .i64 y3, .int .i64 y4, .int .i64 0, .string { data := #[] }, .string { data := #[] }, .string { data := #[] }, .int .i64 0, .int .i64 0, .int .i64 0, .int .i64 0, .int .i64 0, .int .i64 0, .int .i64 0, .int .i64 0, .int .i64 0] : List Value).length = 18 := rfl
  have HOne : Hid (∀ v ∈ ([.int .i64 4, .string nm1, .int .i64 y2, .int .i64 y3, .int .i64 y4, .int .i64 0, .string { data := #[] }, .string { data := #[] }, .string { data := #[] }, .int .i64 0, .int .i64 0, .int .i64 0, .int .i64 0, .int .i64 0, .int .i64 0, .int .i64 0, .int .i64 0, .int .i64 0] : List Value), v.oneCell' = true) := by
    intro v hv
    simp only [List.mem_cons, List.not_mem_nil, or_false] at hv
    rcases hv with rfl | rfl | rfl | rfl | rfl | rfl | rfl | rfl | rfl | rfl | rfl | rfl | rfl | rfl | rfl | rfl | rfl | rfl <;> rfl
  have hrbq : rb < w0.heap.size := by have := HZ.out; omega
  have HT0 : Hid (v4.there rb 0 18) := there_blk HTh.out (HS4.out.tn.block rb hrbq (by simp))
  have HTw : Hid (Turn [] w v4) := HK0.out.ends HS4.out.tn (by have := HW.out; omega)
  have HRq : Hid (v4.rangeAt q 0 [.int .i64 4, .string nm1, .int .i64 y2, .int .i64 y3, .int .i64 y4, .int .i64 0, .string { data := #[] }, .string { data := #[] }, .string { data := #[] }, .int .i64 0, .int .i64 0, .int .i64 0, .int .i64 0, .int .i64 0, .int .i64 0, .int .i64 0, .int .i64 0, .int .i64 0]) := HS4.out.fl
  have HE := hide (rend HS4.out.rd)
  unfold EndP at HE
  generalize hcs : ([.int .i64 4, .string nm1, .int .i64 y2, .int .i64 y3, .int .i64 y4, .int .i64 0, .string { data := #[] }, .string { data := #[] }, .string { data := #[] }, .int .i64 0, .int .i64 0, .int .i64 0, .int .i64 0, .int .i64 0, .int .i64 0, .int .i64 0, .int .i64 0, .int .i64 0] : List Value) = cs at *
  clear HS4 HTh HK0
  go_wp2_with fail
  refine HE.out.mono ?_
  rintro e x2 ⟨rfl, hR, n, rfl⟩
  have HE2 := hide (rend hR)
  unfold EndP at HE2
  have HR2 : Hid ((v4.drewN n).rangeAt q 0 cs) := fun j u hj => HRq.out j u hj
  have HT2 : Hid ((v4.drewN n).there rb 0 18) := HT0.out
  have HT2m : Hid (∀ m, ((v4.drewN n).drewN m).there rb 0 18) := fun m => HT0.out
  have HTn : Hid (∀ ds : List Value, Turn [] w ((v4.drewN n).setCells rb 0 ds)) := fun ds => by
    have h1 := HTw.out
    exact (show Turn [] w (v4.drewN n) from ⟨h1.os, h1.tape, h1.output, h1.size, h1.block⟩).setCellsN rb (by have := HW.out; omega) ds 0
  have HTm : Hid (∀ m (ds : List Value), Turn [] w (((v4.drewN n).drewN m).setCells rb 0 ds)) := fun m ds => by
    have h1 := HTw.out
    exact (show Turn [] w ((v4.drewN n).drewN m) from ⟨h1.os, h1.tape, h1.output, h1.size, h1.block⟩).setCellsN rb (by have := HW.out; omega) ds 0
  clear hR HE HRq HT0 HTw
  generalize v4.drewN n = x2 at *
  by_cases he : endS s4 = 0
  · rw [he]
    have HR6 := hide (World.rangeAt_setCells_same x2 rb 0 cs (by rw [hl18]; exact HT2.out))
    go_wp2_with (first | ((with_reducible refine load_sz 25 18 sz25 _ q 0 cs hl18 ?_ HR2.out ?_); rfl) | ((with_reducible refine store_sz 25 18 sz25 _ _ rb 0 cs hl18 HOne.out ?_ ?_ HT2.out ?_); rfl; rfl) | fail)
    refine bodyPost_ret (v := .tuple #[.agg cs.toArray, .int .i64 0]) (results_two sz25 Try.results14 hl18 rfl rfl HR6.out) rfl ⟨?_, HTn.out _⟩
    have hse4 : s4.e = 0 := (end_el he).1
    have hse3 : s3.e = 0 := HK4.out hse4
    have hse2 : s2.e = 0 := HK3.out hse3
    have hse1 : s1.e = 0 := HK2.out hse2
    have hse0 : s0.e = 0 := HK1.out hse1
    have hx1 := HNm1.out hse1
    rw [← HRV.out (), he, if_pos rfl, ← hcs, hx1]
    rfl
  · have hne2 : ¬ ((endS s4 : Nat) : Int) = 0 := by omega
    have hlz : ([.int .i64 0, .string { data := #[] }, .int .i64 0, .int .i64 0, .int .i64 0, .int .i64 0, .string { data := #[] }, .string { data := #[] }, .string { data := #[] }, .int .i64 0, .int .i64 0, .int .i64 0, .int .i64 0, .int .i64 0, .int .i64 0, .int .i64 0, .int .i64 0, .int .i64 0] : List Value).length = 18 := rfl
    have HOz : Hid (∀ v ∈ ([.int .i64 0, .string { data := #[] }, .int .i64 0, .int .i64 0, .int .i64 0, .int .i64 0, .string { data := #[] }, .string { data := #[] }, .string { data := #[] }, .int .i64 0, .int .i64 0, .int .i64 0, .int .i64 0, .int .i64 0, .int .i64 0, .int .i64 0, .int .i64 0, .int .i64 0] : List Value), v.oneCell' = true) := rqC_one Rq.zero
    have HEn : Hid (endS s4 ≠ 0) := he
    clear he
    generalize endS s4 = E at *
    go_wp2_with fail
    refine HE2.out.mono ?_
    rintro e v9 ⟨rfl, _, m, rfl⟩
    have HT3 := hide (HT2m.out m)
    have HTq := hide (HTm.out m)
    clear HTm HT2m HTn
    generalize x2.drewN m = x3 at *
    have HR6 := hide (World.rangeAt_setCells_same x3 rb 0 [.int .i64 0, .string { data := #[] }, .int .i64 0, .int .i64 0, .int .i64 0, .int .i64 0, .string { data := #[] }, .string { data := #[] }, .string { data := #[] }, .int .i64 0, .int .i64 0, .int .i64 0, .int .i64 0, .int .i64 0, .int .i64 0, .int .i64 0, .int .i64 0, .int .i64 0] HT3.out)
    go_wp2_with (first | ((with_reducible refine store_sz 25 18 sz25 _ _ rb 0 [.int .i64 0, .string { data := #[] }, .int .i64 0, .int .i64 0, .int .i64 0, .int .i64 0, .string { data := #[] }, .string { data := #[] }, .string { data := #[] }, .int .i64 0, .int .i64 0, .int .i64 0, .int .i64 0, .int .i64 0, .int .i64 0, .int .i64 0, .int .i64 0, .int .i64 0] hlz HOz.out ?_ ?_ HT3.out ?_); rfl; rfl) | fail)
    refine bodyPost_ret (v := .tuple #[.agg (rqC Rq.zero).toArray, .int .i64 (E : Nat)]) (results_two sz25 Try.results14 hlz rfl rfl HR6.out) rfl ⟨?_, HTq.out _⟩
    rw [← HRV.out (), if_neg HEn.out]

set_option maxRecDepth 100000 in
set_option maxHeartbeats 6400000 in
theorem rparse2 (w : World) (a : Option Addr) (c : Nat) (l : List Nat) (hB : BytesAt w a l) (hc : l.length ≤ c) (hl : l.length ≤ 1000000) (hx : ∀ x ∈ l, x < 256) (hk : (countS .pr ⟨l, 0⟩ 0).1.e = 0 ∧ (countS .pr ⟨l, 0⟩ 0).2 = 2) :
    Calls Try.prog 14 #[.slice a l.length c] w fun r w' => PrqP w (reqK rfC (countS .pr ⟨l, 0⟩ 0).1 Rq.zero 2).1 (reqK rfC (countS .pr ⟨l, 0⟩ 0).1 Rq.zero 2).2 r w' := by
  have hT0 : Turn [] w (w.alloc (.cells (rqC Rq.zero).toArray 25)) := (Turn.refl [] w).alloc _
  have hz0 : (w.alloc (.cells (rqC Rq.zero).toArray 25)).heap.size = w.heap.size + 1 := by simp
  have hF := rdr_new (w := w.alloc (.cells (rqC Rq.zero).toArray 25)) (hB.turn hT0 (by simp)) hc hl hx
  rw [hz0] at hF
  have hz1 : ((w.alloc (.cells (rqC Rq.zero).toArray 25)).alloc (.cells #[.slice a l.length c, .int .i64 0, .int .i64 0] 82)).heap.size = w.heap.size + 2 := by simp
  have hK0 : Turn [] w ((w.alloc (.cells (rqC Rq.zero).toArray 25)).alloc (.cells #[.slice a l.length c, .int .i64 0, .int .i64 0] 82)) := hT0.alloc _
  have hTh : ((w.alloc (.cells (rqC Rq.zero).toArray 25)).alloc (.cells #[.slice a l.length c, .int .i64 0, .int .i64 0] 82)).there w.heap.size 0 18 := there_blk (there_new2 w (rqC Rq.zero).toArray 25) (Below.heap_alloc _ _ _ (by rw [hz0]; omega))
  have HAd : Hid (∀ x, l ≠ [] → a = some x → x.block < w.heap.size + 2) := fun x h e => by have := hB.lt x h e; omega
  have HC := hide (ru8 hF)
  have HK0 := hide hK0
  have HZ := hide hz1
  have HTh := hide hTh
  clear hF hK0 hz1 hTh hT0 hz0 hB hx
  unfold U8P at HC
  unfold PrqP
  obtain ⟨⟨s0, k0⟩, h0⟩ : ∃ T, countS .pr ⟨l, 0⟩ 0 = T := ⟨_, rfl⟩
  rw [h0] at hk HC ⊢
  obtain ⟨hk1, hk2⟩ := hk
  dsimp only at hk1 hk2 HC ⊢
  subst hk2
  obtain ⟨⟨s1, y1⟩, h1⟩ : ∃ T, textS .pr s0 ByteArray.empty = T := ⟨_, rfl⟩
  obtain ⟨⟨s2, y2⟩, h2⟩ : ∃ T, numS .pr s1 0 = T := ⟨_, rfl⟩
  obtain ⟨⟨s3, y3⟩, h3⟩ : ∃ T, numS .pr s2 0 = T := ⟨_, rfl⟩
  obtain ⟨⟨s4, y4⟩, h4⟩ : ∃ T, numS .pr s3 0 = T := ⟨_, rfl⟩
  have hS : reqK rfC s0 Rq.zero 2 = (s4, { Rq.zero with k := 2, key := y1, id := y2, o := y3, n := y4 }) := by
    unfold reqK rfC
    simp only [h1, h2, h3, h4]
    rfl
  rw [hS]
  dsimp only
  have HK1 : Hid (s1.e = 0 → s0.e = 0) := fun (h : s1.e = 0) => text_e (z := ByteArray.empty) (by rw [h1]; exact h)
  have HK2 : Hid (s2.e = 0 → s1.e = 0) := fun (h : s2.e = 0) => (Classical.byContradiction fun k => by have h9 := numS_fault k 0; rw [h2] at h9; dsimp only at h9; rw [h9] at h; exact k h)
  have HK3 : Hid (s3.e = 0 → s2.e = 0) := fun (h : s3.e = 0) => (Classical.byContradiction fun k => by have h9 := numS_fault k 0; rw [h3] at h9; dsimp only at h9; rw [h9] at h; exact k h)
  have HK4 : Hid (s4.e = 0 → s3.e = 0) := fun (h : s4.e = 0) => (Classical.byContradiction fun k => by have h9 := numS_fault k 0; rw [h4] at h9; dsimp only at h9; rw [h9] at h; exact k h)
  have H1 := hide h1
  have H2 := hide h2
  have H3 := hide h3
  have H4 := hide h4
  clear hS h0 h1 h2 h3 h4
  obtain ⟨RV, hRV⟩ : ∃ R, Value.tuple #[.agg (rqC (if endS s4 = 0 then { Rq.zero with k := 2, key := y1, id := y2, o := y3, n := y4 } else Rq.zero)).toArray, .int .i64 (endS s4 : Nat)] = R := ⟨_, rfl⟩
  rw [hRV]
  have HRV := hide (fun (_ : Unit) => hRV)
  clear hRV
  generalize hrb : w.heap.size = rb at *
  have HW := hide hrb
  go_enter Try.func14, Try.ntmps14
  go_wp2_with fail
  clear hrb
  change Calls Try.prog _ _ ((w.alloc (.cells (rqC Rq.zero).toArray 25)).alloc (.cells #[.slice a l.length c, .int .i64 0, .int .i64 0] 82)) _
  generalize (w.alloc (.cells (rqC Rq.zero).toArray 25)).alloc (.cells #[.slice a l.length c, .int .i64 0, .int .i64 0] 82) = w0 at *
  refine HC.out.mono ?_
  rintro e w1 ⟨rfl, hR, hT⟩
  have hthq : (w1.alloc (.cells #[.int .i64 0, .string { data := #[] }, .int .i64 0, .int .i64 0, .int .i64 0, .int .i64 0, .string { data := #[] }, .string { data := #[] }, .string { data := #[] }, .int .i64 0, .int .i64 0, .int .i64 0, .int .i64 0, .int .i64 0, .int .i64 0, .int .i64 0, .int .i64 0, .int .i64 0] 25)).there w1.heap.size 0 18 := there_new2 w1 #[.int .i64 0, .string { data := #[] }, .int .i64 0, .int .i64 0, .int .i64 0, .int .i64 0, .string { data := #[] }, .string { data := #[] }, .string { data := #[] }, .int .i64 0, .int .i64 0, .int .i64 0, .int .i64 0, .int .i64 0, .int .i64 0, .int .i64 0, .int .i64 0, .int .i64 0] 25
  have hRs := (Rs.new hR hT (by have := HZ.out; omega) (fun x hx e => by have := HAd.out x hx e; have := HZ.out; omega) #[.int .i64 0, .string { data := #[] }, .int .i64 0, .int .i64 0, .int .i64 0, .int .i64 0, .string { data := #[] }, .string { data := #[] }, .string { data := #[] }, .int .i64 0, .int .i64 0, .int .i64 0, .int .i64 0, .int .i64 0, .int .i64 0, .int .i64 0, .int .i64 0, .int .i64 0] 25).puts 0 [.int .i64 2, .string { data := #[] }, .int .i64 0, .int .i64 0, .int .i64 0, .int .i64 0, .string { data := #[] }, .string { data := #[] }, .string { data := #[] }, .int .i64 0, .int .i64 0, .int .i64 0, .int .i64 0, .int .i64 0, .int .i64 0, .int .i64 0, .int .i64 0, .int .i64 0] (by simp)
  have HS0 : Hid (Rs w0 ((w1.alloc (.cells #[.int .i64 0, .string { data := #[] }, .int .i64 0, .int .i64 0, .int .i64 0, .int .i64 0, .string { data := #[] }, .string { data := #[] }, .string { data := #[] }, .int .i64 0, .int .i64 0, .int .i64 0, .int .i64 0, .int .i64 0, .int .i64 0, .int .i64 0, .int .i64 0, .int .i64 0] 25)).setCells w1.heap.size 0 [.int .i64 2, .string { data := #[] }, .int .i64 0, .int .i64 0, .int .i64 0, .int .i64 0, .string { data := #[] }, .string { data := #[] }, .string { data := #[] }, .int .i64 0, .int .i64 0, .int .i64 0, .int .i64 0, .int .i64 0, .int .i64 0, .int .i64 0, .int .i64 0, .int .i64 0]) (rb + 1) a c l s0 w1.heap.size [.int .i64 2, .string { data := #[] }, .int .i64 0, .int .i64 0, .int .i64 0, .int .i64 0, .string { data := #[] }, .string { data := #[] }, .string { data := #[] }, .int .i64 0, .int .i64 0, .int .i64 0, .int .i64 0, .int .i64 0, .int .i64 0, .int .i64 0, .int .i64 0, .int .i64 0]) := hRs
  have hl18 : ([.int .i64 2, .string { data := #[] }, .int .i64 0, .int .i64 0, .int .i64 0, .int .i64 0, .string { data := #[] }, .string { data := #[] }, .string { data := #[] }, .int .i64 0, .int .i64 0, .int .i64 0, .int .i64 0, .int .i64 0, .int .i64 0, .int .i64 0, .int .i64 0, .int .i64 0] : List Value).length = 18 := rfl
  have HOne0 : Hid (∀ v ∈ ([.int .i64 2, .string { data := #[] }, .int .i64 0, .int .i64 0, .int .i64 0, .int .i64 0, .string { data := #[] }, .string { data := #[] }, .string { data := #[] }, .int .i64 0, .int .i64 0, .int .i64 0, .int .i64 0, .int .i64 0, .int .i64 0, .int .i64 0, .int .i64 0, .int .i64 0] : List Value), v.oneCell' = true) := by
    intro v hv
    simp only [List.mem_cons, List.not_mem_nil, or_false] at hv
    rcases hv with rfl | rfl | rfl | rfl | rfl | rfl | rfl | rfl | rfl | rfl | rfl | rfl | rfl | rfl | rfl | rfl | rfl | rfl <;> rfl
  have HThq := hide hthq
  clear hR hT hRs hthq HC
  go_upto_region 3 with (first | ((with_reducible refine store_sz 25 18 sz25 _ _ w1.heap.size 0 [.int .i64 2, .string { data := #[] }, .int .i64 0, .int .i64 0, .int .i64 0, .int .i64 0, .string { data := #[] }, .string { data := #[] }, .string { data := #[] }, .int .i64 0, .int .i64 0, .int .i64 0, .int .i64 0, .int .i64 0, .int .i64 0, .int .i64 0, .int .i64 0, .int .i64 0] hl18 HOne0.out ?_ ?_ HThq.out ?_); rfl; rfl) | fail)
  generalize w1.heap.size = q at *
  generalize (w1.alloc (.cells #[.int .i64 0, .string { data := #[] }, .int .i64 0, .int .i64 0, .int .i64 0, .int .i64 0, .string { data := #[] }, .string { data := #[] }, .string { data := #[] }, .int .i64 0, .int .i64 0, .int .i64 0, .int .i64 0, .int .i64 0, .int .i64 0, .int .i64 0, .int .i64 0, .int .i64 0] 25)).setCells q 0 [.int .i64 2, .string { data := #[] }, .int .i64 0, .int .i64 0, .int .i64 0, .int .i64 0, .string { data := #[] }, .string { data := #[] }, .string { data := #[] }, .int .i64 0, .int .i64 0, .int .i64 0, .int .i64 0, .int .i64 0, .int .i64 0, .int .i64 0, .int .i64 0, .int .i64 0] = v0 at *
  clear HThq HOne0 hl18
  have ck := HS0.out.cell (i := 0) rfl
  have ce := HS0.out.rd.c2
  rw [hk1] at ce
  go_wp2_with (first | (go_at_call 26; refine (rk2 _).mono ?_; rintro e w' ⟨rfl, rfl⟩) | fail)
  have HCt := hide (rtxt HS0.out.rd)
  unfold TxtP at HCt
  rw [H1.out] at HCt
  dsimp only at HCt
  refine HCt.out.mono ?_
  rintro e u1 ⟨nm1, rfl, hR, hnm, hT⟩
  have HNm1 := hide hnm
  clear HCt hnm
  have hK1 := HS0.out.call hT hR
  have c1 := hK1.cell (i := 1) rfl
  have f1 := hK1.fz (i := 1) (by simp)
  have HS1 : Hid (Rs w0 (u1.setCell ⟨q, 1, none⟩ (.string nm1)) (rb + 1) a c l s1 q [.int .i64 2, .string nm1, .int .i64 0, .int .i64 0, .int .i64 0, .int .i64 0, .string { data := #[] }, .string { data := #[] }, .string { data := #[] }, .int .i64 0, .int .i64 0, .int .i64 0, .int .i64 0, .int .i64 0, .int .i64 0, .int .i64 0, .int .i64 0, .int .i64 0]) := hK1.put 1 (.string nm1) (by simp)
  have ck1 := HS1.out.cell (i := 0) rfl
  clear hR hT hK1
  try dsimp only
  go_wp2_with fail
  generalize u1.setCell ⟨q, 1, none⟩ (.string nm1) = v1 at *
  clear c1 f1 ck1
  refine (ri64 HS1.out.rd).mono ?_
  rintro e u2 ⟨rfl, hR, hT⟩
  rw [H2.out] at hR ⊢
  have hK2 := HS1.out.call hT hR
  have c2 := hK2.cell (i := 2) rfl
  have f2 := hK2.fz (i := 2) (by simp)
  have HS2 : Hid (Rs w0 (u2.setCell ⟨q, 2, none⟩ (.int .i64 y2)) (rb + 1) a c l s2 q [.int .i64 2, .string nm1, .int .i64 y2, .int .i64 0, .int .i64 0, .int .i64 0, .string { data := #[] }, .string { data := #[] }, .string { data := #[] }, .int .i64 0, .int .i64 0, .int .i64 0, .int .i64 0, .int .i64 0, .int .i64 0, .int .i64 0, .int .i64 0, .int .i64 0]) := hK2.put 2 (.int .i64 y2) (by simp)
  have ck2 := HS2.out.cell (i := 0) rfl
  clear hR hT hK2
  dsimp only
  go_wp2_with fail
  generalize u2.setCell ⟨q, 2, none⟩ (.int .i64 y2) = v2 at *
  clear c2 f2 ck2
  refine (ri64 HS2.out.rd).mono ?_
  rintro e u3 ⟨rfl, hR, hT⟩
  rw [H3.out] at hR ⊢
  have hK3 := HS2.out.call hT hR
  have c3 := hK3.cell (i := 5) rfl
  have f3 := hK3.fz (i := 5) (by simp)
  have HS3 : Hid (Rs w0 (u3.setCell ⟨q, 5, none⟩ (.int .i64 y3)) (rb + 1) a c l s3 q [.int .i64 2, .string nm1, .int .i64 y2, .int .i64 0, .int .i64 0, .int .i64 y3, .string { data := #[] }, .string { data := #[] }, .string { data := #[] }, .int .i64 0, .int .i64 0, .int .i64 0, .int .i64 0, .int .i64 0, .int .i64 0, .int .i64 0, .int .i64 0, .int .i64 0]) := hK3.put 5 (.int .i64 y3) (by simp)
  have ck3 := HS3.out.cell (i := 0) rfl
  clear hR hT hK3
  dsimp only
  go_wp2_with fail
  generalize u3.setCell ⟨q, 5, none⟩ (.int .i64 y3) = v3 at *
  clear c3 f3 ck3
  refine (ri64 HS3.out.rd).mono ?_
  rintro e u4 ⟨rfl, hR, hT⟩
  rw [H4.out] at hR ⊢
  have hK4 := HS3.out.call hT hR
  have c4 := hK4.cell (i := 3) rfl
  have f4 := hK4.fz (i := 3) (by simp)
  have HS4 : Hid (Rs w0 (u4.setCell ⟨q, 3, none⟩ (.int .i64 y4)) (rb + 1) a c l s4 q [.int .i64 2, .string nm1, .int .i64 y2, .int .i64 y4, .int .i64 0, .int .i64 y3, .string { data := #[] }, .string { data := #[] }, .string { data := #[] }, .int .i64 0, .int .i64 0, .int .i64 0, .int .i64 0, .int .i64 0, .int .i64 0, .int .i64 0, .int .i64 0, .int .i64 0]) := hK4.put 3 (.int .i64 y4) (by simp)
  have ck4 := HS4.out.cell (i := 0) rfl
  clear hR hT hK4
  dsimp only
  go_upto_region 35 with fail
  generalize u4.setCell ⟨q, 3, none⟩ (.int .i64 y4) = v4 at *
  clear c4 f4 ck4
  have hl18 : ([.int .i64 2, .string nm1, .int .i64 y2, .int .i64 y4, .int .i64 0, .int .i64 y3, .string { data := #[] }, .string { data := #[] }, .string { data := #[] }, .int .i64 0, .int .i64 0, .int .i64 0, .int .i64 0, .int .i64 0, .int .i64 0, .int .i64 0, .int .i64 0, .int .i64 0] : List Value).length = 18 := rfl
  have HOne : Hid (∀ v ∈ ([.int .i64 2, .string nm1, .int .i64 y2, .int .i64 y4, .int .i64 0, .int .i64 y3, .string { data := #[] }, .string { data := #[] }, .string { data := #[] }, .int .i64 0, .int .i64 0, .int .i64 0, .int .i64 0, .int .i64 0, .int .i64 0, .int .i64 0, .int .i64 0, .int .i64 0] : List Value), v.oneCell' = true) := by
    intro v hv
    simp only [List.mem_cons, List.not_mem_nil, or_false] at hv
    rcases hv with rfl | rfl | rfl | rfl | rfl | rfl | rfl | rfl | rfl | rfl | rfl | rfl | rfl | rfl | rfl | rfl | rfl | rfl <;> rfl
  have hrbq : rb < w0.heap.size := by have := HZ.out; omega
  have HT0 : Hid (v4.there rb 0 18) := there_blk HTh.out (HS4.out.tn.block rb hrbq (by simp))
  have HTw : Hid (Turn [] w v4) := HK0.out.ends HS4.out.tn (by have := HW.out; omega)
  have HRq : Hid (v4.rangeAt q 0 [.int .i64 2, .string nm1, .int .i64 y2, .int .i64 y4, .int .i64 0, .int .i64 y3, .string { data := #[] }, .string { data := #[] }, .string { data := #[] }, .int .i64 0, .int .i64 0, .int .i64 0, .int .i64 0, .int .i64 0, .int .i64 0, .int .i64 0, .int .i64 0, .int .i64 0]) := HS4.out.fl
  have HE := hide (rend HS4.out.rd)
  unfold EndP at HE
  generalize hcs : ([.int .i64 2, .string nm1, .int .i64 y2, .int .i64 y4, .int .i64 0, .int .i64 y3, .string { data := #[] }, .string { data := #[] }, .string { data := #[] }, .int .i64 0, .int .i64 0, .int .i64 0, .int .i64 0, .int .i64 0, .int .i64 0, .int .i64 0, .int .i64 0, .int .i64 0] : List Value) = cs at *
  clear HS4 HTh HK0
  go_wp2_with fail
  refine HE.out.mono ?_
  rintro e x2 ⟨rfl, hR, n, rfl⟩
  have HE2 := hide (rend hR)
  unfold EndP at HE2
  have HR2 : Hid ((v4.drewN n).rangeAt q 0 cs) := fun j u hj => HRq.out j u hj
  have HT2 : Hid ((v4.drewN n).there rb 0 18) := HT0.out
  have HT2m : Hid (∀ m, ((v4.drewN n).drewN m).there rb 0 18) := fun m => HT0.out
  have HTn : Hid (∀ ds : List Value, Turn [] w ((v4.drewN n).setCells rb 0 ds)) := fun ds => by
    have h1 := HTw.out
    exact (show Turn [] w (v4.drewN n) from ⟨h1.os, h1.tape, h1.output, h1.size, h1.block⟩).setCellsN rb (by have := HW.out; omega) ds 0
  have HTm : Hid (∀ m (ds : List Value), Turn [] w (((v4.drewN n).drewN m).setCells rb 0 ds)) := fun m ds => by
    have h1 := HTw.out
    exact (show Turn [] w ((v4.drewN n).drewN m) from ⟨h1.os, h1.tape, h1.output, h1.size, h1.block⟩).setCellsN rb (by have := HW.out; omega) ds 0
  clear hR HE HRq HT0 HTw
  generalize v4.drewN n = x2 at *
  by_cases he : endS s4 = 0
  · rw [he]
    have HR6 := hide (World.rangeAt_setCells_same x2 rb 0 cs (by rw [hl18]; exact HT2.out))
    go_wp2_with (first | ((with_reducible refine load_sz 25 18 sz25 _ q 0 cs hl18 ?_ HR2.out ?_); rfl) | ((with_reducible refine store_sz 25 18 sz25 _ _ rb 0 cs hl18 HOne.out ?_ ?_ HT2.out ?_); rfl; rfl) | fail)
    refine bodyPost_ret (v := .tuple #[.agg cs.toArray, .int .i64 0]) (results_two sz25 Try.results14 hl18 rfl rfl HR6.out) rfl ⟨?_, HTn.out _⟩
    have hse4 : s4.e = 0 := (end_el he).1
    have hse3 : s3.e = 0 := HK4.out hse4
    have hse2 : s2.e = 0 := HK3.out hse3
    have hse1 : s1.e = 0 := HK2.out hse2
    have hse0 : s0.e = 0 := HK1.out hse1
    have hx1 := HNm1.out hse1
    rw [← HRV.out (), he, if_pos rfl, ← hcs, hx1]
    rfl
  · have hne2 : ¬ ((endS s4 : Nat) : Int) = 0 := by omega
    have hlz : ([.int .i64 0, .string { data := #[] }, .int .i64 0, .int .i64 0, .int .i64 0, .int .i64 0, .string { data := #[] }, .string { data := #[] }, .string { data := #[] }, .int .i64 0, .int .i64 0, .int .i64 0, .int .i64 0, .int .i64 0, .int .i64 0, .int .i64 0, .int .i64 0, .int .i64 0] : List Value).length = 18 := rfl
    have HOz : Hid (∀ v ∈ ([.int .i64 0, .string { data := #[] }, .int .i64 0, .int .i64 0, .int .i64 0, .int .i64 0, .string { data := #[] }, .string { data := #[] }, .string { data := #[] }, .int .i64 0, .int .i64 0, .int .i64 0, .int .i64 0, .int .i64 0, .int .i64 0, .int .i64 0, .int .i64 0, .int .i64 0] : List Value), v.oneCell' = true) := rqC_one Rq.zero
    have HEn : Hid (endS s4 ≠ 0) := he
    clear he
    generalize endS s4 = E at *
    go_wp2_with fail
    refine HE2.out.mono ?_
    rintro e v9 ⟨rfl, _, m, rfl⟩
    have HT3 := hide (HT2m.out m)
    have HTq := hide (HTm.out m)
    clear HTm HT2m HTn
    generalize x2.drewN m = x3 at *
    have HR6 := hide (World.rangeAt_setCells_same x3 rb 0 [.int .i64 0, .string { data := #[] }, .int .i64 0, .int .i64 0, .int .i64 0, .int .i64 0, .string { data := #[] }, .string { data := #[] }, .string { data := #[] }, .int .i64 0, .int .i64 0, .int .i64 0, .int .i64 0, .int .i64 0, .int .i64 0, .int .i64 0, .int .i64 0, .int .i64 0] HT3.out)
    go_wp2_with (first | ((with_reducible refine store_sz 25 18 sz25 _ _ rb 0 [.int .i64 0, .string { data := #[] }, .int .i64 0, .int .i64 0, .int .i64 0, .int .i64 0, .string { data := #[] }, .string { data := #[] }, .string { data := #[] }, .int .i64 0, .int .i64 0, .int .i64 0, .int .i64 0, .int .i64 0, .int .i64 0, .int .i64 0, .int .i64 0, .int .i64 0] hlz HOz.out ?_ ?_ HT3.out ?_); rfl; rfl) | fail)
    refine bodyPost_ret (v := .tuple #[.agg (rqC Rq.zero).toArray, .int .i64 (E : Nat)]) (results_two sz25 Try.results14 hlz rfl rfl HR6.out) rfl ⟨?_, HTq.out _⟩
    rw [← HRV.out (), if_neg HEn.out]

set_option maxRecDepth 100000 in
set_option maxHeartbeats 6400000 in
theorem rparsecut (w : World) (a : Option Addr) (c : Nat) (l : List Nat) (hB : BytesAt w a l) (hc : l.length ≤ c) (hl : l.length ≤ 1000000) (hx : ∀ x ∈ l, x < 256) (hk : (countS .pr ⟨l, 0⟩ 0).1.e ≠ 0 ∧ (countS .pr ⟨l, 0⟩ 0).2 = 0) :
    Calls Try.prog 14 #[.slice a l.length c] w fun r w' => PrqP w (reqK rfC (countS .pr ⟨l, 0⟩ 0).1 Rq.zero 5).1 (reqK rfC (countS .pr ⟨l, 0⟩ 0).1 Rq.zero 5).2 r w' := by
  have hT0 : Turn [] w (w.alloc (.cells (rqC Rq.zero).toArray 25)) := (Turn.refl [] w).alloc _
  have hz0 : (w.alloc (.cells (rqC Rq.zero).toArray 25)).heap.size = w.heap.size + 1 := by simp
  have hF := rdr_new (w := w.alloc (.cells (rqC Rq.zero).toArray 25)) (hB.turn hT0 (by simp)) hc hl hx
  rw [hz0] at hF
  have hz1 : ((w.alloc (.cells (rqC Rq.zero).toArray 25)).alloc (.cells #[.slice a l.length c, .int .i64 0, .int .i64 0] 82)).heap.size = w.heap.size + 2 := by simp
  have hK0 : Turn [] w ((w.alloc (.cells (rqC Rq.zero).toArray 25)).alloc (.cells #[.slice a l.length c, .int .i64 0, .int .i64 0] 82)) := hT0.alloc _
  have hTh : ((w.alloc (.cells (rqC Rq.zero).toArray 25)).alloc (.cells #[.slice a l.length c, .int .i64 0, .int .i64 0] 82)).there w.heap.size 0 18 := there_blk (there_new2 w (rqC Rq.zero).toArray 25) (Below.heap_alloc _ _ _ (by rw [hz0]; omega))
  have HAd : Hid (∀ x, l ≠ [] → a = some x → x.block < w.heap.size + 2) := fun x h e => by have := hB.lt x h e; omega
  have HC := hide (ru8 hF)
  have HK0 := hide hK0
  have HZ := hide hz1
  have HTh := hide hTh
  clear hF hK0 hz1 hTh hT0 hz0 hB hx
  unfold U8P at HC
  unfold PrqP
  obtain ⟨⟨s0, k0⟩, h0⟩ : ∃ T, countS .pr ⟨l, 0⟩ 0 = T := ⟨_, rfl⟩
  rw [h0] at hk HC ⊢
  obtain ⟨hk1, hk2⟩ := hk
  dsimp only at hk1 hk2 HC ⊢
  subst hk2
  obtain ⟨⟨s1, y1⟩, h1⟩ : ∃ T, textS .pr s0 ByteArray.empty = T := ⟨_, rfl⟩
  have hS : reqK rfC s0 Rq.zero 5 = (s1, { Rq.zero with k := 5, key := y1 }) := by
    unfold reqK rfC
    simp only [h1]
    rfl
  rw [hS]
  dsimp only
  have HK1 : Hid (s1.e = 0 → s0.e = 0) := fun (h : s1.e = 0) => text_e (z := ByteArray.empty) (by rw [h1]; exact h)
  have H1 := hide h1
  clear hS h0 h1
  obtain ⟨RV, hRV⟩ : ∃ R, Value.tuple #[.agg (rqC (if endS s1 = 0 then { Rq.zero with k := 5, key := y1 } else Rq.zero)).toArray, .int .i64 (endS s1 : Nat)] = R := ⟨_, rfl⟩
  rw [hRV]
  have HRV := hide (fun (_ : Unit) => hRV)
  clear hRV
  generalize hrb : w.heap.size = rb at *
  have HW := hide hrb
  go_enter Try.func14, Try.ntmps14
  go_wp2_with fail
  clear hrb
  change Calls Try.prog _ _ ((w.alloc (.cells (rqC Rq.zero).toArray 25)).alloc (.cells #[.slice a l.length c, .int .i64 0, .int .i64 0] 82)) _
  generalize (w.alloc (.cells (rqC Rq.zero).toArray 25)).alloc (.cells #[.slice a l.length c, .int .i64 0, .int .i64 0] 82) = w0 at *
  refine HC.out.mono ?_
  rintro e w1 ⟨rfl, hR, hT⟩
  have hthq : (w1.alloc (.cells #[.int .i64 0, .string { data := #[] }, .int .i64 0, .int .i64 0, .int .i64 0, .int .i64 0, .string { data := #[] }, .string { data := #[] }, .string { data := #[] }, .int .i64 0, .int .i64 0, .int .i64 0, .int .i64 0, .int .i64 0, .int .i64 0, .int .i64 0, .int .i64 0, .int .i64 0] 25)).there w1.heap.size 0 18 := there_new2 w1 #[.int .i64 0, .string { data := #[] }, .int .i64 0, .int .i64 0, .int .i64 0, .int .i64 0, .string { data := #[] }, .string { data := #[] }, .string { data := #[] }, .int .i64 0, .int .i64 0, .int .i64 0, .int .i64 0, .int .i64 0, .int .i64 0, .int .i64 0, .int .i64 0, .int .i64 0] 25
  have hRs := (Rs.new hR hT (by have := HZ.out; omega) (fun x hx e => by have := HAd.out x hx e; have := HZ.out; omega) #[.int .i64 0, .string { data := #[] }, .int .i64 0, .int .i64 0, .int .i64 0, .int .i64 0, .string { data := #[] }, .string { data := #[] }, .string { data := #[] }, .int .i64 0, .int .i64 0, .int .i64 0, .int .i64 0, .int .i64 0, .int .i64 0, .int .i64 0, .int .i64 0, .int .i64 0] 25).puts 0 [.int .i64 0, .string { data := #[] }, .int .i64 0, .int .i64 0, .int .i64 0, .int .i64 0, .string { data := #[] }, .string { data := #[] }, .string { data := #[] }, .int .i64 0, .int .i64 0, .int .i64 0, .int .i64 0, .int .i64 0, .int .i64 0, .int .i64 0, .int .i64 0, .int .i64 0] (by simp)
  have HS0 : Hid (Rs w0 ((w1.alloc (.cells #[.int .i64 0, .string { data := #[] }, .int .i64 0, .int .i64 0, .int .i64 0, .int .i64 0, .string { data := #[] }, .string { data := #[] }, .string { data := #[] }, .int .i64 0, .int .i64 0, .int .i64 0, .int .i64 0, .int .i64 0, .int .i64 0, .int .i64 0, .int .i64 0, .int .i64 0] 25)).setCells w1.heap.size 0 [.int .i64 0, .string { data := #[] }, .int .i64 0, .int .i64 0, .int .i64 0, .int .i64 0, .string { data := #[] }, .string { data := #[] }, .string { data := #[] }, .int .i64 0, .int .i64 0, .int .i64 0, .int .i64 0, .int .i64 0, .int .i64 0, .int .i64 0, .int .i64 0, .int .i64 0]) (rb + 1) a c l s0 w1.heap.size [.int .i64 0, .string { data := #[] }, .int .i64 0, .int .i64 0, .int .i64 0, .int .i64 0, .string { data := #[] }, .string { data := #[] }, .string { data := #[] }, .int .i64 0, .int .i64 0, .int .i64 0, .int .i64 0, .int .i64 0, .int .i64 0, .int .i64 0, .int .i64 0, .int .i64 0]) := hRs
  have hl18 : ([.int .i64 0, .string { data := #[] }, .int .i64 0, .int .i64 0, .int .i64 0, .int .i64 0, .string { data := #[] }, .string { data := #[] }, .string { data := #[] }, .int .i64 0, .int .i64 0, .int .i64 0, .int .i64 0, .int .i64 0, .int .i64 0, .int .i64 0, .int .i64 0, .int .i64 0] : List Value).length = 18 := rfl
  have HOne0 : Hid (∀ v ∈ ([.int .i64 0, .string { data := #[] }, .int .i64 0, .int .i64 0, .int .i64 0, .int .i64 0, .string { data := #[] }, .string { data := #[] }, .string { data := #[] }, .int .i64 0, .int .i64 0, .int .i64 0, .int .i64 0, .int .i64 0, .int .i64 0, .int .i64 0, .int .i64 0, .int .i64 0] : List Value), v.oneCell' = true) := by
    intro v hv
    simp only [List.mem_cons, List.not_mem_nil, or_false] at hv
    rcases hv with rfl | rfl | rfl | rfl | rfl | rfl | rfl | rfl | rfl | rfl | rfl | rfl | rfl | rfl | rfl | rfl | rfl | rfl <;> rfl
  have HThq := hide hthq
  clear hR hT hRs hthq HC
  go_upto_region 3 with (first | ((with_reducible refine store_sz 25 18 sz25 _ _ w1.heap.size 0 [.int .i64 0, .string { data := #[] }, .int .i64 0, .int .i64 0, .int .i64 0, .int .i64 0, .string { data := #[] }, .string { data := #[] }, .string { data := #[] }, .int .i64 0, .int .i64 0, .int .i64 0, .int .i64 0, .int .i64 0, .int .i64 0, .int .i64 0, .int .i64 0, .int .i64 0] hl18 HOne0.out ?_ ?_ HThq.out ?_); rfl; rfl) | fail)
  generalize w1.heap.size = q at *
  generalize (w1.alloc (.cells #[.int .i64 0, .string { data := #[] }, .int .i64 0, .int .i64 0, .int .i64 0, .int .i64 0, .string { data := #[] }, .string { data := #[] }, .string { data := #[] }, .int .i64 0, .int .i64 0, .int .i64 0, .int .i64 0, .int .i64 0, .int .i64 0, .int .i64 0, .int .i64 0, .int .i64 0] 25)).setCells q 0 [.int .i64 0, .string { data := #[] }, .int .i64 0, .int .i64 0, .int .i64 0, .int .i64 0, .string { data := #[] }, .string { data := #[] }, .string { data := #[] }, .int .i64 0, .int .i64 0, .int .i64 0, .int .i64 0, .int .i64 0, .int .i64 0, .int .i64 0, .int .i64 0, .int .i64 0] = v0 at *
  clear HThq HOne0 hl18
  have ck := HS0.out.cell (i := 0) rfl
  have ce := HS0.out.rd.c2
  have hne : ¬ ((s0.e : Nat) : Int) = 0 := by omega
  have hneb : (((s0.e : Nat) : Int) == 0) = false := by rw [beq_eq_false_iff_ne]; exact hne
  go_wp2_with fail
  have HCt := hide (rtxt HS0.out.rd)
  unfold TxtP at HCt
  rw [H1.out] at HCt
  dsimp only at HCt
  refine HCt.out.mono ?_
  rintro e u1 ⟨nm1, rfl, hR, hnm, hT⟩
  have HNm1 := hide hnm
  clear HCt hnm
  have hK1 := HS0.out.call hT hR
  have c1 := hK1.cell (i := 1) rfl
  have f1 := hK1.fz (i := 1) (by simp)
  have HS1 : Hid (Rs w0 (u1.setCell ⟨q, 1, none⟩ (.string nm1)) (rb + 1) a c l s1 q [.int .i64 0, .string nm1, .int .i64 0, .int .i64 0, .int .i64 0, .int .i64 0, .string { data := #[] }, .string { data := #[] }, .string { data := #[] }, .int .i64 0, .int .i64 0, .int .i64 0, .int .i64 0, .int .i64 0, .int .i64 0, .int .i64 0, .int .i64 0, .int .i64 0]) := hK1.put 1 (.string nm1) (by simp)
  have ck1 := HS1.out.cell (i := 0) rfl
  clear hR hT hK1
  try dsimp only
  go_upto_region 35 with fail
  generalize u1.setCell ⟨q, 1, none⟩ (.string nm1) = v1 at *
  clear c1 f1 ck1
  have hl18 : ([.int .i64 0, .string nm1, .int .i64 0, .int .i64 0, .int .i64 0, .int .i64 0, .string { data := #[] }, .string { data := #[] }, .string { data := #[] }, .int .i64 0, .int .i64 0, .int .i64 0, .int .i64 0, .int .i64 0, .int .i64 0, .int .i64 0, .int .i64 0, .int .i64 0] : List Value).length = 18 := rfl
  have HOne : Hid (∀ v ∈ ([.int .i64 0, .string nm1, .int .i64 0, .int .i64 0, .int .i64 0, .int .i64 0, .string { data := #[] }, .string { data := #[] }, .string { data := #[] }, .int .i64 0, .int .i64 0, .int .i64 0, .int .i64 0, .int .i64 0, .int .i64 0, .int .i64 0, .int .i64 0, .int .i64 0] : List Value), v.oneCell' = true) := by
    intro v hv
    simp only [List.mem_cons, List.not_mem_nil, or_false] at hv
    rcases hv with rfl | rfl | rfl | rfl | rfl | rfl | rfl | rfl | rfl | rfl | rfl | rfl | rfl | rfl | rfl | rfl | rfl | rfl <;> rfl
  have hrbq : rb < w0.heap.size := by have := HZ.out; omega
  have HT0 : Hid (v1.there rb 0 18) := there_blk HTh.out (HS1.out.tn.block rb hrbq (by simp))
  have HTw : Hid (Turn [] w v1) := HK0.out.ends HS1.out.tn (by have := HW.out; omega)
  have HRq : Hid (v1.rangeAt q 0 [.int .i64 0, .string nm1, .int .i64 0, .int .i64 0, .int .i64 0, .int .i64 0, .string { data := #[] }, .string { data := #[] }, .string { data := #[] }, .int .i64 0, .int .i64 0, .int .i64 0, .int .i64 0, .int .i64 0, .int .i64 0, .int .i64 0, .int .i64 0, .int .i64 0]) := HS1.out.fl
  have HE := hide (rend HS1.out.rd)
  unfold EndP at HE
  generalize hcs : ([.int .i64 0, .string nm1, .int .i64 0, .int .i64 0, .int .i64 0, .int .i64 0, .string { data := #[] }, .string { data := #[] }, .string { data := #[] }, .int .i64 0, .int .i64 0, .int .i64 0, .int .i64 0, .int .i64 0, .int .i64 0, .int .i64 0, .int .i64 0, .int .i64 0] : List Value) = cs at *
  clear HS1 HTh HK0
  go_wp2_with fail
  refine HE.out.mono ?_
  rintro e x2 ⟨rfl, hR, n, rfl⟩
  have HE2 := hide (rend hR)
  unfold EndP at HE2
  have HR2 : Hid ((v1.drewN n).rangeAt q 0 cs) := fun j u hj => HRq.out j u hj
  have HT2 : Hid ((v1.drewN n).there rb 0 18) := HT0.out
  have HT2m : Hid (∀ m, ((v1.drewN n).drewN m).there rb 0 18) := fun m => HT0.out
  have HTn : Hid (∀ ds : List Value, Turn [] w ((v1.drewN n).setCells rb 0 ds)) := fun ds => by
    have h1 := HTw.out
    exact (show Turn [] w (v1.drewN n) from ⟨h1.os, h1.tape, h1.output, h1.size, h1.block⟩).setCellsN rb (by have := HW.out; omega) ds 0
  have HTm : Hid (∀ m (ds : List Value), Turn [] w (((v1.drewN n).drewN m).setCells rb 0 ds)) := fun m ds => by
    have h1 := HTw.out
    exact (show Turn [] w ((v1.drewN n).drewN m) from ⟨h1.os, h1.tape, h1.output, h1.size, h1.block⟩).setCellsN rb (by have := HW.out; omega) ds 0
  clear hR HE HRq HT0 HTw
  generalize v1.drewN n = x2 at *
  by_cases he : endS s1 = 0
  · rw [he]
    have HR6 := hide (World.rangeAt_setCells_same x2 rb 0 cs (by rw [hl18]; exact HT2.out))
    go_wp2_with (first | ((with_reducible refine load_sz 25 18 sz25 _ q 0 cs hl18 ?_ HR2.out ?_); rfl) | ((with_reducible refine store_sz 25 18 sz25 _ _ rb 0 cs hl18 HOne.out ?_ ?_ HT2.out ?_); rfl; rfl) | fail)
    refine bodyPost_ret (v := .tuple #[.agg cs.toArray, .int .i64 0]) (results_two sz25 Try.results14 hl18 rfl rfl HR6.out) rfl ⟨?_, HTn.out _⟩
    have hse1 : s1.e = 0 := (end_el he).1
    have hse0 : s0.e = 0 := HK1.out hse1
    exact absurd hse0 hk1
  · have hne2 : ¬ ((endS s1 : Nat) : Int) = 0 := by omega
    have hlz : ([.int .i64 0, .string { data := #[] }, .int .i64 0, .int .i64 0, .int .i64 0, .int .i64 0, .string { data := #[] }, .string { data := #[] }, .string { data := #[] }, .int .i64 0, .int .i64 0, .int .i64 0, .int .i64 0, .int .i64 0, .int .i64 0, .int .i64 0, .int .i64 0, .int .i64 0] : List Value).length = 18 := rfl
    have HOz : Hid (∀ v ∈ ([.int .i64 0, .string { data := #[] }, .int .i64 0, .int .i64 0, .int .i64 0, .int .i64 0, .string { data := #[] }, .string { data := #[] }, .string { data := #[] }, .int .i64 0, .int .i64 0, .int .i64 0, .int .i64 0, .int .i64 0, .int .i64 0, .int .i64 0, .int .i64 0, .int .i64 0] : List Value), v.oneCell' = true) := rqC_one Rq.zero
    have HEn : Hid (endS s1 ≠ 0) := he
    clear he
    generalize endS s1 = E at *
    go_wp2_with fail
    refine HE2.out.mono ?_
    rintro e v9 ⟨rfl, _, m, rfl⟩
    have HT3 := hide (HT2m.out m)
    have HTq := hide (HTm.out m)
    clear HTm HT2m HTn
    generalize x2.drewN m = x3 at *
    have HR6 := hide (World.rangeAt_setCells_same x3 rb 0 [.int .i64 0, .string { data := #[] }, .int .i64 0, .int .i64 0, .int .i64 0, .int .i64 0, .string { data := #[] }, .string { data := #[] }, .string { data := #[] }, .int .i64 0, .int .i64 0, .int .i64 0, .int .i64 0, .int .i64 0, .int .i64 0, .int .i64 0, .int .i64 0, .int .i64 0] HT3.out)
    go_wp2_with (first | ((with_reducible refine store_sz 25 18 sz25 _ _ rb 0 [.int .i64 0, .string { data := #[] }, .int .i64 0, .int .i64 0, .int .i64 0, .int .i64 0, .string { data := #[] }, .string { data := #[] }, .string { data := #[] }, .int .i64 0, .int .i64 0, .int .i64 0, .int .i64 0, .int .i64 0, .int .i64 0, .int .i64 0, .int .i64 0, .int .i64 0] hlz HOz.out ?_ ?_ HT3.out ?_); rfl; rfl) | fail)
    refine bodyPost_ret (v := .tuple #[.agg (rqC Rq.zero).toArray, .int .i64 (E : Nat)]) (results_two sz25 Try.results14 hlz rfl rfl HR6.out) rfl ⟨?_, HTq.out _⟩
    rw [← HRV.out (), if_neg HEn.out]

end Go.Proofs.Ytkbboingeacgjaa
