/-
  ParseRequest of the frame, walked.
-/
import Derived.Test.YtkbboingeacgjaaFReqPA
import Derived.Test.YtkbboingeacgjaaFReqPB
import Derived.Test.YtkbboingeacgjaaFReqPC
import Derived.Test.YtkbboingeacgjaaQTD
namespace Go.Proofs.Ytkbboingeacgjaa
open Go.RowKit

theorem zero_ok : Rq.zero.Ok := ⟨by decide, by decide, by decide, by decide⟩
theorem reqp {b g : Nat} {w : World} {s : Sx} (r : Rq) (hr : r.Ok) (h : AtP b g 0 w s) :
    Calls Try.prog 24 #[.agg #[.iface 74 (.pointer (some ⟨b, 0, none⟩))], .agg (rqC r).toArray] w fun e w' => e = .returned (.agg (rqC (reqS prC s r).2).toArray) ∧ AtP b g 99 w' (reqS prC s r).1 ∧ Keep (fun x => x ≠ b) w w' := by
  by_cases hk : isK (prC.kind s r.k).2
  · obtain ⟨K, hK⟩ : ∃ K, (prC.kind s r.k).2 = K := ⟨_, rfl⟩
    rw [hK] at hk
    rcases hk with rfl | rfl | rfl | rfl | rfl | rfl | rfl | rfl | rfl | rfl
    · exact reqp1 r hr hK h
    · exact reqp4 r hr hK h
    · exact reqp2 r hr hK h
    · exact reqp3 r hr hK h
    · exact reqp5 r hr hK h
    · exact reqp16 r hr hK h
    · exact reqp17 r hr hK h
    · exact reqp18 r hr hK h
    · exact reqp19 r hr hK h
    · exact reqp20 r hr hK h
  · exact reqpno r hr hk h

/-- What a parse answers: the request, or nothing but a fault. -/
def PrqP (w : World) (s : Sx) (A : Rq) (r : Ending) (w' : World) : Prop := r = .returned (.tuple #[.agg (rqC (if endS s = 0 then A else Rq.zero)).toArray, .int .i64 (endS s : Nat)]) ∧ Turn [] w w'

set_option maxRecDepth 100000 in
set_option maxHeartbeats 3200000 in
theorem parsereq (w : World) (a : Option Addr) (c : Nat) (l : List Nat) (h : Byr w a c l) :
    Calls Try.prog 13 #[.slice a l.length c] w fun r w' => PrqP w (reqS prC ⟨l, 0⟩ Rq.zero).1 (reqS prC ⟨l, 0⟩ Rq.zero).2 r w' := by
  have hT0 : Turn [] w (w.alloc (.cells (rqC Rq.zero).toArray 25)) := (Turn.refl [] w).alloc _
  have hz0 : (w.alloc (.cells (rqC Rq.zero).toArray 25)).heap.size = w.heap.size + 1 := by simp
  obtain ⟨g, hg, hF⟩ := fp_new (w := w.alloc (.cells (rqC Rq.zero).toArray 25)) (by rw [hz0]; omega) a c l (h.bt.turn hT0 (by simp)) h.by8 h.lc h.cm h.ad
  rw [hz0] at hF hg
  have hz1 : ((w.alloc (.cells (rqC Rq.zero).toArray 25)).alloc (.cells #[.int .i64 0, .slice a l.length c] 78)).heap.size = w.heap.size + 2 := by simp
  have hK0 : Keep (fun _ => True) w ((w.alloc (.cells (rqC Rq.zero).toArray 25)).alloc (.cells #[.int .i64 0, .slice a l.length c] 78)) := ((Keep.refl _ w).alloc _).alloc _
  have hTh : ((w.alloc (.cells (rqC Rq.zero).toArray 25)).alloc (.cells #[.int .i64 0, .slice a l.length c] 78)).there w.heap.size 0 18 := there_blk (there_new2 w (rqC Rq.zero).toArray 25) (Below.heap_alloc _ _ _ (by rw [hz0]; omega))
  have HC := hide (reqp Rq.zero zero_ok ⟨hF, by rw [hz1]; omega⟩)
  have HK0 := hide hK0
  have HZ := hide hz1
  have HTh := hide hTh
  clear hF hK0 hz1 hTh hT0 hz0 h
  unfold PrqP
  generalize reqS prC ⟨l, 0⟩ Rq.zero = T at *
  obtain ⟨s, A⟩ := T
  dsimp only at HC ⊢
  obtain ⟨RV, hRV⟩ : ∃ R, Value.tuple #[.agg (rqC (if endS s = 0 then A else Rq.zero)).toArray, .int .i64 (endS s : Nat)] = R := ⟨_, rfl⟩
  rw [hRV]
  have HRV := hide (fun (_ : Unit) => hRV)
  clear hRV
  generalize hrb : w.heap.size = rb at *
  have HW := hide hrb
  go_enter Try.func13, Try.ntmps13
  go_wp2_with fail
  clear hrb
  change Calls Try.prog _ _ ((w.alloc (.cells (rqC Rq.zero).toArray 25)).alloc (.cells #[.int .i64 0, .slice a l.length c] 78)) _
  generalize (w.alloc (.cells (rqC Rq.zero).toArray 25)).alloc (.cells #[.int .i64 0, .slice a l.length c] 78) = w0 at *
  refine HC.out.mono ?_
  rintro e w1 ⟨rfl, ⟨hS, _⟩, hK⟩
  have hz1 := hK.size
  have hl13 := rqC_len A
  have HOne := hide (rqC_one A)
  have HR1 := hide (rng_new w1 (rqC Rq.zero) #[.int .i64 0, .string { data := #[] }, .int .i64 0, .int .i64 0, .int .i64 0, .int .i64 0, .string { data := #[] }, .string { data := #[] }, .string { data := #[] }, .int .i64 0, .int .i64 0, .int .i64 0, .int .i64 0, .int .i64 0, .int .i64 0, .int .i64 0, .int .i64 0, .int .i64 0] 25 rfl)
  have HT1 : Hid ((w1.alloc (.cells #[.int .i64 0, .string { data := #[] }, .int .i64 0, .int .i64 0, .int .i64 0, .int .i64 0, .string { data := #[] }, .string { data := #[] }, .string { data := #[] }, .int .i64 0, .int .i64 0, .int .i64 0, .int .i64 0, .int .i64 0, .int .i64 0, .int .i64 0, .int .i64 0, .int .i64 0] 25)).there w1.heap.size 0 18) := there_new2 w1 #[.int .i64 0, .string { data := #[] }, .int .i64 0, .int .i64 0, .int .i64 0, .int .i64 0, .string { data := #[] }, .string { data := #[] }, .string { data := #[] }, .int .i64 0, .int .i64 0, .int .i64 0, .int .i64 0, .int .i64 0, .int .i64 0, .int .i64 0, .int .i64 0, .int .i64 0] 25
  have hrb1 : rb < w1.heap.size := by have := HZ.out; omega
  have HA1 : Hid (FpAt ((w1.alloc (.cells #[.int .i64 0, .string { data := #[] }, .int .i64 0, .int .i64 0, .int .i64 0, .int .i64 0, .string { data := #[] }, .string { data := #[] }, .string { data := #[] }, .int .i64 0, .int .i64 0, .int .i64 0, .int .i64 0, .int .i64 0, .int .i64 0, .int .i64 0, .int .i64 0, .int .i64 0] 25)).setCells w1.heap.size 0 (rqC A)) (rb + 1) g s ∧ ((w1.alloc (.cells #[.int .i64 0, .string { data := #[] }, .int .i64 0, .int .i64 0, .int .i64 0, .int .i64 0, .string { data := #[] }, .string { data := #[] }, .string { data := #[] }, .int .i64 0, .int .i64 0, .int .i64 0, .int .i64 0, .int .i64 0, .int .i64 0, .int .i64 0, .int .i64 0, .int .i64 0] 25)).setCells w1.heap.size 0 (rqC A)).rangeAt w1.heap.size 0 (rqC A) ∧ ((w1.alloc (.cells #[.int .i64 0, .string { data := #[] }, .int .i64 0, .int .i64 0, .int .i64 0, .int .i64 0, .string { data := #[] }, .string { data := #[] }, .string { data := #[] }, .int .i64 0, .int .i64 0, .int .i64 0, .int .i64 0, .int .i64 0, .int .i64 0, .int .i64 0, .int .i64 0, .int .i64 0] 25)).setCells w1.heap.size 0 (rqC A)).there rb 0 18 ∧ Keep (fun x => x ≠ rb + 1) w ((w1.alloc (.cells #[.int .i64 0, .string { data := #[] }, .int .i64 0, .int .i64 0, .int .i64 0, .int .i64 0, .string { data := #[] }, .string { data := #[] }, .string { data := #[] }, .int .i64 0, .int .i64 0, .int .i64 0, .int .i64 0, .int .i64 0, .int .i64 0, .int .i64 0, .int .i64 0, .int .i64 0] 25)).setCells w1.heap.size 0 (rqC A))) := by
    refine ⟨(hS.keep (P := fun _ => True) ((Keep.refl _ w1).alloc _) trivial trivial).keep (P := fun x => x ≠ w1.heap.size) ((Keep.refl _ _).setCells (.inl (fun h => h rfl)) 0 _) (by have := HZ.out; omega) (by have := HZ.out; omega), World.rangeAt_setCells_same _ _ 0 (rqC A) HT1.out, there_blk (there_blk (there_keep hK (by omega) HTh.out) (Below.heap_alloc _ _ _ hrb1)) (heap_setCellsN _ _ (by omega) _ _ _), (((HK0.out.less (fun _ _ _ => trivial)).trans hK).alloc _).setCells (.inr (by have := HW.out; have := HZ.out; omega)) 0 _⟩
  clear hS hK HC HTh HK0 HR1
  generalize hcs : rqC A = cs at *
  go_upto_region 3 with (first | ((with_reducible refine store_sz 25 18 sz25 _ _ w1.heap.size 0 cs hl13 HOne.out ?_ ?_ HT1.out ?_); rfl; rfl) | fail)
  generalize hq : w1.heap.size = q at *
  have hqb : q ≠ rb + 1 := by have := HZ.out; omega
  clear HT1 hz1
  generalize (w1.alloc (.cells #[.int .i64 0, .string { data := #[] }, .int .i64 0, .int .i64 0, .int .i64 0, .int .i64 0, .string { data := #[] }, .string { data := #[] }, .string { data := #[] }, .int .i64 0, .int .i64 0, .int .i64 0, .int .i64 0, .int .i64 0, .int .i64 0, .int .i64 0, .int .i64 0, .int .i64 0] 25)).setCells q 0 cs = v1 at *
  clear hq
  have HE := hide (fpend HA1.out.1)
  have hE : (if s.l = [] then s else refuseS s 9).e = endS s := rfl
  rw [hE] at HE
  clear hE
  go_wp2_with fail
  refine HE.out.mono ?_
  rintro e v2 ⟨rfl, hK⟩
  have hbl := lt_of_cell HA1.out.1.c0
  have hR2 : v2.rangeAt q 0 cs := fun j u hj => (hK.cell (lt_of_cell (HA1.out.2.1 j u hj)) (by omega)).trans (HA1.out.2.1 j u hj)
  have hT2 : v2.there rb 0 18 := there_keep hK (by omega) HA1.out.2.2.1
  have hKw : Keep (fun x => x ≠ rb + 1) w v2 := HA1.out.2.2.2.trans hK
  have HTn : Hid (∀ ds : List Value, Turn [] w (v2.setCells rb 0 ds)) := fun ds => by
    have h1 := hKw.setCells (q := rb) (.inr (by have := HW.out; omega)) 0 ds
    exact ⟨h1.os, h1.tape, h1.output, h1.size, fun k hk _ => h1.block k hk (by have := HW.out; omega)⟩
  have HR2 := hide hR2
  have HT2 := hide hT2
  clear hR2 hT2 hKw hK HA1 HE
  by_cases he : endS s = 0
  · rw [he]
    have HR6 := hide (World.rangeAt_setCells_same v2 rb 0 cs (by rw [hl13]; exact HT2.out))
    go_wp2_with (first | ((with_reducible refine load_sz 25 18 sz25 _ q 0 cs hl13 ?_ HR2.out ?_); rfl) | ((with_reducible refine store_sz 25 18 sz25 _ _ rb 0 cs hl13 HOne.out ?_ ?_ HT2.out ?_); rfl; rfl) | fail)
    refine bodyPost_ret (v := .tuple #[.agg cs.toArray, .int .i64 0]) (results_two sz25 Try.results13 hl13 rfl rfl HR6.out) rfl ⟨?_, HTn.out _⟩
    rw [← HRV.out (), he, if_pos rfl, hcs]
    rfl
  · have hne : ¬ ((endS s : Nat) : Int) = 0 := by omega
    have hlz : ([.int .i64 0, .string { data := #[] }, .int .i64 0, .int .i64 0, .int .i64 0, .int .i64 0, .string { data := #[] }, .string { data := #[] }, .string { data := #[] }, .int .i64 0, .int .i64 0, .int .i64 0, .int .i64 0, .int .i64 0, .int .i64 0, .int .i64 0, .int .i64 0, .int .i64 0] : List Value).length = 18 := rfl
    have HOz : Hid (∀ v ∈ ([.int .i64 0, .string { data := #[] }, .int .i64 0, .int .i64 0, .int .i64 0, .int .i64 0, .string { data := #[] }, .string { data := #[] }, .string { data := #[] }, .int .i64 0, .int .i64 0, .int .i64 0, .int .i64 0, .int .i64 0, .int .i64 0, .int .i64 0, .int .i64 0, .int .i64 0] : List Value), v.oneCell' = true) := rqC_one Rq.zero
    have HR6 := hide (World.rangeAt_setCells_same v2 rb 0 [.int .i64 0, .string { data := #[] }, .int .i64 0, .int .i64 0, .int .i64 0, .int .i64 0, .string { data := #[] }, .string { data := #[] }, .string { data := #[] }, .int .i64 0, .int .i64 0, .int .i64 0, .int .i64 0, .int .i64 0, .int .i64 0, .int .i64 0, .int .i64 0, .int .i64 0] HT2.out)
    have HEn : Hid (endS s ≠ 0) := he
    clear he
    generalize endS s = E at *
    go_wp2_with (first | ((with_reducible refine store_sz 25 18 sz25 _ _ rb 0 [.int .i64 0, .string { data := #[] }, .int .i64 0, .int .i64 0, .int .i64 0, .int .i64 0, .string { data := #[] }, .string { data := #[] }, .string { data := #[] }, .int .i64 0, .int .i64 0, .int .i64 0, .int .i64 0, .int .i64 0, .int .i64 0, .int .i64 0, .int .i64 0, .int .i64 0] hlz HOz.out ?_ ?_ HT2.out ?_); rfl; rfl) | fail)
    refine bodyPost_ret (v := .tuple #[.agg (rqC Rq.zero).toArray, .int .i64 (E : Nat)]) (results_two sz25 Try.results13 hlz rfl rfl HR6.out) rfl ⟨?_, HTn.out _⟩
    rw [← HRV.out (), if_neg HEn.out]

end Go.Proofs.Ytkbboingeacgjaa
