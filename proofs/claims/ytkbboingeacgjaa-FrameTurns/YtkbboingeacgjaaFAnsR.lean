/-
  ParseAnswer and EncodeAnswer of the reference, walked.
-/
import Derived.Test.YtkbboingeacgjaaFAnsQ
namespace Go.Proofs.Ytkbboingeacgjaa
open Go.RowKit

/-- A reader at its beginning. -/
theorem rdr_new {w : World} {a : Option Addr} {cap : Nat} {B : List Nat} (hB : BytesAt w a B) (hc : B.length ≤ cap) (hl : B.length ≤ 1000000) (hx : ∀ x ∈ B, x < 256) : Rdr (w.alloc (.cells #[.slice a B.length cap, .int .i64 0, .int .i64 0] 82)) w.heap.size a cap B ⟨B, 0⟩ := by
  have hb : (w.alloc (.cells #[.slice a B.length cap, .int .i64 0, .int .i64 0] 82)).heap[w.heap.size]? = some (.cells #[.slice a B.length cap, .int .i64 0, .int .i64 0] 82 (0, 0)) := Array.getElem?_push_size
  refine ⟨?_, ⟨0, ?_, Nat.zero_le _, fun _ => rfl⟩, ?_, frozen_of_row _ _ _ _ _ hb, frozen_of_row _ _ _ _ _ hb, hB.keep (fun x hx e => Below.heap_alloc w _ _ (hB.lt x hx e)), fun x hx e => Nat.ne_of_lt (hB.lt x hx e), hl, hc, hx⟩
  · rw [cell_of_row _ _ _ _ _ _ hb]; rfl
  · rw [cell_of_row _ _ _ _ _ _ hb]; rfl
  · rw [cell_of_row _ _ _ _ _ _ hb]; rfl
/-- What is behind a parse: the world, told by what has not turned. -/
theorem Turn.ends {r : Nat} {w w1 w2 : World} (h1 : Turn [] w w1) (h2 : Turn [r] w1 w2) (hr : w.heap.size ≤ r) : Turn [] w w2 :=
  ⟨h2.os.trans h1.os, h2.tape.trans h1.tape, h2.output.trans h1.output, Nat.le_trans h1.size h2.size, fun k hk _ => (h2.block k (Nat.lt_of_lt_of_le hk h1.size) (by simp; omega)).trans (h1.block k hk (by simp))⟩

/-- The answer that the reference reads. -/
def ranA (t : Sx) : Aw := ⟨(anS t).2.er, (anS t).2.l.getD 0 0, (anS t).2.l.getD 1 0, (anS t).2.l.getD 2 0, (anS t).2.nm, (anS t).2.xs.getD 0 0, (anS t).2.xs.getD 1 0, (anS t).2.xs.getD 2 0, (anS t).2.xs.getD 3 0, (anS t).2.xs.getD 4 0, (anS t).2.xs.getD 5 0, (anS t).2.xs.getD 6 0, (anS t).2.xs.getD 7 0⟩
theorem an_lens (t : Sx) : (anS t).2.l.length = 3 ∧ (anS t).2.xs.length = 8 := by
  have h3 : (an3 t).2.length = 3 := (numsS_length .pr _ _).trans rfl
  have h5 : (an5 t).2.2.length = 8 := (numsS_length .pr _ _).trans rfl
  unfold anS
  split
  · exact ⟨h3, h5⟩
  · exact ⟨h3, rfl⟩
theorem ran_cells (t : Sx) (nm : ByteArray) : (Value.int .i64 (anS t).2.er :: (intC (anS t).2.l ++ Value.string nm :: intC (anS t).2.xs)) = awC { ranA t with nm := nm } := by
  obtain ⟨h1, h2⟩ := an_lens t
  unfold ranA
  generalize (anS t).2.er = er
  generalize (anS t).2.l = l at *
  generalize (anS t).2.xs = xs at *
  match l, xs, h1, h2 with
  | [a, b, c], [x1, x2, x3, x4, x5, x6, x7, x8], _, _ => rfl

set_option maxRecDepth 100000 in
set_option maxHeartbeats 3200000 in
theorem rparseans (w : World) (a : Option Addr) (c : Nat) (l : List Nat) (hB : BytesAt w a l) (hc : l.length ≤ c) (hl : l.length ≤ 1000000) (hx : ∀ x ∈ l, x < 256) :
    Calls Try.prog 19 #[.slice a l.length c] w fun r w' => PaP w (anS ⟨l, 0⟩).1 (ranA ⟨l, 0⟩) r w' := by
  have hT0 : Turn [] w (w.alloc (.cells (awC Aw.zero).toArray 43)) := (Turn.refl [] w).alloc _
  have hz0 : (w.alloc (.cells (awC Aw.zero).toArray 43)).heap.size = w.heap.size + 1 := by simp
  have hF := rdr_new (w := w.alloc (.cells (awC Aw.zero).toArray 43)) (hB.turn hT0 (by simp)) hc hl hx
  rw [hz0] at hF
  have hz1 : ((w.alloc (.cells (awC Aw.zero).toArray 43)).alloc (.cells #[.slice a l.length c, .int .i64 0, .int .i64 0] 82)).heap.size = w.heap.size + 2 := by simp
  have hK0 : Turn [] w ((w.alloc (.cells (awC Aw.zero).toArray 43)).alloc (.cells #[.slice a l.length c, .int .i64 0, .int .i64 0] 82)) := hT0.alloc _
  have hTh : ((w.alloc (.cells (awC Aw.zero).toArray 43)).alloc (.cells #[.slice a l.length c, .int .i64 0, .int .i64 0] 82)).there w.heap.size 0 13 := there_blk (there_new2 w (awC Aw.zero).toArray 43) (Below.heap_alloc _ _ _ (by rw [hz0]; omega))
  have HAd : Hid (∀ x, l ≠ [] → a = some x → x.block < w.heap.size) := fun x h e => hB.lt x h e
  have HC := hide (rdAns hF)
  have HK0 := hide hK0
  have HZ := hide hz1
  have HTh := hide hTh
  clear hF hK0 hz1 hTh hT0 hz0 hB hx
  unfold PaP
  unfold AnsP at HC
  have hrc := ran_cells ⟨l, 0⟩
  rw [show (anS ⟨l, 0⟩).2.nm = (ranA ⟨l, 0⟩).nm from rfl] at HC
  simp only [hrc] at HC
  clear hrc
  generalize ranA ⟨l, 0⟩ = A at *
  generalize (anS ⟨l, 0⟩).1 = s at *
  obtain ⟨RV, hRV⟩ : ∃ R, Value.tuple #[.agg (awC (if endS s = 0 then A else Aw.zero)).toArray, .int .i64 (endS s : Nat)] = R := ⟨_, rfl⟩
  rw [hRV]
  have HRV := hide (fun (_ : Unit) => hRV)
  clear hRV
  generalize hrb : w.heap.size = rb at *
  have HW := hide hrb
  go_enter Try.func19, Try.ntmps19
  go_wp2_with fail
  clear hrb
  change Calls Try.prog _ _ ((w.alloc (.cells (awC Aw.zero).toArray 43)).alloc (.cells #[.slice a l.length c, .int .i64 0, .int .i64 0] 82)) _
  generalize (w.alloc (.cells (awC Aw.zero).toArray 43)).alloc (.cells #[.slice a l.length c, .int .i64 0, .int .i64 0] 82) = w0 at *
  refine HC.out.mono ?_
  rintro e w1 ⟨nm, rfl, hS, hnm, hK⟩
  have hz1 := hK.size
  have hl13 := awC_len { A with nm := nm }
  have HOne := hide (awC_one { A with nm := nm })
  have HT1 : Hid ((w1.alloc (.cells #[.int .i64 0, .int .i64 0, .int .i64 0, .int .i64 0, .string { data := #[] }, .int .i64 0, .int .i64 0, .int .i64 0, .int .i64 0, .int .i64 0, .int .i64 0, .int .i64 0, .int .i64 0] 43)).there w1.heap.size 0 13) := there_new2 w1 #[.int .i64 0, .int .i64 0, .int .i64 0, .int .i64 0, .string { data := #[] }, .int .i64 0, .int .i64 0, .int .i64 0, .int .i64 0, .int .i64 0, .int .i64 0, .int .i64 0, .int .i64 0] 43
  have hrb1 : rb < w1.heap.size := by have := HZ.out; omega
  have HNm := hide hnm
  have HA1 : Hid (Rdr ((w1.alloc (.cells #[.int .i64 0, .int .i64 0, .int .i64 0, .int .i64 0, .string { data := #[] }, .int .i64 0, .int .i64 0, .int .i64 0, .int .i64 0, .int .i64 0, .int .i64 0, .int .i64 0, .int .i64 0] 43)).setCells w1.heap.size 0 (awC { A with nm := nm })) (rb + 1) a c l s ∧ ((w1.alloc (.cells #[.int .i64 0, .int .i64 0, .int .i64 0, .int .i64 0, .string { data := #[] }, .int .i64 0, .int .i64 0, .int .i64 0, .int .i64 0, .int .i64 0, .int .i64 0, .int .i64 0, .int .i64 0] 43)).setCells w1.heap.size 0 (awC { A with nm := nm })).rangeAt w1.heap.size 0 (awC { A with nm := nm }) ∧ ((w1.alloc (.cells #[.int .i64 0, .int .i64 0, .int .i64 0, .int .i64 0, .string { data := #[] }, .int .i64 0, .int .i64 0, .int .i64 0, .int .i64 0, .int .i64 0, .int .i64 0, .int .i64 0, .int .i64 0] 43)).setCells w1.heap.size 0 (awC { A with nm := nm })).there rb 0 13 ∧ Turn [] w ((w1.alloc (.cells #[.int .i64 0, .int .i64 0, .int .i64 0, .int .i64 0, .string { data := #[] }, .int .i64 0, .int .i64 0, .int .i64 0, .int .i64 0, .int .i64 0, .int .i64 0, .int .i64 0, .int .i64 0] 43)).setCells w1.heap.size 0 (awC { A with nm := nm }))) := by
    have hzz := HZ.out
    have hww := HW.out
    have hKw : Turn [] w w1 := HK0.out.ends hK (by omega)
    refine ⟨rdr_far (hS.keep (fun x hx => Below.heap_alloc _ _ x hx)) (heap_setCellsN _ _ (by omega) _ _ _) (fun x hx e => heap_setCellsN _ _ (by have := HAd.out x hx e; omega) _ _ _), World.rangeAt_setCells_same _ _ 0 _ HT1.out, there_blk (there_blk (fun j hj => ?_) (Below.heap_alloc _ _ _ hrb1)) (heap_setCellsN _ _ (by omega) _ _ _), (hKw.alloc _).setCellsN _ (by have := HW.out; omega) _ 0⟩
    have hb := hK.block rb (by have := HZ.out; omega) (by simp)
    rw [World.cell?_of_block (a := ⟨rb, 0 + j, none⟩) hb, World.frozen?_of_block (a := ⟨rb, 0 + j, none⟩) hb]
    exact HTh.out j hj
  clear hS hK hnm HC HTh HK0
  generalize hcs : awC { A with nm := nm } = cs at *
  go_upto_region 3 with (first | ((with_reducible refine store_sz 43 13 sz67 _ _ w1.heap.size 0 cs hl13 HOne.out ?_ ?_ HT1.out ?_); rfl; rfl) | fail)
  generalize hq : w1.heap.size = q at *
  have hqb : q ≠ rb + 1 := by have := HZ.out; omega
  clear HT1 hz1
  generalize (w1.alloc (.cells #[.int .i64 0, .int .i64 0, .int .i64 0, .int .i64 0, .string { data := #[] }, .int .i64 0, .int .i64 0, .int .i64 0, .int .i64 0, .int .i64 0, .int .i64 0, .int .i64 0, .int .i64 0] 43)).setCells q 0 cs = v1 at *
  clear hq
  have HE := hide (rend HA1.out.1)
  unfold EndP at HE
  go_wp2_with fail
  refine HE.out.mono ?_
  rintro e v2 ⟨rfl, hR, n, rfl⟩
  have HE2 := hide (rend hR)
  unfold EndP at HE2
  have HR2 : Hid (∀ m, ((v1.drewN n).drewN m).rangeAt q 0 cs) := fun m j u hj => HA1.out.2.1 j u hj
  have HR2' : Hid ((v1.drewN n).rangeAt q 0 cs) := fun j u hj => HA1.out.2.1 j u hj
  have HT2 : Hid ((v1.drewN n).there rb 0 13) := HA1.out.2.2.1
  have HT2m : Hid (∀ m, ((v1.drewN n).drewN m).there rb 0 13) := fun m => HA1.out.2.2.1
  have HTn : Hid (∀ ds : List Value, Turn [] w ((v1.drewN n).setCells rb 0 ds)) := fun ds => by
    have h1 := HA1.out.2.2.2
    exact (show Turn [] w (v1.drewN n) from ⟨h1.os, h1.tape, h1.output, h1.size, h1.block⟩).setCellsN rb (by have := HW.out; omega) ds 0
  have HTm : Hid (∀ m (ds : List Value), Turn [] w (((v1.drewN n).drewN m).setCells rb 0 ds)) := fun m ds => by
    have h1 := HA1.out.2.2.2
    exact (show Turn [] w ((v1.drewN n).drewN m) from ⟨h1.os, h1.tape, h1.output, h1.size, h1.block⟩).setCellsN rb (by have := HW.out; omega) ds 0
  clear hR HA1 HE
  generalize v1.drewN n = v2 at *
  by_cases he : endS s = 0
  · rw [he]
    have HR6 := hide (World.rangeAt_setCells_same v2 rb 0 cs (by rw [hl13]; exact HT2.out))
    go_wp2_with (first | ((with_reducible refine load_sz 43 13 sz67 _ q 0 cs hl13 ?_ HR2'.out ?_); rfl) | ((with_reducible refine store_sz 43 13 sz67 _ _ rb 0 cs hl13 HOne.out ?_ ?_ HT2.out ?_); rfl; rfl) | fail)
    refine bodyPost_ret (v := .tuple #[.agg cs.toArray, .int .i64 0]) (results_two sz67 Try.results19 hl13 rfl rfl HR6.out) rfl ⟨?_, HTn.out _⟩
    have hse : s.e = 0 := by
      unfold endS at he
      split at he
      · exact he
      · unfold refuseS at he
        split at he
        · assumption
        · exact he
    rw [← HRV.out (), he, if_pos rfl, ← hcs, HNm.out hse]
    rfl
  · have hne : ¬ ((endS s : Nat) : Int) = 0 := by omega
    have hlz : ([.int .i64 0, .int .i64 0, .int .i64 0, .int .i64 0, .string { data := #[] }, .int .i64 0, .int .i64 0, .int .i64 0, .int .i64 0, .int .i64 0, .int .i64 0, .int .i64 0, .int .i64 0] : List Value).length = 13 := rfl
    have HOz : Hid (∀ v ∈ ([.int .i64 0, .int .i64 0, .int .i64 0, .int .i64 0, .string { data := #[] }, .int .i64 0, .int .i64 0, .int .i64 0, .int .i64 0, .int .i64 0, .int .i64 0, .int .i64 0, .int .i64 0] : List Value), v.oneCell' = true) := awC_one Aw.zero
    have HEn : Hid (endS s ≠ 0) := he
    clear he
    generalize endS s = E at *
    go_wp2_with fail
    refine HE2.out.mono ?_
    rintro e v3 ⟨rfl, _, m, rfl⟩
    have HT3 := hide (HT2m.out m)
    have HTq := hide (HTm.out m)
    clear HTm HT2m HTn
    generalize v2.drewN m = v3 at *
    have HR6 := hide (World.rangeAt_setCells_same v3 rb 0 [.int .i64 0, .int .i64 0, .int .i64 0, .int .i64 0, .string { data := #[] }, .int .i64 0, .int .i64 0, .int .i64 0, .int .i64 0, .int .i64 0, .int .i64 0, .int .i64 0, .int .i64 0] HT3.out)
    go_wp2_with (first | ((with_reducible refine store_sz 43 13 sz67 _ _ rb 0 [.int .i64 0, .int .i64 0, .int .i64 0, .int .i64 0, .string { data := #[] }, .int .i64 0, .int .i64 0, .int .i64 0, .int .i64 0, .int .i64 0, .int .i64 0, .int .i64 0, .int .i64 0] hlz HOz.out ?_ ?_ HT3.out ?_); rfl; rfl) | fail)
    refine bodyPost_ret (v := .tuple #[.agg (awC Aw.zero).toArray, .int .i64 (E : Nat)]) (results_two sz67 Try.results19 hlz rfl rfl HR6.out) rfl ⟨?_, HTq.out _⟩
    rw [← HRV.out (), if_neg HEn.out]

set_option maxRecDepth 100000 in
set_option maxHeartbeats 1600000 in
theorem rencans (w : World) (a : Aw) (ha : a.Ok) :
    Calls Try.prog 22 #[.agg (awC a).toArray] w fun e w' => ∃ v, e = .returned v ∧ w'.ownsRow 0 5 1 v (awB a).length ((awB a).map byteCell) ∧ Turn [] w w' := by
  obtain ⟨ha1, ha2, ha3⟩ := ha
  obtain ⟨n, hn⟩ : ∃ n : Nat, a.er = (n : Int) := ⟨a.er.toNat, by omega⟩
  have hT0 : Turn [] w (w.alloc (.cells (awC a).toArray 43)) := (Turn.refl [] w).alloc _
  have hR := rng_new w (awC a) (awC a).toArray 43 rfl
  have hB : awB a = [] ++ ansBy n [a.l1, a.l2, a.l3] a.nm [a.z1, a.z2, a.z3, a.z4, a.z5, a.z6, a.z7, a.z8] := by unfold awB; rw [hn]; rfl
  have hC := fun W => ranswer (w := W) (.slice none 0 0) [] n a.l1 a.l2 a.l3 a.nm a.z1 a.z2 a.z3 a.z4 a.z5 a.z6 a.z7 a.z8 ha3 (by omega) (by simp) (World.ownsRow_nil _ _ _ _)
  rw [← hB] at hC
  have hcs : (#[.int .i64 (n : Nat), .int .i64 a.l1, .int .i64 a.l2, .int .i64 a.l3, .string a.nm, .int .i64 a.z1, .int .i64 a.z2, .int .i64 a.z3, .int .i64 a.z4, .int .i64 a.z5, .int .i64 a.z6, .int .i64 a.z7, .int .i64 a.z8] : Array Value) = (awC a).toArray := by unfold awC; rw [hn]
  rw [hcs] at hC
  have HC := hide hC
  have HR := hide hR
  have HT0 := hide hT0
  have hl13 := awC_len a
  clear hC hR hT0 hB hcs hn ha1 ha2 ha3
  generalize awB a = B at *
  generalize awC a = cs at *
  generalize hrb : w.heap.size = rb at *
  go_enter Try.func22, Try.ntmps22
  go_wp2_with (first | ((with_reducible refine load_sz 43 13 sz67 _ rb 0 cs hl13 ?_ HR.out ?_); rfl) | fail)
  refine (HC.out _).mono ?_
  rintro e w1 ⟨v, rfl, hG⟩
  have HO := hide hG.own
  have HT : Hid (Turn [] w w1) := HT0.out.grown hG.grown (fun k e => by cases e)
  clear hG
  go_wp2_with fail
  go_ret
  exact ⟨v, rfl, HO.out, HT.out⟩

end Go.Proofs.Ytkbboingeacgjaa
