/-
  ParseRequest of the reference: it answers as the program does.
-/
import Derived.Test.YtkbboingeacgjaaFRrqA
import Derived.Test.YtkbboingeacgjaaFRrqB
import Derived.Test.YtkbboingeacgjaaFRrqC
namespace Go.Proofs.Ytkbboingeacgjaa
open Go.RowKit

set_option maxRecDepth 100000 in
set_option maxHeartbeats 3200000 in
theorem rparseno (w : World) (a : Option Addr) (c : Nat) (l : List Nat) (hB : BytesAt w a l) (hc : l.length ≤ c) (hl : l.length ≤ 1000000) (hx : ∀ x ∈ l, x < 256) (hk : (countS .pr ⟨l, 0⟩ 0).1.e = 0 ∧ ¬ isK ((countS .pr ⟨l, 0⟩ 0).2 : Nat)) :
    Calls Try.prog 14 #[.slice a l.length c] w fun r w' => r = .returned (.tuple #[.agg (rqC Rq.zero).toArray, .int .i64 3]) ∧ Turn [] w w' := by
  have hT0 : Turn [] w (w.alloc (.cells (rqC Rq.zero).toArray 25)) := (Turn.refl [] w).alloc _
  have hz0 : (w.alloc (.cells (rqC Rq.zero).toArray 25)).heap.size = w.heap.size + 1 := by simp
  have hF := rdr_new (w := w.alloc (.cells (rqC Rq.zero).toArray 25)) (hB.turn hT0 (by simp)) hc hl hx
  rw [hz0] at hF
  have hz1 : ((w.alloc (.cells (rqC Rq.zero).toArray 25)).alloc (.cells #[.slice a l.length c, .int .i64 0, .int .i64 0] 82)).heap.size = w.heap.size + 2 := by simp
  have hK0 : Turn [] w ((w.alloc (.cells (rqC Rq.zero).toArray 25)).alloc (.cells #[.slice a l.length c, .int .i64 0, .int .i64 0] 82)) := hT0.alloc _
  have hTh : ((w.alloc (.cells (rqC Rq.zero).toArray 25)).alloc (.cells #[.slice a l.length c, .int .i64 0, .int .i64 0] 82)).there w.heap.size 0 18 := there_blk (there_new2 w (rqC Rq.zero).toArray 25) (Below.heap_alloc _ _ _ (by rw [hz0]; omega))
  have HAd : Hid (∀ x, l ≠ [] → a = some x → x.block < w.heap.size + 2) := fun x h e => by have := hB.lt x h e; omega
  have HC := hide (ru8 hF)
  have HK0 := hide hK0
  have HZ := hide hz1
  have HTh := hide hTh
  clear hF hK0 hz1 hTh hT0 hz0 hB hx
  unfold U8P at HC
  obtain ⟨⟨s0, k0⟩, h0⟩ : ∃ T, countS .pr ⟨l, 0⟩ 0 = T := ⟨_, rfl⟩
  rw [h0] at hk HC
  clear h0
  obtain ⟨hk1, hk2⟩ := hk
  dsimp only at hk1 hk2 HC
  generalize hrb : w.heap.size = rb at *
  have HW := hide hrb
  go_enter Try.func14, Try.ntmps14
  go_wp2_with fail
  clear hrb
  change Calls Try.prog _ _ ((w.alloc (.cells (rqC Rq.zero).toArray 25)).alloc (.cells #[.slice a l.length c, .int .i64 0, .int .i64 0] 82)) _
  generalize (w.alloc (.cells (rqC Rq.zero).toArray 25)).alloc (.cells #[.slice a l.length c, .int .i64 0, .int .i64 0] 82) = w0 at *
  refine HC.out.mono ?_
  rintro e w1 ⟨rfl, hR, hT⟩
  have hthq : (w1.alloc (.cells #[.int .i64 0, .string { data := #[] }, .int .i64 0, .int .i64 0, .int .i64 0, .int .i64 0, .string { data := #[] }, .string { data := #[] }, .string { data := #[] }, .int .i64 0, .int .i64 0, .int .i64 0, .int .i64 0, .int .i64 0, .int .i64 0, .int .i64 0, .int .i64 0, .int .i64 0] 25)).there w1.heap.size 0 18 := there_new2 w1 #[.int .i64 0, .string { data := #[] }, .int .i64 0, .int .i64 0, .int .i64 0, .int .i64 0, .string { data := #[] }, .string { data := #[] }, .string { data := #[] }, .int .i64 0, .int .i64 0, .int .i64 0, .int .i64 0, .int .i64 0, .int .i64 0, .int .i64 0, .int .i64 0, .int .i64 0] 25
  have hRs := (Rs.new hR hT (by have := HZ.out; omega) (fun x hx e => by have := HAd.out x hx e; have := HZ.out; omega) #[.int .i64 0, .string { data := #[] }, .int .i64 0, .int .i64 0, .int .i64 0, .int .i64 0, .string { data := #[] }, .string { data := #[] }, .string { data := #[] }, .int .i64 0, .int .i64 0, .int .i64 0, .int .i64 0, .int .i64 0, .int .i64 0, .int .i64 0, .int .i64 0, .int .i64 0] 25).puts 0 [.int .i64 (k0 : Nat), .string { data := #[] }, .int .i64 0, .int .i64 0, .int .i64 0, .int .i64 0, .string { data := #[] }, .string { data := #[] }, .string { data := #[] }, .int .i64 0, .int .i64 0, .int .i64 0, .int .i64 0, .int .i64 0, .int .i64 0, .int .i64 0, .int .i64 0, .int .i64 0] (by simp)
  have HS0 : Hid (Rs w0 ((w1.alloc (.cells #[.int .i64 0, .string { data := #[] }, .int .i64 0, .int .i64 0, .int .i64 0, .int .i64 0, .string { data := #[] }, .string { data := #[] }, .string { data := #[] }, .int .i64 0, .int .i64 0, .int .i64 0, .int .i64 0, .int .i64 0, .int .i64 0, .int .i64 0, .int .i64 0, .int .i64 0] 25)).setCells w1.heap.size 0 [.int .i64 (k0 : Nat), .string { data := #[] }, .int .i64 0, .int .i64 0, .int .i64 0, .int .i64 0, .string { data := #[] }, .string { data := #[] }, .string { data := #[] }, .int .i64 0, .int .i64 0, .int .i64 0, .int .i64 0, .int .i64 0, .int .i64 0, .int .i64 0, .int .i64 0, .int .i64 0]) (rb + 1) a c l s0 w1.heap.size [.int .i64 (k0 : Nat), .string { data := #[] }, .int .i64 0, .int .i64 0, .int .i64 0, .int .i64 0, .string { data := #[] }, .string { data := #[] }, .string { data := #[] }, .int .i64 0, .int .i64 0, .int .i64 0, .int .i64 0, .int .i64 0, .int .i64 0, .int .i64 0, .int .i64 0, .int .i64 0]) := hRs
  have hl18 : ([.int .i64 (k0 : Nat), .string { data := #[] }, .int .i64 0, .int .i64 0, .int .i64 0, .int .i64 0, .string { data := #[] }, .string { data := #[] }, .string { data := #[] }, .int .i64 0, .int .i64 0, .int .i64 0, .int .i64 0, .int .i64 0, .int .i64 0, .int .i64 0, .int .i64 0, .int .i64 0] : List Value).length = 18 := rfl
  have HOne0 : Hid (∀ v ∈ ([.int .i64 (k0 : Nat), .string { data := #[] }, .int .i64 0, .int .i64 0, .int .i64 0, .int .i64 0, .string { data := #[] }, .string { data := #[] }, .string { data := #[] }, .int .i64 0, .int .i64 0, .int .i64 0, .int .i64 0, .int .i64 0, .int .i64 0, .int .i64 0, .int .i64 0, .int .i64 0] : List Value), v.oneCell' = true) := by
    intro v hv
    simp only [List.mem_cons, List.not_mem_nil, or_false] at hv
    rcases hv with rfl | rfl | rfl | rfl | rfl | rfl | rfl | rfl | rfl | rfl | rfl | rfl | rfl | rfl | rfl | rfl | rfl | rfl <;> rfl
  have HThq := hide hthq
  clear hR hT hRs hthq HC
  go_upto_region 3 with (first | ((with_reducible refine store_sz 25 18 sz25 _ _ w1.heap.size 0 [.int .i64 (k0 : Nat), .string { data := #[] }, .int .i64 0, .int .i64 0, .int .i64 0, .int .i64 0, .string { data := #[] }, .string { data := #[] }, .string { data := #[] }, .int .i64 0, .int .i64 0, .int .i64 0, .int .i64 0, .int .i64 0, .int .i64 0, .int .i64 0, .int .i64 0, .int .i64 0] hl18 HOne0.out ?_ ?_ HThq.out ?_); rfl; rfl) | fail)
  generalize w1.heap.size = q at *
  generalize (w1.alloc (.cells #[.int .i64 0, .string { data := #[] }, .int .i64 0, .int .i64 0, .int .i64 0, .int .i64 0, .string { data := #[] }, .string { data := #[] }, .string { data := #[] }, .int .i64 0, .int .i64 0, .int .i64 0, .int .i64 0, .int .i64 0, .int .i64 0, .int .i64 0, .int .i64 0, .int .i64 0] 25)).setCells q 0 [.int .i64 (k0 : Nat), .string { data := #[] }, .int .i64 0, .int .i64 0, .int .i64 0, .int .i64 0, .string { data := #[] }, .string { data := #[] }, .string { data := #[] }, .int .i64 0, .int .i64 0, .int .i64 0, .int .i64 0, .int .i64 0, .int .i64 0, .int .i64 0, .int .i64 0, .int .i64 0] = v0 at *
  clear HThq HOne0 hl18
  have ck := HS0.out.cell (i := 0) rfl
  have ce := HS0.out.rd.c2
  rw [hk1] at ce
  have HT2 : Hid (v0.there rb 0 18) := there_blk HTh.out (HS0.out.tn.block rb (by have := HZ.out; omega) (by simp))
  have HTw : Hid (Turn [] w v0) := HK0.out.ends HS0.out.tn (by have := HW.out; omega)
  have hlz : ([.int .i64 0, .string { data := #[] }, .int .i64 0, .int .i64 0, .int .i64 0, .int .i64 0, .string { data := #[] }, .string { data := #[] }, .string { data := #[] }, .int .i64 0, .int .i64 0, .int .i64 0, .int .i64 0, .int .i64 0, .int .i64 0, .int .i64 0, .int .i64 0, .int .i64 0] : List Value).length = 18 := rfl
  have HOz : Hid (∀ v ∈ ([.int .i64 0, .string { data := #[] }, .int .i64 0, .int .i64 0, .int .i64 0, .int .i64 0, .string { data := #[] }, .string { data := #[] }, .string { data := #[] }, .int .i64 0, .int .i64 0, .int .i64 0, .int .i64 0, .int .i64 0, .int .i64 0, .int .i64 0, .int .i64 0, .int .i64 0] : List Value), v.oneCell' = true) := rqC_one Rq.zero
  have HR6 := hide (World.rangeAt_setCells_same v0 rb 0 [.int .i64 0, .string { data := #[] }, .int .i64 0, .int .i64 0, .int .i64 0, .int .i64 0, .string { data := #[] }, .string { data := #[] }, .string { data := #[] }, .int .i64 0, .int .i64 0, .int .i64 0, .int .i64 0, .int .i64 0, .int .i64 0, .int .i64 0, .int .i64 0, .int .i64 0] HT2.out)
  clear HS0 HTh HK0
  go_wp2_with (first | (go_at_call 26; refine (rkno (k0 : Nat) hk2 _).mono ?_; rintro e w' ⟨rfl, rfl⟩) | ((with_reducible refine store_sz 25 18 sz25 _ _ rb 0 [.int .i64 0, .string { data := #[] }, .int .i64 0, .int .i64 0, .int .i64 0, .int .i64 0, .string { data := #[] }, .string { data := #[] }, .string { data := #[] }, .int .i64 0, .int .i64 0, .int .i64 0, .int .i64 0, .int .i64 0, .int .i64 0, .int .i64 0, .int .i64 0, .int .i64 0] hlz HOz.out ?_ ?_ HT2.out ?_); rfl; rfl) | fail)
  exact bodyPost_ret (v := .tuple #[.agg (rqC Rq.zero).toArray, .int .i64 3]) (results_two sz25 Try.results14 hlz rfl rfl HR6.out) rfl ⟨rfl, HTw.out.setCellsN rb (by have := HW.out; omega) _ 0⟩

/-- Both carriers come to the same. -/
theorem prq_eq (s : Sx) (hb : Byt s.l) (K : Int) (hK : isK K) : endS (reqK prC s Rq.zero K).1 = endS (reqK rfC s Rq.zero K).1 ∧ (endS (reqK rfC s Rq.zero K).1 = 0 → (reqK prC s Rq.zero K).2 = (reqK rfC s Rq.zero K).2) := by
  by_cases h16 : K = 16
  · subst h16
    obtain ⟨⟨s1, y1⟩, h1⟩ : ∃ T, textS .pr s ByteArray.empty = T := ⟨_, rfl⟩
    have hb1 : Byt s1.l := by have := text_byt hb ByteArray.empty; rw [h1] at this; exact this
    obtain ⟨⟨s2, lt⟩, h2⟩ : ∃ T, recS s1 73 = T := ⟨_, rfl⟩
    have hr := rec_ti 9 s1 hb1
    rw [show 1 + 8 * 9 = 73 from rfl, h2] at hr
    obtain ⟨⟨t2, nm, xs⟩, ht⟩ : ∃ T, tiS .pr s1 ByteArray.empty (List.replicate 9 0) = T := ⟨_, rfl⟩
    rw [ht] at hr
    dsimp only at hr
    obtain ⟨r1, r2⟩ := hr
    have e1 : reqK prC s Rq.zero 16 = (s2, Rq.setP { Rq.zero with k := 16, key := y1 } (parsedTi 9 lt).2.1 (parsedTi 9 lt).2.2) := by
      unfold reqK prC
      simp only [h1, h2]
      rfl
    have e2 : reqK rfC s Rq.zero 16 = (t2, Rq.setP { Rq.zero with k := 16, key := y1 } nm xs) := by
      unfold reqK rfC
      simp only [h1, ht]
      rfl
    rw [e1, e2]
    dsimp only
    by_cases hz : s2.e = 0
    · obtain ⟨q1, q2⟩ := r2 hz
      rw [q1, q2]
      exact ⟨rfl, fun _ => rfl⟩
    · have ht2 : t2.e ≠ 0 := by rw [r1]; exact hz
      rw [end_e hz, end_e ht2]
      exact ⟨r1.symm, fun k => absurd k ht2⟩
  · have h : reqK prC s Rq.zero K = reqK rfC s Rq.zero K := by
      unfold isK at hK
      have hn : prC.num = rfC.num := rfl
      have ht : prC.text = rfC.text := rfl
      unfold reqK
      rw [hn, ht]
      rcases hK with rfl | rfl | rfl | rfl | rfl | h | rfl | rfl | rfl | rfl
      · simp
      · simp
      · simp
      · simp
      · simp
      · exact absurd h h16
      · simp
      · simp
      · simp
      · simp
    rw [h]
    exact ⟨rfl, fun _ => rfl⟩

/-- The reference parses as the program does. -/
theorem rparsereq (w : World) (a : Option Addr) (c : Nat) (l : List Nat) (hB : BytesAt w a l) (hc : l.length ≤ c) (hl : l.length ≤ 1000000) (hx : ∀ x ∈ l, x < 256) :
    Calls Try.prog 14 #[.slice a l.length c] w fun r w' => PrqP w (reqS prC ⟨l, 0⟩ Rq.zero).1 (reqS prC ⟨l, 0⟩ Rq.zero).2 r w' := by
  have hS : reqS prC ⟨l, 0⟩ Rq.zero = reqK prC (countS .pr ⟨l, 0⟩ 0).1 Rq.zero ((countS .pr ⟨l, 0⟩ 0).2 : Nat) := rfl
  rw [hS]
  have hb0 : Byt (countS .pr ⟨l, 0⟩ 0).1.l := takeS_rest ⟨l, 0⟩ 1 hx
  by_cases he : (countS .pr ⟨l, 0⟩ 0).1.e = 0
  · by_cases hk : isK ((countS .pr ⟨l, 0⟩ 0).2 : Nat)
    · obtain ⟨p1, p2⟩ := prq_eq (countS .pr ⟨l, 0⟩ 0).1 hb0 _ hk
      have hgo : ∀ r w', PrqP w (reqK rfC (countS .pr ⟨l, 0⟩ 0).1 Rq.zero ((countS .pr ⟨l, 0⟩ 0).2 : Nat)).1 (reqK rfC (countS .pr ⟨l, 0⟩ 0).1 Rq.zero ((countS .pr ⟨l, 0⟩ 0).2 : Nat)).2 r w' → PrqP w (reqK prC (countS .pr ⟨l, 0⟩ 0).1 Rq.zero ((countS .pr ⟨l, 0⟩ 0).2 : Nat)).1 (reqK prC (countS .pr ⟨l, 0⟩ 0).1 Rq.zero ((countS .pr ⟨l, 0⟩ 0).2 : Nat)).2 r w' := fun r w' h => by
        obtain ⟨h1, h2⟩ := h
        refine ⟨?_, h2⟩
        rw [h1, p1]
        by_cases hz : endS (reqK rfC (countS .pr ⟨l, 0⟩ 0).1 Rq.zero ((countS .pr ⟨l, 0⟩ 0).2 : Nat)).1 = 0
        · rw [if_pos hz, if_pos hz, p2 hz]
        · rw [if_neg hz, if_neg hz]
      obtain ⟨K, hKe⟩ : ∃ K, (countS .pr ⟨l, 0⟩ 0).2 = K := ⟨_, rfl⟩
      rw [hKe] at hk hgo ⊢
      have hk' : K = 1 ∨ K = 4 ∨ K = 2 ∨ K = 3 ∨ K = 5 ∨ K = 16 ∨ K = 17 ∨ K = 18 ∨ K = 19 ∨ K = 20 := by unfold isK at hk; omega
      rcases hk' with rfl | rfl | rfl | rfl | rfl | rfl | rfl | rfl | rfl | rfl
      · exact (rparse1 w a c l hB hc hl hx ⟨he, hKe⟩).mono (fun r w' h => hgo r w' h)
      · exact (rparse4 w a c l hB hc hl hx ⟨he, hKe⟩).mono (fun r w' h => hgo r w' h)
      · exact (rparse2 w a c l hB hc hl hx ⟨he, hKe⟩).mono (fun r w' h => hgo r w' h)
      · exact (rparse3 w a c l hB hc hl hx ⟨he, hKe⟩).mono (fun r w' h => hgo r w' h)
      · exact (rparse5 w a c l hB hc hl hx ⟨he, hKe⟩).mono (fun r w' h => hgo r w' h)
      · exact (rparse16 w a c l hB hc hl hx ⟨he, hKe⟩).mono (fun r w' h => hgo r w' h)
      · exact (rparse17 w a c l hB hc hl hx ⟨he, hKe⟩).mono (fun r w' h => hgo r w' h)
      · exact (rparse18 w a c l hB hc hl hx ⟨he, hKe⟩).mono (fun r w' h => hgo r w' h)
      · exact (rparse19 w a c l hB hc hl hx ⟨he, hKe⟩).mono (fun r w' h => hgo r w' h)
      · exact (rparse20 w a c l hB hc hl hx ⟨he, hKe⟩).mono (fun r w' h => hgo r w' h)
    · refine (rparseno w a c l hB hc hl hx ⟨he, hk⟩).mono ?_
      rintro r w' ⟨rfl, hT⟩
      have hq : reqK prC (countS .pr ⟨l, 0⟩ 0).1 Rq.zero ((countS .pr ⟨l, 0⟩ 0).2 : Nat) = (refuseS (countS .pr ⟨l, 0⟩ 0).1 3, { Rq.zero with k := ((countS .pr ⟨l, 0⟩ 0).2 : Nat) }) := by
        unfold isK at hk
        unfold reqK
        simp only [not_or] at hk
        obtain ⟨a1, a2, a3, a4, a5, a6, a7, a8, a9, a10⟩ := hk
        simp [a1, a2, a3, a4, a5, a6, a7, a8, a9, a10]
        rfl
      have h3 : (refuseS (countS .pr ⟨l, 0⟩ 0).1 3).e = 3 := by unfold refuseS; rw [if_pos he]
      rw [hq]
      refine ⟨?_, hT⟩
      rw [end_e (by rw [h3]; omega), h3]
      rfl
  · have hz : (countS .pr ⟨l, 0⟩ 0).2 = 0 := by
      show (takeS ⟨l, 0⟩ 1).2.headD 0 = 0
      by_cases h1 : l.length < 1
      · rw [take_cut rfl h1]; rfl
      · exfalso
        apply he
        show (takeS ⟨l, 0⟩ 1).1.e = 0
        rw [take_ok rfl (by show 1 ≤ l.length; omega)]
    refine (rparsecut w a c l hB hc hl hx ⟨he, hz⟩).mono ?_
    rintro r w' ⟨h1, hT⟩
    refine ⟨?_, hT⟩
    have e1 : (reqK rfC (countS .pr ⟨l, 0⟩ 0).1 Rq.zero 5).1 = (countS .pr ⟨l, 0⟩ 0).1 := text_fault he ByteArray.empty
    have e2 : (reqK prC (countS .pr ⟨l, 0⟩ 0).1 Rq.zero ((countS .pr ⟨l, 0⟩ 0).2 : Nat)).1 = (countS .pr ⟨l, 0⟩ 0).1 := by
      rw [hz]
      exact refuse_keep he 3
    rw [h1, e1, e2]
    have hne : endS (countS .pr ⟨l, 0⟩ 0).1 ≠ 0 := by rw [end_e he]; exact he
    rw [if_neg hne, if_neg hne]

end Go.Proofs.Ytkbboingeacgjaa
