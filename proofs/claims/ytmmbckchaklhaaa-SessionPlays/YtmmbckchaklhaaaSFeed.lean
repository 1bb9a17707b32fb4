/-
  read of package session, walked: what a whole frame says.
  Feed of package session, walked: the items of whatever bytes come.
-/
import Derived.Test.YtmmbckchaklhaaaSNext
import Derived.Laws.AppendOwnNone
namespace Go.Proofs.Ytmmbckchaklhaaa.Se
open Go.RowKit Go.Maps

theorem sz_item : Sz 46 19 := ⟨by kernel_rfl, .struct (Try.prog.fieldsOf 46), by kernel_rfl, rfl⟩
/-- Its broken cells. -/
theorem broken_mem {w : World} {g : Nat} {mo : Option Nat} (h : Live w g mo []) : ∃ d v, Cs ((w.setCell ⟨g, 5, none⟩ (.bool true)).setCell ⟨g, 3, none⟩ (.slice none 0 0)) g d 0 v 0 true := by
  obtain ⟨d, v, hC⟩ := h.cells
  exact ⟨d, _, (hC.set5 true).set3 _⟩

/-- What read answers, and what becomes of the session. -/
structure ReadP (w : World) (g : Nat) (mo : Option Nat) (W : List Nat) (w' : World) : Prop where
  tn : Turn [g] w w'
  live : W.length ≠ 2 → Live w' g mo []
  dead : W.length = 2 → ∃ d v, Cs w' g d 0 v 0 true

set_option maxRecDepth 100000 in
set_option maxHeartbeats 4000000 in
theorem read_bad {w : World} {g : Nat} {mo : Option Nat} (hL : Live w g mo []) (A : Option Addr) (C : Nat) :
    Calls Try.prog 19 #[.pointer (some ⟨g, 0, none⟩), .slice A 2 C] w fun e w' => e = .returned (.agg (itC It.long).toArray) ∧ Turn [g] w w' ∧ ∃ d v, Cs w' g d 0 v 0 true := by
  obtain ⟨q, hq⟩ : ∃ q, q = w.heap.size := ⟨_, rfl⟩
  obtain ⟨W, hW⟩ : ∃ W, W = w.alloc (.cells #[.int .i64 0, .string { data := #[] }, .int .i64 0, .int .i64 0, .int .i64 0, .int .i64 0, .string { data := #[] }, .string { data := #[] }, .string { data := #[] }, .int .i64 0, .int .i64 0, .int .i64 0, .int .i64 0, .int .i64 0, .int .i64 0, .int .i64 0, .int .i64 0, .int .i64 0, .int .i64 0] 46) := ⟨_, rfl⟩
  have hT0 : Turn [] w W := by rw [hW]; exact (Turn.refl [] w).alloc _
  have hL0 := hL.turn0 hT0
  obtain ⟨d, v, hC⟩ := hL0.cells
  have hth : W.there q 0 19 := by rw [hW, hq]; exact there_new2 w #[.int .i64 0, .string { data := #[] }, .int .i64 0, .int .i64 0, .int .i64 0, .int .i64 0, .string { data := #[] }, .string { data := #[] }, .string { data := #[] }, .int .i64 0, .int .i64 0, .int .i64 0, .int .i64 0, .int .i64 0, .int .i64 0, .int .i64 0, .int .i64 0, .int .i64 0, .int .i64 0] 46
  have hqg : q ≠ g := by have := hL.lt; omega
  have c3 := hC.c3
  have c5 := hC.c5
  have f3 := hC.fz 3
  have f5 := hC.fz 5
  have hg := hC.lt
  obtain ⟨W2, hW2⟩ : ∃ W2, W2 = (W.setCell ⟨g, 5, none⟩ (.bool true)).setCell ⟨g, 3, none⟩ (.slice none 0 0) := ⟨_, rfl⟩
  have hT2 : Turn [g] w W2 := by rw [hW2]; exact ((hT0.mono (by simp)).setCell (by simp) _ _).setCell (by simp) _ _
  have hth2 : W2.there q 0 19 := by
    rw [hW2]
    exact there_blk (there_blk hth (Below.heap_setCell _ ⟨g, 5, none⟩ _ q hqg)) (Below.heap_setCell _ ⟨g, 3, none⟩ _ q hqg)
  obtain ⟨d2, v2, hC2⟩ : ∃ d v, Cs W2 g d 0 v 0 true := by rw [hW2]; exact broken_mem hL0
  obtain ⟨cs, hcs⟩ : ∃ cs, cs = ([.int .i64 0, .string { data := #[] }, .int .i64 0, .int .i64 0, .int .i64 0, .int .i64 0, .string { data := #[] }, .string { data := #[] }, .string { data := #[] }, .int .i64 0, .int .i64 0, .int .i64 0, .int .i64 0, .int .i64 0, .int .i64 0, .int .i64 0, .int .i64 0, .int .i64 0, .int .i64 5] : List Value) := ⟨_, rfl⟩
  have hcs2 : cs = itC It.long := by rw [hcs]; rfl
  have hl : cs.length = 19 := by rw [hcs]; rfl
  have H1 : Hid (∀ v ∈ cs, v.oneCell' = true) := by rw [hcs2]; exact itC_one _
  have HTh := hide hth2
  have HF : Hid (Turn [g] w (W2.setCells q 0 cs) ∧ ∃ d v, Cs (W2.setCells q 0 cs) g d 0 v 0 true) := by
    refine ⟨?_, d2, v2, hC2.of_block (heap_setCellsN q g (fun e => hqg e.symm) _ _ _)⟩
    obtain ⟨r1, r2, r3⟩ := rest_setCellsN q cs 0 W2
    have hz : (W2.setCells q 0 cs).heap.size = W2.heap.size := size_setCellsN _ _ _ _
    exact ⟨r1.trans hT2.os, r2.trans hT2.tape, r3.trans hT2.output, by rw [hz]; exact hT2.size, fun i hi hn => (heap_setCellsN q i (by omega) _ _ _).trans (hT2.block i hi hn)⟩
  have HR := hide (World.rangeAt_setCells_same W2 q 0 cs (by rw [hl]; exact hth2))
  have HC := hide (fun (_ : Unit) => hcs2)
  have hcw : Hid (cs = [.int .i64 0, .string { data := #[] }, .int .i64 0, .int .i64 0, .int .i64 0, .int .i64 0, .string { data := #[] }, .string { data := #[] }, .string { data := #[] }, .int .i64 0, .int .i64 0, .int .i64 0, .int .i64 0, .int .i64 0, .int .i64 0, .int .i64 0, .int .i64 0, .int .i64 0, .int .i64 5]) := hcs
  have HQ := hide hq
  have HWq := hide hW
  have HW2 := hide hW2
  clear hcs hcs2 hC hC2 hL hL0 hT0 hT2 hth hth2 hW hW2 hq
  go_enter Try.func19, Try.ntmps19
  go_upto_region 1 with fail
  rw [← HWq.out, ← HQ.out]
  go_upto_region 4 with fail
  rw [← HW2.out]
  go_wp2_with (first | ((with_reducible refine store_sz 46 19 sz_item _ _ q 0 cs hl H1.out ?_ ?_ HTh.out ?_); rfl; (rw [hcw.out]; rfl)) | fail)
  refine bodyPost_ret (v := .agg cs.toArray) (results_sz sz_item Try.results19 hl rfl HR.out) rfl ⟨?_, HF.out⟩
  rw [HC.out ()]

set_option maxRecDepth 100000 in
set_option maxHeartbeats 4000000 in
theorem read_good {w : World} {g : Nat} {mo : Option Nat} (_hL : Live w g mo []) (A : Option Addr) (C : Nat) (l : List Nat) (hB : Byr w A C l) (h2 : 2 < l.length) :
    Calls Try.prog 19 #[.pointer (some ⟨g, 0, none⟩), .slice A l.length C] w fun e w' => e = .returned (.agg (itC (parsed (l.drop 2))).toArray) ∧ Turn [] w w' := by
  obtain ⟨q, hq⟩ : ∃ q, q = w.heap.size := ⟨_, rfl⟩
  obtain ⟨W, hW⟩ : ∃ W, W = w.alloc (.cells #[.int .i64 0, .string { data := #[] }, .int .i64 0, .int .i64 0, .int .i64 0, .int .i64 0, .string { data := #[] }, .string { data := #[] }, .string { data := #[] }, .int .i64 0, .int .i64 0, .int .i64 0, .int .i64 0, .int .i64 0, .int .i64 0, .int .i64 0, .int .i64 0, .int .i64 0, .int .i64 0] 46) := ⟨_, rfl⟩
  have hT0 : Turn [] w W := by rw [hW]; exact (Turn.refl [] w).alloc _
  have hth : W.there q 0 19 := by rw [hW, hq]; exact there_new2 w #[.int .i64 0, .string { data := #[] }, .int .i64 0, .int .i64 0, .int .i64 0, .int .i64 0, .string { data := #[] }, .string { data := #[] }, .string { data := #[] }, .int .i64 0, .int .i64 0, .int .i64 0, .int .i64 0, .int .i64 0, .int .i64 0, .int .i64 0, .int .i64 0, .int .i64 0, .int .i64 0] 46
  have hB2 := (hB.turn hT0).drop 2
  have hP := parsereq W (hiA A C 2) (C - 2) (l.drop 2) hB2
  have hs2 : ∀ u : World, (Instr.slice 26 (.slice A l.length C) (some (.int .i64 2)) none none).run Try.prog u = .ok (.slice (hiA A C 2) (l.length - 2) (C - 2)) u := fun u => slice_hi A l.length C 2 u (by omega)
  rw [List.length_drop] at hP
  have hlc := hB.lc
  have hcm := hB.cm
  unfold maxLen at hcm
  have hqz : W.heap.size = q + 1 := by rw [hW, hq]; simp
  obtain ⟨T, hT⟩ : ∃ T, parsed (l.drop 2) = T := ⟨_, rfl⟩
  have hP' : Calls Try.prog 28 #[.slice (hiA A C 2) (l.length - 2) (C - 2)] W fun r w' => r = .returned (.tuple #[.agg #[.int .i64 T.r.k, .string T.r.key, .int .i64 T.r.id, .int .i64 T.r.n, .int .i64 T.r.ttl, .int .i64 T.r.o, .string T.r.nm, .string T.r.sec, .string T.r.pn, .int .i64 T.r.p1, .int .i64 T.r.p2, .int .i64 T.r.p3, .int .i64 T.r.p4, .int .i64 T.r.p5, .int .i64 T.r.p6, .int .i64 T.r.p7, .int .i64 T.r.p8, .int .i64 T.r.p9], .int .i64 (T.e : Nat)]) ∧ Turn [] W w' := by
    refine hP.mono ?_
    rintro e w' ⟨he, hT'⟩
    refine ⟨?_, hT'⟩
    rw [he, ← hT]
    rfl
  rw [hT]
  have HP := hide hP'
  have HT0 := hide hT0
  have HTh := hide hth
  have HQ := hide hq
  have HWq := hide hW
  clear hB hB2 hP hP' hT0 hth _hL hT hq hW
  generalize l.length = n at *
  generalize hiA A C 2 = A2 at *
  obtain ⟨R, x⟩ := T
  go_enter Try.func19, Try.ntmps19
  go_upto_region 1 with fail
  rw [← HWq.out, ← HQ.out]
  have hq1 : q < W.heap.size := by omega
  go_wp2_with fail
  refine HP.out.mono ?_
  rintro e w1 ⟨rfl, hT1⟩
  have hth1 : w1.there q 0 19 := there_blk HTh.out (hT1.block q hq1 (by simp))
  have hz1 := hT1.size
  have hlR : ([.int .i64 R.k, .string R.key, .int .i64 R.id, .int .i64 R.n, .int .i64 R.ttl, .int .i64 R.o, .string R.nm, .string R.sec, .string R.pn, .int .i64 R.p1, .int .i64 R.p2, .int .i64 R.p3, .int .i64 R.p4, .int .i64 R.p5, .int .i64 R.p6, .int .i64 R.p7, .int .i64 R.p8, .int .i64 R.p9] : List Value).length = 18 := rfl
  have H1R : Hid (∀ v ∈ ([.int .i64 R.k, .string R.key, .int .i64 R.id, .int .i64 R.n, .int .i64 R.ttl, .int .i64 R.o, .string R.nm, .string R.sec, .string R.pn, .int .i64 R.p1, .int .i64 R.p2, .int .i64 R.p3, .int .i64 R.p4, .int .i64 R.p5, .int .i64 R.p6, .int .i64 R.p7, .int .i64 R.p8, .int .i64 R.p9] : List Value), v.oneCell' = true) := rqC_one R
  have HT1 : Hid ((w1.alloc (.cells #[.int .i64 0, .string { data := #[] }, .int .i64 0, .int .i64 0, .int .i64 0, .int .i64 0, .string { data := #[] }, .string { data := #[] }, .string { data := #[] }, .int .i64 0, .int .i64 0, .int .i64 0, .int .i64 0, .int .i64 0, .int .i64 0, .int .i64 0, .int .i64 0, .int .i64 0] 43)).there w1.heap.size 0 18) := there_new2 w1 #[.int .i64 0, .string { data := #[] }, .int .i64 0, .int .i64 0, .int .i64 0, .int .i64 0, .string { data := #[] }, .string { data := #[] }, .string { data := #[] }, .int .i64 0, .int .i64 0, .int .i64 0, .int .i64 0, .int .i64 0, .int .i64 0, .int .i64 0, .int .i64 0, .int .i64 0] 43
  obtain ⟨w2, hw2⟩ : ∃ w2, w2 = (w1.alloc (.cells #[.int .i64 0, .string { data := #[] }, .int .i64 0, .int .i64 0, .int .i64 0, .int .i64 0, .string { data := #[] }, .string { data := #[] }, .string { data := #[] }, .int .i64 0, .int .i64 0, .int .i64 0, .int .i64 0, .int .i64 0, .int .i64 0, .int .i64 0, .int .i64 0, .int .i64 0] 43)).setCells w1.heap.size 0 [.int .i64 R.k, .string R.key, .int .i64 R.id, .int .i64 R.n, .int .i64 R.ttl, .int .i64 R.o, .string R.nm, .string R.sec, .string R.pn, .int .i64 R.p1, .int .i64 R.p2, .int .i64 R.p3, .int .i64 R.p4, .int .i64 R.p5, .int .i64 R.p6, .int .i64 R.p7, .int .i64 R.p8, .int .i64 R.p9] := ⟨_, rfl⟩
  have HR2 : Hid (w2.rangeAt w1.heap.size 0 [.int .i64 R.k, .string R.key, .int .i64 R.id, .int .i64 R.n, .int .i64 R.ttl, .int .i64 R.o, .string R.nm, .string R.sec, .string R.pn, .int .i64 R.p1, .int .i64 R.p2, .int .i64 R.p3, .int .i64 R.p4, .int .i64 R.p5, .int .i64 R.p6, .int .i64 R.p7, .int .i64 R.p8, .int .i64 R.p9]) := by rw [hw2]; exact World.rangeAt_setCells_same _ _ 0 _ HT1.out
  have hth2 : w2.there q 0 19 := by
    rw [hw2]
    exact there_blk (there_blk hth1 (Below.heap_alloc _ _ _ (by omega))) (heap_setCellsN _ _ (by omega) _ _ _)
  have hT2 : Turn [] w w2 := by
    rw [hw2]
    exact ((HT0.out.trans hT1).alloc _).setCellsN _ (by have := HQ.out; omega) _ _
  have HTh2 := hide hth2
  have HF : Hid (∀ cs, Turn [] w (w2.setCells q 0 cs)) := fun cs => hT2.setCellsN _ (by have := HQ.out; omega) _ _
  have hl : ([.int .i64 R.k, .string R.key, .int .i64 R.id, .int .i64 R.n, .int .i64 R.ttl, .int .i64 R.o, .string R.nm, .string R.sec, .string R.pn, .int .i64 R.p1, .int .i64 R.p2, .int .i64 R.p3, .int .i64 R.p4, .int .i64 R.p5, .int .i64 R.p6, .int .i64 R.p7, .int .i64 R.p8, .int .i64 R.p9, .int .i64 (x : Nat)] : List Value).length = 19 := rfl
  have H1 : Hid (∀ v ∈ ([.int .i64 R.k, .string R.key, .int .i64 R.id, .int .i64 R.n, .int .i64 R.ttl, .int .i64 R.o, .string R.nm, .string R.sec, .string R.pn, .int .i64 R.p1, .int .i64 R.p2, .int .i64 R.p3, .int .i64 R.p4, .int .i64 R.p5, .int .i64 R.p6, .int .i64 R.p7, .int .i64 R.p8, .int .i64 R.p9, .int .i64 (x : Nat)] : List Value), v.oneCell' = true) := itC_one ⟨R, x⟩
  have HR := hide (World.rangeAt_setCells_same w2 q 0 [.int .i64 R.k, .string R.key, .int .i64 R.id, .int .i64 R.n, .int .i64 R.ttl, .int .i64 R.o, .string R.nm, .string R.sec, .string R.pn, .int .i64 R.p1, .int .i64 R.p2, .int .i64 R.p3, .int .i64 R.p4, .int .i64 R.p5, .int .i64 R.p6, .int .i64 R.p7, .int .i64 R.p8, .int .i64 R.p9, .int .i64 (x : Nat)] (by rw [hl]; exact hth2))
  have HW2 := hide hw2
  clear hT1 hth1 hT2 hth2 hw2 hqz HP HT0 HTh
  go_upto_region 6 with (first | ((with_reducible refine store_sz 43 18 sz25 _ _ w1.heap.size 0 [.int .i64 R.k, .string R.key, .int .i64 R.id, .int .i64 R.n, .int .i64 R.ttl, .int .i64 R.o, .string R.nm, .string R.sec, .string R.pn, .int .i64 R.p1, .int .i64 R.p2, .int .i64 R.p3, .int .i64 R.p4, .int .i64 R.p5, .int .i64 R.p6, .int .i64 R.p7, .int .i64 R.p8, .int .i64 R.p9] hlR H1R.out ?_ ?_ HT1.out ?_); rfl; rfl) | fail)
  rw [← HW2.out]
  generalize w1.heap.size = r at *
  go_wp2_with (first | ((with_reducible refine load_sz 43 18 sz25 _ r 0 [.int .i64 R.k, .string R.key, .int .i64 R.id, .int .i64 R.n, .int .i64 R.ttl, .int .i64 R.o, .string R.nm, .string R.sec, .string R.pn, .int .i64 R.p1, .int .i64 R.p2, .int .i64 R.p3, .int .i64 R.p4, .int .i64 R.p5, .int .i64 R.p6, .int .i64 R.p7, .int .i64 R.p8, .int .i64 R.p9] hlR ?_ HR2.out ?_); rfl) | ((with_reducible refine store_sz 46 19 sz_item _ _ q 0 [.int .i64 R.k, .string R.key, .int .i64 R.id, .int .i64 R.n, .int .i64 R.ttl, .int .i64 R.o, .string R.nm, .string R.sec, .string R.pn, .int .i64 R.p1, .int .i64 R.p2, .int .i64 R.p3, .int .i64 R.p4, .int .i64 R.p5, .int .i64 R.p6, .int .i64 R.p7, .int .i64 R.p8, .int .i64 R.p9, .int .i64 (x : Nat)] hl H1.out ?_ ?_ HTh2.out ?_); rfl; rfl) | fail)
  refine bodyPost_ret (v := .agg [.int .i64 R.k, .string R.key, .int .i64 R.id, .int .i64 R.n, .int .i64 R.ttl, .int .i64 R.o, .string R.nm, .string R.sec, .string R.pn, .int .i64 R.p1, .int .i64 R.p2, .int .i64 R.p3, .int .i64 R.p4, .int .i64 R.p5, .int .i64 R.p6, .int .i64 R.p7, .int .i64 R.p8, .int .i64 R.p9, .int .i64 (x : Nat)].toArray) (results_sz sz_item Try.results19 hl rfl HR.out) rfl ⟨rfl, HF.out _⟩

theorem read_any {w : World} {g : Nat} {mo : Option Nat} (hL : Live w g mo []) (A : Option Addr) (C : Nat) (l : List Nat) (hB : Byr w A C l) (h2 : 2 ≤ l.length) :
    Calls Try.prog 19 #[.pointer (some ⟨g, 0, none⟩), .slice A l.length C] w fun e w' => e = .returned (.agg (itC (itemOf l)).toArray) ∧ ReadP w g mo l w' := by
  by_cases he : l.length = 2
  · unfold itemOf
    rw [if_pos he, he]
    refine (read_bad hL A C).mono ?_
    rintro e w' ⟨h1, h3, h4⟩
    exact ⟨h1, h3, fun h => absurd he h, fun _ => h4⟩
  · unfold itemOf
    rw [if_neg he]
    refine (read_good hL A C l hB (by omega)).mono ?_
    rintro e w' ⟨h1, h3⟩
    exact ⟨h1, h3.mono (by simp), fun _ => hL.turn0 h3, fun h => absurd h he⟩

end Go.Proofs.Ytmmbckchaklhaaa.Se

namespace Go.Proofs.Ytmmbckchaklhaaa.Se
open Go.RowKit Go.Maps

theorem own_keepS {S : List Nat} {w w' : World} {base e m n : Nat} {v : Value} {cs : List Value} (h : w.ownsRow base e m v n cs) (hT : Turn S w w') (hS : ∀ q, v.ownBlock = some q → q ∉ S) : w'.ownsRow base e m v n cs := by
  obtain ⟨hl, h | ⟨g, cap, cur, rfl, hb, hg, rest⟩⟩ := h
  · exact ⟨hl, .inl h⟩
  · have hlt : g < w.heap.size := by
      rcases Nat.lt_or_ge g w.heap.size with h | h
      · exact h
      · rw [Array.getElem?_eq_none h] at hg; cases hg
    exact ⟨hl, .inr ⟨g, cap, cur, rfl, hb, (hT.block g hlt (hS g rfl)).trans hg, rest⟩⟩
theorem own_ge {w : World} {base e m n : Nat} {v : Value} {cs : List Value} (h : w.ownsRow base e m v n cs) {q : Nat} (hq : v.ownBlock = some q) : base ≤ q ∧ q < w.heap.size := by
  obtain ⟨hl, ⟨rfl, _⟩ | ⟨g, cap, cur, rfl, hb, hg, rest⟩⟩ := h
  · cases hq
  · have hlt : g < w.heap.size := by
      rcases Nat.lt_or_ge g w.heap.size with h | h
      · exact h
      · rw [Array.getElem?_eq_none h] at hg; cases hg
    simp only [Value.ownBlock, Option.some.injEq] at hq
    omega

/-- Items' cells, one behind the other. -/
def flatI : List It → List Value
  | [] => []
  | x :: l => itC x ++ flatI l
theorem flatI_length (l : List It) : (flatI l).length = l.length * 19 := by
  induction l with
  | nil => rfl
  | cons x l ih => rw [flatI, List.length_append, itC_len, ih, List.length_cons]; omega
theorem flatI_append (a b : List It) : flatI (a ++ b) = flatI a ++ flatI b := by
  induction a with
  | nil => rfl
  | cons x l ih => rw [List.cons_append, flatI, flatI, ih, List.append_assoc]
theorem flatI_single (x : It) : flatI [x] = itC x := by rw [flatI, flatI, List.append_nil]

/-- A row of items of the call's own. -/
def Items (w : World) (base : Nat) (v : Value) (l : List It) : Prop := w.ownsRow base 46 19 v l.length (flatI l)
theorem Items.nil (w : World) (base : Nat) : Items w base (.slice none 0 0) [] := World.ownsRow_nil _ _ _ _
theorem Items.turn {w w' : World} {base : Nat} {v : Value} {l : List It} (h : Items w base v l) (hT : Turn [] w w') : Items w' base v l := own_keepS h hT (by simp)

theorem info_item : (Try.prog.info? 46).map (fun i => (i.zero, i.size, i.bytes)) = some (some (.agg (itC ⟨Rq.zero, 0⟩).toArray), 19, 184) := by kernel_rfl
/-- One item more. -/
theorem append_item {ops : Array Oper} {rest : List Oper} {o : Oper} {a : Act} {Q : Exit → Act → World → Prop} {w : World} (hgd : o.guard = none) (s x : Operand)
    (ho : o.op = .call { callee := .builtin .append, args := #[s, x], argTypes := #[34, 34] }) (base : Nat) (v : Value) (rs : List It) (t : It) (q : Nat) (hs : a.eval s = v) (hown : Items w base v rs) (hx : a.eval x = .slice (some ⟨q, 0, none⟩) 1 1) (hA : w.rangeAt q 0 (itC t)) (hb : rs.length + 1 ≤ 1000001) (hbase : base ≤ w.heap.size)
    (h : ∀ v' w', Items w' base v' (rs ++ [t]) → Turn v.ownBlock.toList w w' → (v'.ownBlock = v.ownBlock ∨ v'.ownBlock = some w.heap.size) → wpList Try.prog ops Q rest (a.put o.dst v') w') :
    wpList Try.prog ops Q (o :: rest) a w := by
  obtain ⟨i0, hi, hz0, hz1, hz2⟩ := info_parts info_item
  refine wpList_append_own_at _ hgd s x 34 ho base 46 i0 (.agg (itC ⟨Rq.zero, 0⟩).toArray) 19 184 Try.underlying34 hi hz0 hz1 hz2 rfl (by decide) v rs.length (flatI rs) hs hown ⟨q, 0, none⟩ 1 1 (itC t) hx (itC_len t) (fun j u hj => ?_) (itC_one t) (by unfold maxLen; omega) (by omega) hbase ?_
  · rw [Addr.add_mid]
    exact hA j u hj
  · intro v' w' h1 h2 _ h4
    refine h v' w' ?_ ((Turn.refl _ w).grown h2 fun k hk => .inl (by rw [hk]; simp)) h4
    unfold Items
    rw [List.length_append, flatI_append, flatI_single]
    exact h1

/-- How many bytes wait, out of memory. -/
def waitsOf (w : World) (g : Nat) : Nat :=
  match w.cell? ⟨g, 4, none⟩ with
  | some (.int .i64 n) => n.toNat
  | _ => 0
theorem SessAt.waits {w : World} {g : Nat} {mo : Option Nat} {s : Ss} (h : SessAt w g mo s) : waitsOf w g = s.ws.length := by
  obtain ⟨d, v, hC⟩ := h.cells
  unfold waitsOf
  rw [hC.c4]
  rfl

theorem run_mem (n : Nat) : ∀ l : List Nat, l.length ≤ n → ∀ x ∈ (run l).2.1, x ∈ l := by
  induction n with
  | zero =>
    intro l hl
    have : l.length < span l := by have := span_ge l; omega
    rw [run_wait this]
    exact fun x h => h
  | succ n ih =>
    intro l hl x hx
    by_cases h : l.length < span l
    · rw [run_wait h] at hx
      exact hx
    by_cases h2 : span l = 2
    · rw [run_bad h h2] at hx
      cases hx
    · rw [run_item h h2] at hx
      exact List.mem_of_mem_drop (ih _ (by rw [List.length_drop]; have := span_ge l; omega) x hx)
theorem feed_8 {s : Ss} {b : List Nat} (h : ∀ x ∈ s.ws, x < 256) (hb : ∀ x ∈ b, x < 256) : ∀ x ∈ (feed s b).2.ws, x < 256 := by
  unfold feed
  split
  · exact h
  · intro x hx
    rcases List.mem_append.1 (run_mem _ _ (Nat.le_refl _) x hx) with k | k
    · exact h x k
    · exact hb x k

/-- What Feed answers, and what becomes of the session. -/
structure FeedP (w : World) (g : Nat) (mo : Option Nat) (l : List It) (s : Ss) (v : Value) (mo' : Option Nat) (w' : World) : Prop where
  its : Items w' w.heap.size v l
  sess : SessAt w' g mo' s
  went : Went w mo mo'
  tn : Turn (own g mo) w w'
  apart : ∀ q, v.ownBlock = some q → q ∉ own g mo'

/-- Behind some frames. -/
structure Fd (w wr : World) (g : Nat) (mo : Option Nat) (s : Ss) (b : List Nat) (s' : Ss) (b' : List Nat) (dn : List It) (v : Value) (A : Option Addr) (C : Nat) : Prop where
  sess : SessAt wr g mo s'
  tn : Turn (own g mo) w wr
  byr : Byr wr A C b'
  blk : ∀ x, b' ≠ [] → A = some x → x.block ∉ v.ownBlock.toList ++ own g mo
  its : Items wr w.heap.size v dn
  h8 : ∀ x ∈ s'.ws, x < 256
  fin : feed s b = (dn ++ (feed s' b').1, (feed s' b').2)
  len : dn.length + s'.ws.length + b'.length ≤ s.ws.length + b.length
  low : ∀ x ∈ own g mo, x < w.heap.size

theorem Fd.apart {w wr : World} {g : Nat} {mo : Option Nat} {s : Ss} {b : List Nat} {s' : Ss} {b' : List Nat} {dn : List It} {v : Value} {A : Option Addr} {C : Nat} (h : Fd w wr g mo s b s' b' dn v A C) : ∀ q, v.ownBlock = some q → q ∉ own g mo := fun q hq hm => by
  have := own_ge h.its hq
  have := h.low q hm
  omega
/-- Broken, at the loop's head. -/
theorem Fd.dead {w wr : World} {g : Nat} {mo : Option Nat} {s : Ss} {b : List Nat} {s' : Ss} {b' : List Nat} {dn : List It} {v : Value} {A : Option Addr} {C : Nat} (h : Fd w wr g mo s b s' b' dn v A C) (hb : s'.br = true) : FeedP w g mo (feed s b).1 (feed s b).2 v mo wr := by
  rw [h.fin, feed_dead hb, List.append_nil]
  exact ⟨h.its, h.sess, .inl rfl, h.tn, h.apart⟩
/-- No whole frame is there. -/
theorem Fd.wait {w wr w1 : World} {g : Nat} {mo mo' : Option Nat} {s : Ss} {b : List Nat} {s' : Ss} {b' : List Nat} {dn : List It} {v : Value} {A : Option Addr} {C : Nat} (h : Fd w wr g mo s b s' b' dn v A C) (hb : s'.br = false) (hl : (s'.ws ++ b').length < span (s'.ws ++ b')) (hL : Live w1 g mo' (s'.ws ++ b')) (hW : Went wr mo mo') (hT : Turn (own g mo) wr w1) : FeedP w g mo (feed s b).1 (feed s b).2 v mo' w1 := by
  rw [h.fin, feed_wait hb hl, List.append_nil]
  refine ⟨own_keepS h.its hT h.apart, ⟨⟨fun e => (by cases e), hl⟩, fun _ => hL, fun e => by cases e⟩, (Went.refl w mo).trans hW h.tn.size, h.tn.trans hT, fun q hq hm => ?_⟩
  have h1 := own_ge h.its hq
  rcases hW with rfl | ⟨_, m, rfl, hm2⟩
  · exact h.apart q hq hm
  · rcases own_iff.1 hm with e | e
    · have := h.low g (own_g _ _)
      omega
    · have := Option.some.inj e
      omega
/-- A frame was read, its item laid behind the others. -/
theorem Fd.step {w wr w1 w2 w3 w4 : World} {g : Nat} {mo : Option Nat} {s : Ss} {b : List Nat} {s' : Ss} {b' : List Nat} {dn : List It} {v v' : Value} {A A1 : Option Addr} {C C1 : Nat} (h : Fd w wr g mo s b s' b' dn v A C) (hb : s'.br = false) (hl : ¬ (s'.ws ++ b').length < span (s'.ws ++ b')) (hT1 : Turn (own g mo) wr w1)
    (hB : Byr w1 A1 C1 ((s'.ws ++ b').drop (span (s'.ws ++ b')))) (hblk : ∀ x, (s'.ws ++ b').drop (span (s'.ws ++ b')) ≠ [] → A1 = some x → x.block ∉ v.ownBlock.toList ++ own g mo)
    (hR : ReadP w1 g mo ((s'.ws ++ b').take (span (s'.ws ++ b'))) w2) (hT3 : Turn [] w2 w3) (hI : Items w4 w.heap.size v' (dn ++ [itemOf ((s'.ws ++ b').take (span (s'.ws ++ b')))])) (hT4 : Turn v.ownBlock.toList w3 w4) (hv : v'.ownBlock = v.ownBlock ∨ v'.ownBlock = some w3.heap.size) :
    Fd w w4 g mo s b ⟨[], decide (span (s'.ws ++ b') = 2)⟩ ((s'.ws ++ b').drop (span (s'.ws ++ b'))) (dn ++ [itemOf ((s'.ws ++ b').take (span (s'.ws ++ b')))]) v' A1 C1 := by
  have hsp := span_ge (s'.ws ++ b')
  have htl : ((s'.ws ++ b').take (span (s'.ws ++ b'))).length = span (s'.ws ++ b') := by rw [List.length_take]; omega
  have hgm : ∀ x ∈ own g mo, x ∉ v.ownBlock.toList := fun x hx hm => by
    have := own_ge h.its (Option.mem_toList.1 hm)
    have := h.low x hx
    omega
  have hT24 : Turn v.ownBlock.toList w2 w4 := (hT3.mono (by simp)).trans hT4
  have hT12 : Turn (own g mo) w1 w2 := hR.tn.mono (fun x hx => by rw [List.mem_singleton.1 hx]; exact own_g _ _)
  have hT04 : Turn (own g mo) w w4 := (h.tn.trans (hT1.trans hT12)).then hT24 (fun x hx => .inr (own_ge h.its (Option.mem_toList.1 hx)).1)
  have hS : SessAt w2 g mo ⟨[], decide (span (s'.ws ++ b') = 2)⟩ := by
    refine ⟨⟨fun _ => rfl, by show 0 < span []; have := span_ge []; omega⟩, fun e => ?_, fun e => ?_⟩
    · exact hR.live (by rw [htl]; simpa using e)
    · exact hR.dead (by rw [htl]; simpa using e)
  have hB2 : Byr w2 A1 C1 ((s'.ws ++ b').drop (span (s'.ws ++ b'))) := hB.keepS hR.tn (fun x h1 h2 h3 => hblk x h1 h2 (List.mem_append_right _ (by rw [List.mem_singleton.1 h3]; exact own_g _ _)))
  refine ⟨hS.turn hT24 (hgm g (own_g _ _)) (fun m hm => hgm m (own_iff.2 (.inr hm))), hT04, hB2.keepS hT24 (fun x h1 h2 h3 => hblk x h1 h2 (List.mem_append_left _ h3)), fun x h1 h2 h3 => ?_, hI, fun x hx => (by cases hx), ?_, ?_, h.low⟩
  · rcases List.mem_append.1 h3 with k | k
    · rcases hv with e | e
      · rw [e] at k
        exact hblk x h1 h2 (List.mem_append_left _ k)
      · rw [e] at k
        have hk : x.block = w3.heap.size := by simpa using k
        obtain ⟨y, hy⟩ : ∃ y, y ∈ (s'.ws ++ b').drop (span (s'.ws ++ b')) := List.exists_mem_of_ne_nil _ h1
        rcases hB2.bt with e2 | ⟨bb, off, e2, hc⟩
        · exact h1 e2
        · have hlt := lt_of_cell (hc 0 (List.length_pos_iff.2 h1))
          rw [h2] at e2
          have e3 : x.block = bb := by rw [Option.some.inj e2]
          have := hT3.size
          omega
    · exact hblk x h1 h2 (List.mem_append_right _ k)
  · rw [h.fin, feed_take hb hl]
    simp
  · have := h.len
    rw [List.length_append] at hl
    simp only [List.length_append, List.length_drop, List.length_singleton, List.length_nil]
    omega
theorem Fd.start {w : World} {g : Nat} {mo : Option Nat} {s : Ss} (h : SessAt w g mo s) (hb : s.br = false) {A : Option Addr} {C : Nat} {b : List Nat} (hB : Byr w A C b) (h8 : ∀ x ∈ s.ws, x < 256) (hblk : ∀ x, b ≠ [] → A = some x → x.block ∉ own g mo) : Fd w w g mo s b s b [] (.slice none 0 0) A C := by
  have hL := h.2.1 hb
  refine ⟨h, Turn.refl _ _, hB, fun x h1 h2 => by simpa [Value.ownBlock] using hblk x h1 h2, Items.nil _ _, h8, by simp, by simp, fun x hx => ?_⟩
  rcases own_iff.1 hx with rfl | rfl
  · exact hL.lt
  · exact hL.ltm

/-- One item, in a block of its own. -/
theorem item_new (w : World) (T : It) : (w.alloc (.cells #[.int .i64 T.r.k, .string T.r.key, .int .i64 T.r.id, .int .i64 T.r.n, .int .i64 T.r.ttl, .int .i64 T.r.o, .string T.r.nm, .string T.r.sec, .string T.r.pn, .int .i64 T.r.p1, .int .i64 T.r.p2, .int .i64 T.r.p3, .int .i64 T.r.p4, .int .i64 T.r.p5, .int .i64 T.r.p6, .int .i64 T.r.p7, .int .i64 T.r.p8, .int .i64 T.r.p9, .int .i64 (T.e : Nat)] 46)).rangeAt w.heap.size 0 (itC T) := fun j v hj => by
  have hb : (w.alloc (.cells #[.int .i64 T.r.k, .string T.r.key, .int .i64 T.r.id, .int .i64 T.r.n, .int .i64 T.r.ttl, .int .i64 T.r.o, .string T.r.nm, .string T.r.sec, .string T.r.pn, .int .i64 T.r.p1, .int .i64 T.r.p2, .int .i64 T.r.p3, .int .i64 T.r.p4, .int .i64 T.r.p5, .int .i64 T.r.p6, .int .i64 T.r.p7, .int .i64 T.r.p8, .int .i64 T.r.p9, .int .i64 (T.e : Nat)] 46)).heap[w.heap.size]? = _ := Array.getElem?_push_size
  unfold World.cell?
  rw [hb]
  show (#[.int .i64 T.r.k, .string T.r.key, .int .i64 T.r.id, .int .i64 T.r.n, .int .i64 T.r.ttl, .int .i64 T.r.o, .string T.r.nm, .string T.r.sec, .string T.r.pn, .int .i64 T.r.p1, .int .i64 T.r.p2, .int .i64 T.r.p3, .int .i64 T.r.p4, .int .i64 T.r.p5, .int .i64 T.r.p6, .int .i64 T.r.p7, .int .i64 T.r.p8, .int .i64 T.r.p9, .int .i64 (T.e : Nat)] : Array Value)[0 + j]? = some v
  rw [Nat.zero_add, ← hj, ← Array.getElem?_toList]
  rfl

set_option maxRecDepth 100000 in
set_option maxHeartbeats 8000000 in
theorem feed_any {w : World} {g : Nat} {mo : Option Nat} {s : Ss} (hS : SessAt w g mo s) (a : Option Addr) (c : Nat) (b : List Nat) (hB : Byr w a c b) (h8 : ∀ x ∈ s.ws, x < 256) (hblk : ∀ x, b ≠ [] → a = some x → x.block ∉ own g mo) (hlen : s.ws.length + b.length ≤ 1000000) :
    Calls Try.prog 11 #[.pointer (some ⟨g, 0, none⟩), .slice a b.length c] w fun e w' => ∃ v mo', e = .returned v ∧ FeedP w g mo (feed s b).1 (feed s b).2 v mo' w' := by
  obtain ⟨E, hE⟩ : ∃ E : Ending → World → Prop, E = fun e w' => ∃ v mo', e = .returned v ∧ FeedP w g mo (feed s b).1 (feed s b).2 v mo' w' := ⟨_, rfl⟩
  rw [← hE]
  have HE : Hid (∀ v mo' w', FeedP w g mo (feed s b).1 (feed s b).2 v mo' w' → E (.returned v) w') := fun v mo' w' h => by
    rw [hE]
    exact ⟨v, mo', rfl, h⟩
  clear hE
  by_cases hb : s.br = true
  · obtain ⟨d, v, hC⟩ := hS.cells
    rw [hb] at hC
    have c5 := hC.c5
    have hg := hC.lt
    have HX : Hid (E (.returned (.slice none 0 0)) w) := HE.out _ mo _ (by
      rw [feed_dead hb]
      exact ⟨Items.nil _ _, hS, .inl rfl, Turn.refl _ _, fun q hq => by cases hq⟩)
    clear HE hS hB h8 hblk hlen hC hb
    generalize b.length = n at *
    go_enter Try.func11, Try.ntmps11
    go_wp2_with fail
    go_loopw [1, 5] (fun u1 u5 wr => u1 = .slice a n c ∧ u5 = .slice none 0 0 ∧ wr = w) (fun _ _ _ => 0)
    case atStart => exact ⟨rfl, rfl, rfl⟩
    case round =>
      obtain ⟨rfl, rfl, rfl⟩ := hrel
      go_wp2_with fail
      exact HX.out
  · have HF0 := hide (Fd.start hS (by simpa using hb) hB h8 hblk)
    obtain ⟨N, hN⟩ : ∃ N, b.length = N := ⟨_, rfl⟩
    have HLen := hide hlen
    clear hS hB h8 hblk hb hlen
    rw [hN]
    have HN := hide hN
    clear hN
    go_enter Try.func11, Try.ntmps11
    go_wp2_with fail
    go_loopw [1, 5] (fun u1 u5 wr => ∃ (s' : Ss) (b' : List Nat) (dn : List It) (v : Value) (A : Option Addr) (n C : Nat), u1 = .slice A n C ∧ u5 = v ∧ Hid (n = b'.length) ∧ Hid (Fd w wr g mo s b s' b' dn v A C)) (fun u1 _ wr => lenV u1 + waitsOf wr g)
    case atStart => exact ⟨s, b, [], _, a, N, c, rfl, rfl, HN.out.symm, HF0⟩
    case round =>
      obtain ⟨s', b', dn, v, A, n, C, rfl, hv5, Hn, HF⟩ := hrel
      subst hv5
      obtain ⟨d, vv, hC⟩ := HF.out.sess.cells
      have c5 := hC.c5
      have hg := hC.lt
      clear hC
      by_cases hb : s'.br = true
      · have HX : Hid (E (.returned u5) wr) := HE.out _ mo _ (HF.out.dead hb)
        rw [hb] at c5
        clear HE HF Hn HF0
        go_wp2_with fail
        exact HX.out
      · have hb' : s'.br = false := by simpa using hb
        rw [hb'] at c5
        clear hb
        have HNx := hide (next_any (HF.out.sess.2.1 hb') A C b' HF.out.byr HF.out.h8 HF.out.sess.1.2 u5.ownBlock.toList HF.out.blk)
        rw [← Hn.out] at HNx
        have Hb := hide (fun (_ : Unit) => hb')
        clear hb'
        obtain ⟨K, hK⟩ : ∃ K, K = fun e w' => NextP u5.ownBlock.toList wr g mo (s'.ws ++ b') e w' := ⟨_, rfl⟩
        rw [← hK] at HNx
        have HK := hide (fun (_ : Unit) => hK)
        clear hK
        go_upto_region 4 with (go_at_call 18; refine HNx.out.mono ?_; rintro e w1 hE1; have HE1 := hide hE1; clear hE1; rw [HK.out ()] at HE1; rcases HE1.out with ⟨hlt, rfl, h3⟩ | ⟨hlt, A1, C1, A2, C2, rfl, h3⟩)
        · obtain ⟨mo', h31, h32, h33⟩ := h3
          have HX : Hid (E (.returned u5) w1) := HE.out _ mo' _ (HF.out.wait (Hb.out ()) hlt h31 h32 h33)
          clear HE HF Hn HF0 HE1 HNx HK hlt h31 h32 h33 Hb
          go_wp2_with fail
          exact HX.out
        · obtain ⟨hL1, hT1, hB1, hB2, hbk⟩ := h3
          have hsp := span_ge (s'.ws ++ b')
          have hsp2 := span_le (s'.ws ++ b')
          have htl : ((s'.ws ++ b').take (span (s'.ws ++ b'))).length = span (s'.ws ++ b') := by rw [List.length_take]; omega
          have hR := read_any hL1 A1 C1 _ hB1 (by rw [htl]; exact hsp)
          rw [htl] at hR
          have hlen2 := HF.out.len
          have hll := HLen.out
          have hdl : dn.length + 1 ≤ 1000001 := by omega
          have hbase : ∀ o : Obj, ∀ w2, Turn [g] w1 w2 → w.heap.size ≤ (w2.alloc o).heap.size := fun o w2 h => by
            have := HF.out.tn.size
            have := hT1.size
            have := h.size
            simp
            omega
          have HW : Hid (waitsOf wr g = s'.ws.length) := HF.out.sess.waits
          have HSt : Hid (∀ w2 w4 v' (o : Obj), ReadP w1 g mo ((s'.ws ++ b').take (span (s'.ws ++ b'))) w2 → Items w4 w.heap.size v' (dn ++ [itemOf ((s'.ws ++ b').take (span (s'.ws ++ b')))]) → Turn u5.ownBlock.toList (w2.alloc o) w4 → (v'.ownBlock = u5.ownBlock ∨ v'.ownBlock = some (w2.alloc o).heap.size) → Fd w w4 g mo s b ⟨[], decide (span (s'.ws ++ b') = 2)⟩ ((s'.ws ++ b').drop (span (s'.ws ++ b'))) (dn ++ [itemOf ((s'.ws ++ b').take (span (s'.ws ++ b')))]) v' A2 C2) := fun w2 w4 v' o h1 h2 h3 h4 =>
            HF.out.step (Hb.out ()) hlt hT1 hB2 hbk h1 ((Turn.refl [] w2).alloc _) h2 h3 h4
          have HIt : Hid (∀ w2, Turn [g] w1 w2 → Items w2 w.heap.size u5 dn) := fun w2 h => own_keepS (own_keepS HF.out.its hT1 HF.out.apart) h (fun q hq hm => HF.out.apart q hq (by rw [List.mem_singleton.1 hm]; exact own_g _ _))
          have hnn : (s'.ws ++ b').length = s'.ws.length + n := by rw [List.length_append, Hn.out]
          have hDl : ((s'.ws ++ b').drop (span (s'.ws ++ b'))).length = s'.ws.length + b'.length - span (s'.ws ++ b') := by rw [List.length_drop, List.length_append]
          have HDl := hide hDl
          clear hDl
          have hms : s'.ws.length + b'.length - span (s'.ws ++ b') < n + s'.ws.length := by have := Hn.out; omega
          generalize (s'.ws ++ b').drop (span (s'.ws ++ b')) = R at *
          generalize hW0 : (s'.ws ++ b').take (span (s'.ws ++ b')) = W0 at *
          clear hW0
          obtain ⟨T, hT⟩ : ∃ T, T = itemOf W0 := ⟨_, rfl⟩
          rw [← hT] at hR HSt
          clear hT
          have HR : Hid (Calls Try.prog 19 #[.pointer (some ⟨g, 0, none⟩), .slice A1 (span (s'.ws ++ b')) C1] w1 fun e w' => e = .returned (.agg #[.int .i64 T.r.k, .string T.r.key, .int .i64 T.r.id, .int .i64 T.r.n, .int .i64 T.r.ttl, .int .i64 T.r.o, .string T.r.nm, .string T.r.sec, .string T.r.pn, .int .i64 T.r.p1, .int .i64 T.r.p2, .int .i64 T.r.p3, .int .i64 T.r.p4, .int .i64 T.r.p5, .int .i64 T.r.p6, .int .i64 T.r.p7, .int .i64 T.r.p8, .int .i64 T.r.p9, .int .i64 (T.e : Nat)]) ∧ ReadP w1 g mo W0 w') := by
            refine hR.mono ?_
            rintro e w' ⟨he, hR'⟩
            exact ⟨by rw [he]; rfl, hR'⟩
          clear hR hB1 hB2 hL1 htl HE1 HNx HK hbk hT1 hll hlen2 HF0
          clear hnn hlt
          have HMs := hide hms
          clear hms
          generalize s'.ws.length + b'.length - span (s'.ws ++ b') = n2 at *
          have HBr := hide (fun (_ : Unit) => (rfl : decide (span (s'.ws ++ b') = 2) = decide (span (s'.ws ++ b') = 2)))
          generalize decide (span (s'.ws ++ b') = 2) = z at *
          generalize span (s'.ws ++ b') = S at *
          clear HBr
          go_wp2_with (first | (go_at_call 19; refine HR.out.mono ?_; rintro e w2 ⟨rfl, hRd⟩; have HI2 := hide (HIt.out w2 hRd.tn); have hbs := hbase (.cells #[.int .i64 T.r.k, .string T.r.key, .int .i64 T.r.id, .int .i64 T.r.n, .int .i64 T.r.ttl, .int .i64 T.r.o, .string T.r.nm, .string T.r.sec, .string T.r.pn, .int .i64 T.r.p1, .int .i64 T.r.p2, .int .i64 T.r.p3, .int .i64 T.r.p4, .int .i64 T.r.p5, .int .i64 T.r.p6, .int .i64 T.r.p7, .int .i64 T.r.p8, .int .i64 T.r.p9, .int .i64 (T.e : Nat)] 46) w2 hRd.tn; have HRd := hide hRd; clear hRd) | (at_builtin; refine append_item rfl _ _ rfl w.heap.size u5 dn T w2.heap.size rfl (HI2.out.turn ((Turn.refl [] w2).alloc _)) rfl (item_new w2 T) hdl hbs ?_; intro v' w4 k1 k2 k3; have HFd := hide (HSt.out w2 w4 v' _ HRd.out k1 k2 k3); clear k1 k2 k3 hbs) | fail)
          refine ⟨⟨⟨[], z⟩, R, dn ++ [T], v', A2, n2, C2, rfl, rfl, HDl.out.symm, HFd⟩, ?_⟩
          show n2 + waitsOf w4 g < n + waitsOf wr g
          rw [HW.out, HFd.out.sess.waits]
          exact HMs.out

end Go.Proofs.Ytmmbckchaklhaaa.Se
