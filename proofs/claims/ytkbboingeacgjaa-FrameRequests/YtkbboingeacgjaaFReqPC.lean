/-
  fields.request of the frame, walked: carrier p.
-/
import Derived.Test.YtkbboingeacgjaaFOf
import Derived.Deep.Cut
namespace Go.Proofs.Ytkbboingeacgjaa
open Go.RowKit

set_option maxRecDepth 100000 in
set_option maxHeartbeats 6400000 in
theorem reqp16 {b g : Nat} {w : World} {s : Sx} (r : Rq) (hr : r.Ok) (hk : (prC.kind s r.k).2 = 16) (h : AtP b g 0 w s) :
    Calls Try.prog 24 #[.agg #[.iface 74 (.pointer (some ⟨b, 0, none⟩))], .agg #[.int .i64 r.k, .string r.key, .int .i64 r.id, .int .i64 r.n, .int .i64 r.ttl, .int .i64 r.o, .string r.nm, .string r.sec, .string r.pn, .int .i64 r.p1, .int .i64 r.p2, .int .i64 r.p3, .int .i64 r.p4, .int .i64 r.p5, .int .i64 r.p6, .int .i64 r.p7, .int .i64 r.p8, .int .i64 r.p9]] w fun e w' => e = .returned (.agg (rqC (reqS prC s r).2).toArray) ∧ AtP b g 99 w' (reqS prC s r).1 ∧ Keep (fun x => x ≠ b) w w' := by
  obtain ⟨hr1, hr2, hr3, hr4⟩ := hr
  obtain ⟨⟨s0, k0⟩, h0⟩ : ∃ T, prC.kind s r.k = T := ⟨_, rfl⟩
  rw [h0] at hk
  obtain rfl : k0 = 16 := hk
  obtain ⟨⟨s1, y1⟩, h1⟩ : ∃ T, prC.text s0 r.key = T := ⟨_, rfl⟩
  obtain ⟨⟨s2, m2, ys2⟩, h2⟩ : ∃ T, prC.plan s1 r.pn r.px = T := ⟨_, rfl⟩
  have hS : reqS prC s r = (s2, Rq.setP { Rq.zero with k := 16, key := y1 } m2 ys2) := by
    unfold reqS reqK
    rw [h0]
    simp only [h1, h2]
    rfl
  have H0 := hide h0
  have H1 := hide h1
  have H2 := hide h2
  have HS := hide hS
  rw [HS.out]
  clear hS h0 h1 h2
  obtain ⟨T0, hT0, hK0, hsz, hfc, hsrc, ht2⟩ := box3 w (.iface 74 (.pointer (some ⟨b, 0, none⟩))) r
  have HT0 := hide hT0
  clear hT0
  have hbl : b < w.heap.size := lt_of_cell h.1.c0
  have hgl : g < w.heap.size := h.2
  have hgb : g ≠ b := h.1.gb
  have hA0 : AtP b g 0 T0 s := ⟨h.1.keep (P := fun _ => True) hK0 trivial trivial, by rw [hsz]; omega⟩
  have HC := hide (pkind r.k (by omega) hA0)
  rw [H0.out] at HC
  have HK0 := hide hK0
  have HZ := hide hsz
  have HFc := hide hfc
  have HSrc := hide hsrc
  have HT2 := hide ht2
  have hck : T0.cell? ⟨w.heap.size + 1, 0, none⟩ = some (.int .i64 r.k) := hsrc 0 (.int .i64 r.k) rfl
  clear hK0 hsz hsrc ht2 hA0 h
  generalize hfb : w.heap.size = fb at *
  go_enter Try.func24, Try.ntmps24
  go_wp2_with fail
  have HFb := hide hfb
  clear hfb
  rw [← HT0.out]
  clear HT0
  generalize T0 = w0 at *
  refine HC.out.mono ?_
  rintro e w1 ⟨rfl, hA, hK⟩
  have hz := HZ.out
  have hz1 := hK.size
  have b1 := hK.block fb (by omega) (by omega)
  have b2 := hK.block (fb + 1) (by omega) (by omega)
  have b3 := hK.block (fb + 2) (by omega) (by omega)
  have hKa : Keep (fun _ => True) w1 (w1.alloc (.cells #[.int .i64 0, .string { data := #[] }, .int .i64 0, .int .i64 0, .int .i64 0, .int .i64 0, .string { data := #[] }, .string { data := #[] }, .string { data := #[] }, .int .i64 0, .int .i64 0, .int .i64 0, .int .i64 0, .int .i64 0, .int .i64 0, .int .i64 0, .int .i64 0, .int .i64 0] 25)) := (Keep.refl _ w1).alloc _
  have hqsz : (w1.alloc (.cells #[.int .i64 0, .string { data := #[] }, .int .i64 0, .int .i64 0, .int .i64 0, .int .i64 0, .string { data := #[] }, .string { data := #[] }, .string { data := #[] }, .int .i64 0, .int .i64 0, .int .i64 0, .int .i64 0, .int .i64 0, .int .i64 0, .int .i64 0, .int .i64 0, .int .i64 0] 25)).heap.size = w1.heap.size + 1 := by simp
  have hthq : (w1.alloc (.cells #[.int .i64 0, .string { data := #[] }, .int .i64 0, .int .i64 0, .int .i64 0, .int .i64 0, .string { data := #[] }, .string { data := #[] }, .string { data := #[] }, .int .i64 0, .int .i64 0, .int .i64 0, .int .i64 0, .int .i64 0, .int .i64 0, .int .i64 0, .int .i64 0, .int .i64 0] 25)).there w1.heap.size 0 18 := there_new2 w1 #[.int .i64 0, .string { data := #[] }, .int .i64 0, .int .i64 0, .int .i64 0, .int .i64 0, .string { data := #[] }, .string { data := #[] }, .string { data := #[] }, .int .i64 0, .int .i64 0, .int .i64 0, .int .i64 0, .int .i64 0, .int .i64 0, .int .i64 0, .int .i64 0, .int .i64 0] 25
  have hrq : (w1.alloc (.cells #[.int .i64 0, .string { data := #[] }, .int .i64 0, .int .i64 0, .int .i64 0, .int .i64 0, .string { data := #[] }, .string { data := #[] }, .string { data := #[] }, .int .i64 0, .int .i64 0, .int .i64 0, .int .i64 0, .int .i64 0, .int .i64 0, .int .i64 0, .int .i64 0, .int .i64 0] 25)).rangeAt w1.heap.size 0 [.int .i64 0, .string { data := #[] }, .int .i64 0, .int .i64 0, .int .i64 0, .int .i64 0, .string { data := #[] }, .string { data := #[] }, .string { data := #[] }, .int .i64 0, .int .i64 0, .int .i64 0, .int .i64 0, .int .i64 0, .int .i64 0, .int .i64 0, .int .i64 0, .int .i64 0] := rng_new w1 _ #[.int .i64 0, .string { data := #[] }, .int .i64 0, .int .i64 0, .int .i64 0, .int .i64 0, .string { data := #[] }, .string { data := #[] }, .string { data := #[] }, .int .i64 0, .int .i64 0, .int .i64 0, .int .i64 0, .int .i64 0, .int .i64 0, .int .i64 0, .int .i64 0, .int .i64 0] 25 rfl
  have hA1 : AtP b g 1 (w1.alloc (.cells #[.int .i64 0, .string { data := #[] }, .int .i64 0, .int .i64 0, .int .i64 0, .int .i64 0, .string { data := #[] }, .string { data := #[] }, .string { data := #[] }, .int .i64 0, .int .i64 0, .int .i64 0, .int .i64 0, .int .i64 0, .int .i64 0, .int .i64 0, .int .i64 0, .int .i64 0] 25)) s0 := ⟨hA.1.keep (P := fun _ => True) hKa trivial trivial, by rw [hqsz]; omega⟩
  have hF0 : Fs (fun x => x < fb ∧ x ≠ b) (AtP b g) w (w1.alloc (.cells #[.int .i64 0, .string { data := #[] }, .int .i64 0, .int .i64 0, .int .i64 0, .int .i64 0, .string { data := #[] }, .string { data := #[] }, .string { data := #[] }, .int .i64 0, .int .i64 0, .int .i64 0, .int .i64 0, .int .i64 0, .int .i64 0, .int .i64 0, .int .i64 0, .int .i64 0] 25)) 1 s0 fb (fb + 1) (fb + 2) w1.heap.size (.iface 74 (.pointer (some ⟨b, 0, none⟩))) (rqC r) [.int .i64 0, .string { data := #[] }, .int .i64 0, .int .i64 0, .int .i64 0, .int .i64 0, .string { data := #[] }, .string { data := #[] }, .string { data := #[] }, .int .i64 0, .int .i64 0, .int .i64 0, .int .i64 0, .int .i64 0, .int .i64 0, .int .i64 0, .int .i64 0, .int .i64 0] :=
    ⟨hA1, hrq, hthq, rangeAt_keep (rangeAt_keep HSrc.out b2) (hKa.block _ (by omega) trivial), (World.cell?_of_block (a := ⟨fb, 0, none⟩) ((hKa.block fb (by omega) trivial).trans b1)).trans HFc.out, there_blk (there_blk HT2.out b3) (hKa.block _ (by omega) trivial), ((HK0.out.less (fun _ _ _ => trivial)).trans (hK.less (fun x _ hx => hx.2))).trans (hKa.less (fun _ _ _ => trivial)), ⟨by omega, by omega, by omega, (fun k => by have := k.1; omega)⟩, ⟨by omega, by omega, by omega, by omega⟩, AtP.far (by omega) (by omega)⟩
  have HF0 := hide (hF0.puts 0 [.int .i64 16, .string { data := #[] }, .int .i64 0, .int .i64 0, .int .i64 0, .int .i64 0, .string { data := #[] }, .string { data := #[] }, .string { data := #[] }, .int .i64 0, .int .i64 0, .int .i64 0, .int .i64 0, .int .i64 0, .int .i64 0, .int .i64 0, .int .i64 0, .int .i64 0] (by simp))
  have hlz : ([.int .i64 16, .string { data := #[] }, .int .i64 0, .int .i64 0, .int .i64 0, .int .i64 0, .string { data := #[] }, .string { data := #[] }, .string { data := #[] }, .int .i64 0, .int .i64 0, .int .i64 0, .int .i64 0, .int .i64 0, .int .i64 0, .int .i64 0, .int .i64 0, .int .i64 0] : List Value).length = 18 := rfl
  have hone : ∀ v ∈ ([.int .i64 16, .string { data := #[] }, .int .i64 0, .int .i64 0, .int .i64 0, .int .i64 0, .string { data := #[] }, .string { data := #[] }, .string { data := #[] }, .int .i64 0, .int .i64 0, .int .i64 0, .int .i64 0, .int .i64 0, .int .i64 0, .int .i64 0, .int .i64 0, .int .i64 0] : List Value), v.oneCell' = true := by
    intro v hv
    simp only [List.mem_cons, List.not_mem_nil, or_false] at hv
    rcases hv with rfl | rfl | rfl | rfl | rfl | rfl | rfl | rfl | rfl | rfl | rfl | rfl | rfl | rfl | rfl | rfl | rfl | rfl <;> rfl
  have HThq := hide hthq
  have HOne := hide hone
  have HKw : Hid (Keep (fun x => x ≠ b) w w1) := (HK0.out.less (fun _ _ _ => trivial)).trans hK
  clear hthq hone hrq hA1 hF0 b1 b2 b3 hA hK hck hfc HC
  go_upto_region 2 with (first | ((with_reducible refine store_sz 25 18 sz25 _ _ w1.heap.size 0 [.int .i64 16, .string { data := #[] }, .int .i64 0, .int .i64 0, .int .i64 0, .int .i64 0, .string { data := #[] }, .string { data := #[] }, .string { data := #[] }, .int .i64 0, .int .i64 0, .int .i64 0, .int .i64 0, .int .i64 0, .int .i64 0, .int .i64 0, .int .i64 0, .int .i64 0] hlz HOne.out ?_ ?_ HThq.out ?_); rfl; rfl) | fail)
  generalize hq : w1.heap.size = q at *
  have HFa : Hid (Fs (fun x => x < fb ∧ x ≠ b) (AtP b g) w ((w1.alloc (.cells #[.int .i64 0, .string { data := #[] }, .int .i64 0, .int .i64 0, .int .i64 0, .int .i64 0, .string { data := #[] }, .string { data := #[] }, .string { data := #[] }, .int .i64 0, .int .i64 0, .int .i64 0, .int .i64 0, .int .i64 0, .int .i64 0, .int .i64 0, .int .i64 0, .int .i64 0] 25)).setCells q 0 [.int .i64 16, .string { data := #[] }, .int .i64 0, .int .i64 0, .int .i64 0, .int .i64 0, .string { data := #[] }, .string { data := #[] }, .string { data := #[] }, .int .i64 0, .int .i64 0, .int .i64 0, .int .i64 0, .int .i64 0, .int .i64 0, .int .i64 0, .int .i64 0, .int .i64 0]) 1 s0 fb (fb + 1) (fb + 2) q (.iface 74 (.pointer (some ⟨b, 0, none⟩))) (rqC r) [.int .i64 16, .string { data := #[] }, .int .i64 0, .int .i64 0, .int .i64 0, .int .i64 0, .string { data := #[] }, .string { data := #[] }, .string { data := #[] }, .int .i64 0, .int .i64 0, .int .i64 0, .int .i64 0, .int .i64 0, .int .i64 0, .int .i64 0, .int .i64 0, .int .i64 0]) := HF0.out
  have HQ : Hid (q < ((w1.alloc (.cells #[.int .i64 0, .string { data := #[] }, .int .i64 0, .int .i64 0, .int .i64 0, .int .i64 0, .string { data := #[] }, .string { data := #[] }, .string { data := #[] }, .int .i64 0, .int .i64 0, .int .i64 0, .int .i64 0, .int .i64 0, .int .i64 0, .int .i64 0, .int .i64 0, .int .i64 0] 25)).setCells q 0 [.int .i64 16, .string { data := #[] }, .int .i64 0, .int .i64 0, .int .i64 0, .int .i64 0, .string { data := #[] }, .string { data := #[] }, .string { data := #[] }, .int .i64 0, .int .i64 0, .int .i64 0, .int .i64 0, .int .i64 0, .int .i64 0, .int .i64 0, .int .i64 0, .int .i64 0]).heap.size) := HF0.out.lt.2.2.2
  clear HF0 hKa hqsz HThq HOne hlz
  generalize (w1.alloc (.cells #[.int .i64 0, .string { data := #[] }, .int .i64 0, .int .i64 0, .int .i64 0, .int .i64 0, .string { data := #[] }, .string { data := #[] }, .string { data := #[] }, .int .i64 0, .int .i64 0, .int .i64 0, .int .i64 0, .int .i64 0, .int .i64 0, .int .i64 0, .int .i64 0, .int .i64 0] 25)).setCells q 0 [.int .i64 16, .string { data := #[] }, .int .i64 0, .int .i64 0, .int .i64 0, .int .i64 0, .string { data := #[] }, .string { data := #[] }, .string { data := #[] }, .int .i64 0, .int .i64 0, .int .i64 0, .int .i64 0, .int .i64 0, .int .i64 0, .int .i64 0, .int .i64 0, .int .i64 0] = v0 at *
  have ck := HFa.out.cell (j := 0) rfl
  have hfc := HFa.out.fc
  have hsc := HFa.out.scell (j := 1) (v := .string r.key) rfl
  go_wp2_with (first | (go_at_call 40; refine (fof16 _).mono ?_; rintro e w' ⟨rfl, rfl⟩) | fail)
  refine (ptextc r.key hr1 (by omega) HFa.out.st).mono ?_
  rintro e u1 ⟨rfl, hA, hK⟩
  rw [H1.out] at hA ⊢
  have hF := HFa.out.call hK (fun x hx => by rcases hx with h | h | h | h | h; exact h.2; omega; omega; omega; omega) hA
  have hc1 := hF.cell (j := 1) rfl
  have hf1 := hF.fz (j := 1) (by simp)
  have HF1 : Hid (Fs (fun x => x < fb ∧ x ≠ b) (AtP b g) w (u1.setCell ⟨q, 1, none⟩ (.string y1)) 2 s1 fb (fb + 1) (fb + 2) q (.iface 74 (.pointer (some ⟨b, 0, none⟩))) (rqC r) [.int .i64 16, .string y1, .int .i64 0, .int .i64 0, .int .i64 0, .int .i64 0, .string { data := #[] }, .string { data := #[] }, .string { data := #[] }, .int .i64 0, .int .i64 0, .int .i64 0, .int .i64 0, .int .i64 0, .int .i64 0, .int .i64 0, .int .i64 0, .int .i64 0]) := hF.put1 1 (.string y1) (by simp)
  clear hF hA hK hfc hsc
  have hfc := HF1.out.fc
  have hsc : True := trivial
  have HPl : Hid ((u1.setCell ⟨q, 1, none⟩ (.string y1)).rangeAt (fb + 1) 8 (planC r.pn r.p1 r.p2 r.p3 r.p4 r.p5 r.p6 r.p7 r.p8 r.p9)) := rangeAt_right (xs := [.int .i64 r.k, .string r.key, .int .i64 r.id, .int .i64 r.n, .int .i64 r.ttl, .int .i64 r.o, .string r.nm, .string r.sec]) HF1.out.src
  dsimp only
  go_wp2_with (first | ((with_reducible refine load_sz 23 10 sz23 _ (fb + 1) 8 (planC r.pn r.p1 r.p2 r.p3 r.p4 r.p5 r.p6 r.p7 r.p8 r.p9) rfl ?_ HPl.out ?_); rfl) | fail)
  generalize u1.setCell ⟨q, 1, none⟩ (.string y1) = v1 at *
  clear hc1 hf1
  refine (pplanc r.pn r.p1 r.p2 r.p3 r.p4 r.p5 r.p6 r.p7 r.p8 r.p9 hr4 (by omega) HF1.out.st).mono ?_
  rintro e u2 ⟨m, y1', y2', y3', y4', y5', y6', y7', y8', y9', hpl, rfl, hA, hK⟩
  rw [show [r.p1, r.p2, r.p3, r.p4, r.p5, r.p6, r.p7, r.p8, r.p9] = r.px from rfl, H2.out] at hpl hA
  obtain ⟨rfl, rfl⟩ : m2 = m ∧ ys2 = [y1', y2', y3', y4', y5', y6', y7', y8', y9'] := by
    injection hpl with a1 a2
    exact ⟨a1, a2⟩
  have hF := HF1.out.call hK (fun x hx => by rcases hx with h | h | h | h | h; exact h.2; omega; omega; omega; omega) hA
  have HTp : Hid (u2.there q 8 10) := fun j hj => by
    have := hF.th (8 + j) (by simp; omega)
    rw [Nat.zero_add] at this
    exact this
  have hlp : (planC m2 y1' y2' y3' y4' y5' y6' y7' y8' y9').length = 10 := rfl
  have HOp : Hid (∀ v ∈ planC m2 y1' y2' y3' y4' y5' y6' y7' y8' y9', v.oneCell' = true) := planC_one _ _ _ _ _ _ _ _ _ _
  have HF2 : Hid (Fs (fun x => x < fb ∧ x ≠ b) (AtP b g) w (u2.setCells q 8 (planC m2 y1' y2' y3' y4' y5' y6' y7' y8' y9')) 3 s2 fb (fb + 1) (fb + 2) q (.iface 74 (.pointer (some ⟨b, 0, none⟩))) (rqC r) [.int .i64 16, .string y1, .int .i64 0, .int .i64 0, .int .i64 0, .int .i64 0, .string { data := #[] }, .string { data := #[] }, .string m2, .int .i64 y1', .int .i64 y2', .int .i64 y3', .int .i64 y4', .int .i64 y5', .int .i64 y6', .int .i64 y7', .int .i64 y8', .int .i64 y9']) := hF.puts 8 (planC m2 y1' y2' y3' y4' y5' y6' y7' y8' y9') (by simp [planC])
  clear hF hA hK hpl
  generalize hcs : planC m2 y1' y2' y3' y4' y5' y6' y7' y8' y9' = pcs at HTp hlp HOp HF2 ⊢
  clear hcs
  go_upto_region 24 with (first | ((with_reducible refine store_sz 23 10 sz23 _ _ q 8 pcs hlp HOp.out ?_ ?_ HTp.out ?_); rfl; rfl) | fail)
  generalize u2.setCells q 8 pcs = v2 at *
  have HR : Hid (v2.rangeAt q 0 [.int .i64 16, .string y1, .int .i64 0, .int .i64 0, .int .i64 0, .int .i64 0, .string { data := #[] }, .string { data := #[] }, .string m2, .int .i64 y1', .int .i64 y2', .int .i64 y3', .int .i64 y4', .int .i64 y5', .int .i64 y6', .int .i64 y7', .int .i64 y8', .int .i64 y9']) := HF2.out.fl
  have HTq : Hid (v2.there (fb + 2) 0 18) := HF2.out.t2
  have hl18 : ([.int .i64 16, .string y1, .int .i64 0, .int .i64 0, .int .i64 0, .int .i64 0, .string { data := #[] }, .string { data := #[] }, .string m2, .int .i64 y1', .int .i64 y2', .int .i64 y3', .int .i64 y4', .int .i64 y5', .int .i64 y6', .int .i64 y7', .int .i64 y8', .int .i64 y9'] : List Value).length = 18 := rfl
  have HOn : Hid (∀ v ∈ ([.int .i64 16, .string y1, .int .i64 0, .int .i64 0, .int .i64 0, .int .i64 0, .string { data := #[] }, .string { data := #[] }, .string m2, .int .i64 y1', .int .i64 y2', .int .i64 y3', .int .i64 y4', .int .i64 y5', .int .i64 y6', .int .i64 y7', .int .i64 y8', .int .i64 y9'] : List Value), v.oneCell' = true) := by
    intro v hv
    simp only [List.mem_cons, List.not_mem_nil, or_false] at hv
    rcases hv with rfl | rfl | rfl | rfl | rfl | rfl | rfl | rfl | rfl | rfl | rfl | rfl | rfl | rfl | rfl | rfl | rfl | rfl <;> rfl
  have HR6 := hide (World.rangeAt_setCells_same v2 (fb + 2) 0 [.int .i64 16, .string y1, .int .i64 0, .int .i64 0, .int .i64 0, .int .i64 0, .string { data := #[] }, .string { data := #[] }, .string m2, .int .i64 y1', .int .i64 y2', .int .i64 y3', .int .i64 y4', .int .i64 y5', .int .i64 y6', .int .i64 y7', .int .i64 y8', .int .i64 y9'] HTq.out)
  have HFin : Hid (AtP b g 99 (v2.setCells (fb + 2) 0 [.int .i64 16, .string y1, .int .i64 0, .int .i64 0, .int .i64 0, .int .i64 0, .string { data := #[] }, .string { data := #[] }, .string m2, .int .i64 y1', .int .i64 y2', .int .i64 y3', .int .i64 y4', .int .i64 y5', .int .i64 y6', .int .i64 y7', .int .i64 y8', .int .i64 y9']) s2 ∧ Keep (fun x => x ≠ b) w (v2.setCells (fb + 2) 0 [.int .i64 16, .string y1, .int .i64 0, .int .i64 0, .int .i64 0, .int .i64 0, .string { data := #[] }, .string { data := #[] }, .string m2, .int .i64 y1', .int .i64 y2', .int .i64 y3', .int .i64 y4', .int .i64 y5', .int .i64 y6', .int .i64 y7', .int .i64 y8', .int .i64 y9'])) := by
    have h1 := HF2.out.st
    exact ⟨AtP.far (by omega) (by omega) _ _ _ _ _ h1, (HF2.out.kp.less (fun x hx k => ⟨by have := HFb.out; omega, k⟩)).setCells (.inr (by have := HFb.out; omega)) 0 _⟩
  clear HF2
  generalize hcs : ([.int .i64 16, .string y1, .int .i64 0, .int .i64 0, .int .i64 0, .int .i64 0, .string { data := #[] }, .string { data := #[] }, .string m2, .int .i64 y1', .int .i64 y2', .int .i64 y3', .int .i64 y4', .int .i64 y5', .int .i64 y6', .int .i64 y7', .int .i64 y8', .int .i64 y9'] : List Value) = cs at *
  go_wp2_with (first | ((with_reducible refine load_sz 25 18 sz25 _ q 0 cs hl18 ?_ HR.out ?_); rfl) | ((with_reducible refine store_sz 25 18 sz25 _ _ (fb + 2) 0 cs hl18 HOn.out ?_ ?_ HTq.out ?_); rfl; rfl) | fail)
  refine bodyPost_ret (v := .agg cs.toArray) (results_sz sz25 Try.results24 hl18 rfl HR6.out) rfl ⟨?_, HFin.out⟩
  rw [← hcs]
  rfl

set_option maxRecDepth 100000 in
set_option maxHeartbeats 6400000 in
theorem reqp19 {b g : Nat} {w : World} {s : Sx} (r : Rq) (hr : r.Ok) (hk : (prC.kind s r.k).2 = 19) (h : AtP b g 0 w s) :
    Calls Try.prog 24 #[.agg #[.iface 74 (.pointer (some ⟨b, 0, none⟩))], .agg #[.int .i64 r.k, .string r.key, .int .i64 r.id, .int .i64 r.n, .int .i64 r.ttl, .int .i64 r.o, .string r.nm, .string r.sec, .string r.pn, .int .i64 r.p1, .int .i64 r.p2, .int .i64 r.p3, .int .i64 r.p4, .int .i64 r.p5, .int .i64 r.p6, .int .i64 r.p7, .int .i64 r.p8, .int .i64 r.p9]] w fun e w' => e = .returned (.agg (rqC (reqS prC s r).2).toArray) ∧ AtP b g 99 w' (reqS prC s r).1 ∧ Keep (fun x => x ≠ b) w w' := by
  obtain ⟨hr1, hr2, hr3, hr4⟩ := hr
  obtain ⟨⟨s0, k0⟩, h0⟩ : ∃ T, prC.kind s r.k = T := ⟨_, rfl⟩
  rw [h0] at hk
  obtain rfl : k0 = 19 := hk
  obtain ⟨⟨s1, y1⟩, h1⟩ : ∃ T, prC.text s0 r.key = T := ⟨_, rfl⟩
  obtain ⟨⟨s2, y2⟩, h2⟩ : ∃ T, prC.num s1 r.n = T := ⟨_, rfl⟩
  have hS : reqS prC s r = (s2, { Rq.zero with k := 19, key := y1, n := y2 }) := by
    unfold reqS reqK
    rw [h0]
    simp only [h1, h2]
    rfl
  have H0 := hide h0
  have H1 := hide h1
  have H2 := hide h2
  have HS := hide hS
  rw [HS.out]
  clear hS h0 h1 h2
  obtain ⟨T0, hT0, hK0, hsz, hfc, hsrc, ht2⟩ := box3 w (.iface 74 (.pointer (some ⟨b, 0, none⟩))) r
  have HT0 := hide hT0
  clear hT0
  have hbl : b < w.heap.size := lt_of_cell h.1.c0
  have hgl : g < w.heap.size := h.2
  have hgb : g ≠ b := h.1.gb
  have hA0 : AtP b g 0 T0 s := ⟨h.1.keep (P := fun _ => True) hK0 trivial trivial, by rw [hsz]; omega⟩
  have HC := hide (pkind r.k (by omega) hA0)
  rw [H0.out] at HC
  have HK0 := hide hK0
  have HZ := hide hsz
  have HFc := hide hfc
  have HSrc := hide hsrc
  have HT2 := hide ht2
  have hck : T0.cell? ⟨w.heap.size + 1, 0, none⟩ = some (.int .i64 r.k) := hsrc 0 (.int .i64 r.k) rfl
  clear hK0 hsz hsrc ht2 hA0 h
  generalize hfb : w.heap.size = fb at *
  go_enter Try.func24, Try.ntmps24
  go_wp2_with fail
  have HFb := hide hfb
  clear hfb
  rw [← HT0.out]
  clear HT0
  generalize T0 = w0 at *
  refine HC.out.mono ?_
  rintro e w1 ⟨rfl, hA, hK⟩
  have hz := HZ.out
  have hz1 := hK.size
  have b1 := hK.block fb (by omega) (by omega)
  have b2 := hK.block (fb + 1) (by omega) (by omega)
  have b3 := hK.block (fb + 2) (by omega) (by omega)
  have hKa : Keep (fun _ => True) w1 (w1.alloc (.cells #[.int .i64 0, .string { data := #[] }, .int .i64 0, .int .i64 0, .int .i64 0, .int .i64 0, .string { data := #[] }, .string { data := #[] }, .string { data := #[] }, .int .i64 0, .int .i64 0, .int .i64 0, .int .i64 0, .int .i64 0, .int .i64 0, .int .i64 0, .int .i64 0, .int .i64 0] 25)) := (Keep.refl _ w1).alloc _
  have hqsz : (w1.alloc (.cells #[.int .i64 0, .string { data := #[] }, .int .i64 0, .int .i64 0, .int .i64 0, .int .i64 0, .string { data := #[] }, .string { data := #[] }, .string { data := #[] }, .int .i64 0, .int .i64 0, .int .i64 0, .int .i64 0, .int .i64 0, .int .i64 0, .int .i64 0, .int .i64 0, .int .i64 0] 25)).heap.size = w1.heap.size + 1 := by simp
  have hthq : (w1.alloc (.cells #[.int .i64 0, .string { data := #[] }, .int .i64 0, .int .i64 0, .int .i64 0, .int .i64 0, .string { data := #[] }, .string { data := #[] }, .string { data := #[] }, .int .i64 0, .int .i64 0, .int .i64 0, .int .i64 0, .int .i64 0, .int .i64 0, .int .i64 0, .int .i64 0, .int .i64 0] 25)).there w1.heap.size 0 18 := there_new2 w1 #[.int .i64 0, .string { data := #[] }, .int .i64 0, .int .i64 0, .int .i64 0, .int .i64 0, .string { data := #[] }, .string { data := #[] }, .string { data := #[] }, .int .i64 0, .int .i64 0, .int .i64 0, .int .i64 0, .int .i64 0, .int .i64 0, .int .i64 0, .int .i64 0, .int .i64 0] 25
  have hrq : (w1.alloc (.cells #[.int .i64 0, .string { data := #[] }, .int .i64 0, .int .i64 0, .int .i64 0, .int .i64 0, .string { data := #[] }, .string { data := #[] }, .string { data := #[] }, .int .i64 0, .int .i64 0, .int .i64 0, .int .i64 0, .int .i64 0, .int .i64 0, .int .i64 0, .int .i64 0, .int .i64 0] 25)).rangeAt w1.heap.size 0 [.int .i64 0, .string { data := #[] }, .int .i64 0, .int .i64 0, .int .i64 0, .int .i64 0, .string { data := #[] }, .string { data := #[] }, .string { data := #[] }, .int .i64 0, .int .i64 0, .int .i64 0, .int .i64 0, .int .i64 0, .int .i64 0, .int .i64 0, .int .i64 0, .int .i64 0] := rng_new w1 _ #[.int .i64 0, .string { data := #[] }, .int .i64 0, .int .i64 0, .int .i64 0, .int .i64 0, .string { data := #[] }, .string { data := #[] }, .string { data := #[] }, .int .i64 0, .int .i64 0, .int .i64 0, .int .i64 0, .int .i64 0, .int .i64 0, .int .i64 0, .int .i64 0, .int .i64 0] 25 rfl
  have hA1 : AtP b g 1 (w1.alloc (.cells #[.int .i64 0, .string { data := #[] }, .int .i64 0, .int .i64 0, .int .i64 0, .int .i64 0, .string { data := #[] }, .string { data := #[] }, .string { data := #[] }, .int .i64 0, .int .i64 0, .int .i64 0, .int .i64 0, .int .i64 0, .int .i64 0, .int .i64 0, .int .i64 0, .int .i64 0] 25)) s0 := ⟨hA.1.keep (P := fun _ => True) hKa trivial trivial, by rw [hqsz]; omega⟩
  have hF0 : Fs (fun x => x < fb ∧ x ≠ b) (AtP b g) w (w1.alloc (.cells #[.int .i64 0, .string { data := #[] }, .int .i64 0, .int .i64 0, .int .i64 0, .int .i64 0, .string { data := #[] }, .string { data := #[] }, .string { data := #[] }, .int .i64 0, .int .i64 0, .int .i64 0, .int .i64 0, .int .i64 0, .int .i64 0, .int .i64 0, .int .i64 0, .int .i64 0] 25)) 1 s0 fb (fb + 1) (fb + 2) w1.heap.size (.iface 74 (.pointer (some ⟨b, 0, none⟩))) (rqC r) [.int .i64 0, .string { data := #[] }, .int .i64 0, .int .i64 0, .int .i64 0, .int .i64 0, .string { data := #[] }, .string { data := #[] }, .string { data := #[] }, .int .i64 0, .int .i64 0, .int .i64 0, .int .i64 0, .int .i64 0, .int .i64 0, .int .i64 0, .int .i64 0, .int .i64 0] :=
    ⟨hA1, hrq, hthq, rangeAt_keep (rangeAt_keep HSrc.out b2) (hKa.block _ (by omega) trivial), (World.cell?_of_block (a := ⟨fb, 0, none⟩) ((hKa.block fb (by omega) trivial).trans b1)).trans HFc.out, there_blk (there_blk HT2.out b3) (hKa.block _ (by omega) trivial), ((HK0.out.less (fun _ _ _ => trivial)).trans (hK.less (fun x _ hx => hx.2))).trans (hKa.less (fun _ _ _ => trivial)), ⟨by omega, by omega, by omega, (fun k => by have := k.1; omega)⟩, ⟨by omega, by omega, by omega, by omega⟩, AtP.far (by omega) (by omega)⟩
  have HF0 := hide (hF0.puts 0 [.int .i64 19, .string { data := #[] }, .int .i64 0, .int .i64 0, .int .i64 0, .int .i64 0, .string { data := #[] }, .string { data := #[] }, .string { data := #[] }, .int .i64 0, .int .i64 0, .int .i64 0, .int .i64 0, .int .i64 0, .int .i64 0, .int .i64 0, .int .i64 0, .int .i64 0] (by simp))
  have hlz : ([.int .i64 19, .string { data := #[] }, .int .i64 0, .int .i64 0, .int .i64 0, .int .i64 0, .string { data := #[] }, .string { data := #[] }, .string { data := #[] }, .int .i64 0, .int .i64 0, .int .i64 0, .int .i64 0, .int .i64 0, .int .i64 0, .int .i64 0, .int .i64 0, .int .i64 0] : List Value).length = 18 := rfl
  have hone : ∀ v ∈ ([.int .i64 19, .string { data := #[] }, .int .i64 0, .int .i64 0, .int .i64 0, .int .i64 0, .string { data := #[] }, .string { data := #[] }, .string { data := #[] }, .int .i64 0, .int .i64 0, .int .i64 0, .int .i64 0, .int .i64 0, .int .i64 0, .int .i64 0, .int .i64 0, .int .i64 0] : List Value), v.oneCell' = true := by
    intro v hv
    simp only [List.mem_cons, List.not_mem_nil, or_false] at hv
    rcases hv with rfl | rfl | rfl | rfl | rfl | rfl | rfl | rfl | rfl | rfl | rfl | rfl | rfl | rfl | rfl | rfl | rfl | rfl <;> rfl
  have HThq := hide hthq
  have HOne := hide hone
  have HKw : Hid (Keep (fun x => x ≠ b) w w1) := (HK0.out.less (fun _ _ _ => trivial)).trans hK
  clear hthq hone hrq hA1 hF0 b1 b2 b3 hA hK hck hfc HC
  go_upto_region 2 with (first | ((with_reducible refine store_sz 25 18 sz25 _ _ w1.heap.size 0 [.int .i64 19, .string { data := #[] }, .int .i64 0, .int .i64 0, .int .i64 0, .int .i64 0, .string { data := #[] }, .string { data := #[] }, .string { data := #[] }, .int .i64 0, .int .i64 0, .int .i64 0, .int .i64 0, .int .i64 0, .int .i64 0, .int .i64 0, .int .i64 0, .int .i64 0] hlz HOne.out ?_ ?_ HThq.out ?_); rfl; rfl) | fail)
  generalize hq : w1.heap.size = q at *
  have HFa : Hid (Fs (fun x => x < fb ∧ x ≠ b) (AtP b g) w ((w1.alloc (.cells #[.int .i64 0, .string { data := #[] }, .int .i64 0, .int .i64 0, .int .i64 0, .int .i64 0, .string { data := #[] }, .string { data := #[] }, .string { data := #[] }, .int .i64 0, .int .i64 0, .int .i64 0, .int .i64 0, .int .i64 0, .int .i64 0, .int .i64 0, .int .i64 0, .int .i64 0] 25)).setCells q 0 [.int .i64 19, .string { data := #[] }, .int .i64 0, .int .i64 0, .int .i64 0, .int .i64 0, .string { data := #[] }, .string { data := #[] }, .string { data := #[] }, .int .i64 0, .int .i64 0, .int .i64 0, .int .i64 0, .int .i64 0, .int .i64 0, .int .i64 0, .int .i64 0, .int .i64 0]) 1 s0 fb (fb + 1) (fb + 2) q (.iface 74 (.pointer (some ⟨b, 0, none⟩))) (rqC r) [.int .i64 19, .string { data := #[] }, .int .i64 0, .int .i64 0, .int .i64 0, .int .i64 0, .string { data := #[] }, .string { data := #[] }, .string { data := #[] }, .int .i64 0, .int .i64 0, .int .i64 0, .int .i64 0, .int .i64 0, .int .i64 0, .int .i64 0, .int .i64 0, .int .i64 0]) := HF0.out
  have HQ : Hid (q < ((w1.alloc (.cells #[.int .i64 0, .string { data := #[] }, .int .i64 0, .int .i64 0, .int .i64 0, .int .i64 0, .string { data := #[] }, .string { data := #[] }, .string { data := #[] }, .int .i64 0, .int .i64 0, .int .i64 0, .int .i64 0, .int .i64 0, .int .i64 0, .int .i64 0, .int .i64 0, .int .i64 0] 25)).setCells q 0 [.int .i64 19, .string { data := #[] }, .int .i64 0, .int .i64 0, .int .i64 0, .int .i64 0, .string { data := #[] }, .string { data := #[] }, .string { data := #[] }, .int .i64 0, .int .i64 0, .int .i64 0, .int .i64 0, .int .i64 0, .int .i64 0, .int .i64 0, .int .i64 0, .int .i64 0]).heap.size) := HF0.out.lt.2.2.2
  clear HF0 hKa hqsz HThq HOne hlz
  generalize (w1.alloc (.cells #[.int .i64 0, .string { data := #[] }, .int .i64 0, .int .i64 0, .int .i64 0, .int .i64 0, .string { data := #[] }, .string { data := #[] }, .string { data := #[] }, .int .i64 0, .int .i64 0, .int .i64 0, .int .i64 0, .int .i64 0, .int .i64 0, .int .i64 0, .int .i64 0, .int .i64 0] 25)).setCells q 0 [.int .i64 19, .string { data := #[] }, .int .i64 0, .int .i64 0, .int .i64 0, .int .i64 0, .string { data := #[] }, .string { data := #[] }, .string { data := #[] }, .int .i64 0, .int .i64 0, .int .i64 0, .int .i64 0, .int .i64 0, .int .i64 0, .int .i64 0, .int .i64 0, .int .i64 0] = v0 at *
  have ck := HFa.out.cell (j := 0) rfl
  have hfc := HFa.out.fc
  have hsc := HFa.out.scell (j := 1) (v := .string r.key) rfl
  go_wp2_with (first | (go_at_call 40; refine (fof19 _).mono ?_; rintro e w' ⟨rfl, rfl⟩) | fail)
  refine (ptextc r.key hr1 (by omega) HFa.out.st).mono ?_
  rintro e u1 ⟨rfl, hA, hK⟩
  rw [H1.out] at hA ⊢
  have hF := HFa.out.call hK (fun x hx => by rcases hx with h | h | h | h | h; exact h.2; omega; omega; omega; omega) hA
  have hc1 := hF.cell (j := 1) rfl
  have hf1 := hF.fz (j := 1) (by simp)
  have HF1 : Hid (Fs (fun x => x < fb ∧ x ≠ b) (AtP b g) w (u1.setCell ⟨q, 1, none⟩ (.string y1)) 2 s1 fb (fb + 1) (fb + 2) q (.iface 74 (.pointer (some ⟨b, 0, none⟩))) (rqC r) [.int .i64 19, .string y1, .int .i64 0, .int .i64 0, .int .i64 0, .int .i64 0, .string { data := #[] }, .string { data := #[] }, .string { data := #[] }, .int .i64 0, .int .i64 0, .int .i64 0, .int .i64 0, .int .i64 0, .int .i64 0, .int .i64 0, .int .i64 0, .int .i64 0]) := hF.put1 1 (.string y1) (by simp)
  clear hF hA hK hfc hsc
  have hfc := HF1.out.fc
  have hsc := HF1.out.scell (j := 3) (v := .int .i64 r.n) rfl
  dsimp only
  go_wp2_with fail
  generalize u1.setCell ⟨q, 1, none⟩ (.string y1) = v1 at *
  clear hc1 hf1
  refine (pnumc r.n (by omega) HF1.out.st).mono ?_
  rintro e u2 ⟨rfl, hA, hK⟩
  rw [H2.out] at hA ⊢
  have hF := HF1.out.call hK (fun x hx => by rcases hx with h | h | h | h | h; exact h.2; omega; omega; omega; omega) hA
  have hc2 := hF.cell (j := 3) rfl
  have hf2 := hF.fz (j := 3) (by simp)
  have HF2 : Hid (Fs (fun x => x < fb ∧ x ≠ b) (AtP b g) w (u2.setCell ⟨q, 3, none⟩ (.int .i64 y2)) 3 s2 fb (fb + 1) (fb + 2) q (.iface 74 (.pointer (some ⟨b, 0, none⟩))) (rqC r) [.int .i64 19, .string y1, .int .i64 0, .int .i64 y2, .int .i64 0, .int .i64 0, .string { data := #[] }, .string { data := #[] }, .string { data := #[] }, .int .i64 0, .int .i64 0, .int .i64 0, .int .i64 0, .int .i64 0, .int .i64 0, .int .i64 0, .int .i64 0, .int .i64 0]) := hF.put1 3 (.int .i64 y2) (by simp)
  clear hF hA hK hfc hsc
  have hfc := HF2.out.fc
  have hsc : True := trivial
  dsimp only
  go_upto_region 24 with fail
  generalize u2.setCell ⟨q, 3, none⟩ (.int .i64 y2) = v2 at *
  clear hc2 hf2
  have HR : Hid (v2.rangeAt q 0 [.int .i64 19, .string y1, .int .i64 0, .int .i64 y2, .int .i64 0, .int .i64 0, .string { data := #[] }, .string { data := #[] }, .string { data := #[] }, .int .i64 0, .int .i64 0, .int .i64 0, .int .i64 0, .int .i64 0, .int .i64 0, .int .i64 0, .int .i64 0, .int .i64 0]) := HF2.out.fl
  have HTq : Hid (v2.there (fb + 2) 0 18) := HF2.out.t2
  have hl18 : ([.int .i64 19, .string y1, .int .i64 0, .int .i64 y2, .int .i64 0, .int .i64 0, .string { data := #[] }, .string { data := #[] }, .string { data := #[] }, .int .i64 0, .int .i64 0, .int .i64 0, .int .i64 0, .int .i64 0, .int .i64 0, .int .i64 0, .int .i64 0, .int .i64 0] : List Value).length = 18 := rfl
  have HOn : Hid (∀ v ∈ ([.int .i64 19, .string y1, .int .i64 0, .int .i64 y2, .int .i64 0, .int .i64 0, .string { data := #[] }, .string { data := #[] }, .string { data := #[] }, .int .i64 0, .int .i64 0, .int .i64 0, .int .i64 0, .int .i64 0, .int .i64 0, .int .i64 0, .int .i64 0, .int .i64 0] : List Value), v.oneCell' = true) := by
    intro v hv
    simp only [List.mem_cons, List.not_mem_nil, or_false] at hv
    rcases hv with rfl | rfl | rfl | rfl | rfl | rfl | rfl | rfl | rfl | rfl | rfl | rfl | rfl | rfl | rfl | rfl | rfl | rfl <;> rfl
  have HR6 := hide (World.rangeAt_setCells_same v2 (fb + 2) 0 [.int .i64 19, .string y1, .int .i64 0, .int .i64 y2, .int .i64 0, .int .i64 0, .string { data := #[] }, .string { data := #[] }, .string { data := #[] }, .int .i64 0, .int .i64 0, .int .i64 0, .int .i64 0, .int .i64 0, .int .i64 0, .int .i64 0, .int .i64 0, .int .i64 0] HTq.out)
  have HFin : Hid (AtP b g 99 (v2.setCells (fb + 2) 0 [.int .i64 19, .string y1, .int .i64 0, .int .i64 y2, .int .i64 0, .int .i64 0, .string { data := #[] }, .string { data := #[] }, .string { data := #[] }, .int .i64 0, .int .i64 0, .int .i64 0, .int .i64 0, .int .i64 0, .int .i64 0, .int .i64 0, .int .i64 0, .int .i64 0]) s2 ∧ Keep (fun x => x ≠ b) w (v2.setCells (fb + 2) 0 [.int .i64 19, .string y1, .int .i64 0, .int .i64 y2, .int .i64 0, .int .i64 0, .string { data := #[] }, .string { data := #[] }, .string { data := #[] }, .int .i64 0, .int .i64 0, .int .i64 0, .int .i64 0, .int .i64 0, .int .i64 0, .int .i64 0, .int .i64 0, .int .i64 0])) := by
    have h1 := HF2.out.st
    exact ⟨AtP.far (by omega) (by omega) _ _ _ _ _ h1, (HF2.out.kp.less (fun x hx k => ⟨by have := HFb.out; omega, k⟩)).setCells (.inr (by have := HFb.out; omega)) 0 _⟩
  clear HF2
  generalize hcs : ([.int .i64 19, .string y1, .int .i64 0, .int .i64 y2, .int .i64 0, .int .i64 0, .string { data := #[] }, .string { data := #[] }, .string { data := #[] }, .int .i64 0, .int .i64 0, .int .i64 0, .int .i64 0, .int .i64 0, .int .i64 0, .int .i64 0, .int .i64 0, .int .i64 0] : List Value) = cs at *
  go_wp2_with (first | ((with_reducible refine load_sz 25 18 sz25 _ q 0 cs hl18 ?_ HR.out ?_); rfl) | ((with_reducible refine store_sz 25 18 sz25 _ _ (fb + 2) 0 cs hl18 HOn.out ?_ ?_ HTq.out ?_); rfl; rfl) | fail)
  refine bodyPost_ret (v := .agg cs.toArray) (results_sz sz25 Try.results24 hl18 rfl HR6.out) rfl ⟨?_, HFin.out⟩
  rw [← hcs]
  rfl

set_option maxRecDepth 100000 in
set_option maxHeartbeats 6400000 in
theorem reqp20 {b g : Nat} {w : World} {s : Sx} (r : Rq) (hr : r.Ok) (hk : (prC.kind s r.k).2 = 20) (h : AtP b g 0 w s) :
    Calls Try.prog 24 #[.agg #[.iface 74 (.pointer (some ⟨b, 0, none⟩))], .agg #[.int .i64 r.k, .string r.key, .int .i64 r.id, .int .i64 r.n, .int .i64 r.ttl, .int .i64 r.o, .string r.nm, .string r.sec, .string r.pn, .int .i64 r.p1, .int .i64 r.p2, .int .i64 r.p3, .int .i64 r.p4, .int .i64 r.p5, .int .i64 r.p6, .int .i64 r.p7, .int .i64 r.p8, .int .i64 r.p9]] w fun e w' => e = .returned (.agg (rqC (reqS prC s r).2).toArray) ∧ AtP b g 99 w' (reqS prC s r).1 ∧ Keep (fun x => x ≠ b) w w' := by
  obtain ⟨hr1, hr2, hr3, hr4⟩ := hr
  obtain ⟨⟨s0, k0⟩, h0⟩ : ∃ T, prC.kind s r.k = T := ⟨_, rfl⟩
  rw [h0] at hk
  obtain rfl : k0 = 20 := hk
  obtain ⟨⟨s1, y1⟩, h1⟩ : ∃ T, prC.text s0 r.key = T := ⟨_, rfl⟩
  obtain ⟨⟨s2, y2⟩, h2⟩ : ∃ T, prC.text s1 r.nm = T := ⟨_, rfl⟩
  obtain ⟨⟨s3, y3⟩, h3⟩ : ∃ T, prC.num s2 r.n = T := ⟨_, rfl⟩
  have hS : reqS prC s r = (s3, { Rq.zero with k := 20, key := y1, nm := y2, n := y3 }) := by
    unfold reqS reqK
    rw [h0]
    simp only [h1, h2, h3]
    rfl
  have H0 := hide h0
  have H1 := hide h1
  have H2 := hide h2
  have H3 := hide h3
  have HS := hide hS
  rw [HS.out]
  clear hS h0 h1 h2 h3
  obtain ⟨T0, hT0, hK0, hsz, hfc, hsrc, ht2⟩ := box3 w (.iface 74 (.pointer (some ⟨b, 0, none⟩))) r
  have HT0 := hide hT0
  clear hT0
  have hbl : b < w.heap.size := lt_of_cell h.1.c0
  have hgl : g < w.heap.size := h.2
  have hgb : g ≠ b := h.1.gb
  have hA0 : AtP b g 0 T0 s := ⟨h.1.keep (P := fun _ => True) hK0 trivial trivial, by rw [hsz]; omega⟩
  have HC := hide (pkind r.k (by omega) hA0)
  rw [H0.out] at HC
  have HK0 := hide hK0
  have HZ := hide hsz
  have HFc := hide hfc
  have HSrc := hide hsrc
  have HT2 := hide ht2
  have hck : T0.cell? ⟨w.heap.size + 1, 0, none⟩ = some (.int .i64 r.k) := hsrc 0 (.int .i64 r.k) rfl
  clear hK0 hsz hsrc ht2 hA0 h
  generalize hfb : w.heap.size = fb at *
  go_enter Try.func24, Try.ntmps24
  go_wp2_with fail
  have HFb := hide hfb
  clear hfb
  rw [← HT0.out]
  clear HT0
  generalize T0 = w0 at *
  refine HC.out.mono ?_
  rintro e w1 ⟨rfl, hA, hK⟩
  have hz := HZ.out
  have hz1 := hK.size
  have b1 := hK.block fb (by omega) (by omega)
  have b2 := hK.block (fb + 1) (by omega) (by omega)
  have b3 := hK.block (fb + 2) (by omega) (by omega)
  have hKa : Keep (fun _ => True) w1 (w1.alloc (.cells #[.int .i64 0, .string { data := #[] }, .int .i64 0, .int .i64 0, .int .i64 0, .int .i64 0, .string { data := #[] }, .string { data := #[] }, .string { data := #[] }, .int .i64 0, .int .i64 0, .int .i64 0, .int .i64 0, .int .i64 0, .int .i64 0, .int .i64 0, .int .i64 0, .int .i64 0] 25)) := (Keep.refl _ w1).alloc _
  have hqsz : (w1.alloc (.cells #[.int .i64 0, .string { data := #[] }, .int .i64 0, .int .i64 0, .int .i64 0, .int .i64 0, .string { data := #[] }, .string { data := #[] }, .string { data := #[] }, .int .i64 0, .int .i64 0, .int .i64 0, .int .i64 0, .int .i64 0, .int .i64 0, .int .i64 0, .int .i64 0, .int .i64 0] 25)).heap.size = w1.heap.size + 1 := by simp
  have hthq : (w1.alloc (.cells #[.int .i64 0, .string { data := #[] }, .int .i64 0, .int .i64 0, .int .i64 0, .int .i64 0, .string { data := #[] }, .string { data := #[] }, .string { data := #[] }, .int .i64 0, .int .i64 0, .int .i64 0, .int .i64 0, .int .i64 0, .int .i64 0, .int .i64 0, .int .i64 0, .int .i64 0] 25)).there w1.heap.size 0 18 := there_new2 w1 #[.int .i64 0, .string { data := #[] }, .int .i64 0, .int .i64 0, .int .i64 0, .int .i64 0, .string { data := #[] }, .string { data := #[] }, .string { data := #[] }, .int .i64 0, .int .i64 0, .int .i64 0, .int .i64 0, .int .i64 0, .int .i64 0, .int .i64 0, .int .i64 0, .int .i64 0] 25
  have hrq : (w1.alloc (.cells #[.int .i64 0, .string { data := #[] }, .int .i64 0, .int .i64 0, .int .i64 0, .int .i64 0, .string { data := #[] }, .string { data := #[] }, .string { data := #[] }, .int .i64 0, .int .i64 0, .int .i64 0, .int .i64 0, .int .i64 0, .int .i64 0, .int .i64 0, .int .i64 0, .int .i64 0] 25)).rangeAt w1.heap.size 0 [.int .i64 0, .string { data := #[] }, .int .i64 0, .int .i64 0, .int .i64 0, .int .i64 0, .string { data := #[] }, .string { data := #[] }, .string { data := #[] }, .int .i64 0, .int .i64 0, .int .i64 0, .int .i64 0, .int .i64 0, .int .i64 0, .int .i64 0, .int .i64 0, .int .i64 0] := rng_new w1 _ #[.int .i64 0, .string { data := #[] }, .int .i64 0, .int .i64 0, .int .i64 0, .int .i64 0, .string { data := #[] }, .string { data := #[] }, .string { data := #[] }, .int .i64 0, .int .i64 0, .int .i64 0, .int .i64 0, .int .i64 0, .int .i64 0, .int .i64 0, .int .i64 0, .int .i64 0] 25 rfl
  have hA1 : AtP b g 1 (w1.alloc (.cells #[.int .i64 0, .string { data := #[] }, .int .i64 0, .int .i64 0, .int .i64 0, .int .i64 0, .string { data := #[] }, .string { data := #[] }, .string { data := #[] }, .int .i64 0, .int .i64 0, .int .i64 0, .int .i64 0, .int .i64 0, .int .i64 0, .int .i64 0, .int .i64 0, .int .i64 0] 25)) s0 := ⟨hA.1.keep (P := fun _ => True) hKa trivial trivial, by rw [hqsz]; omega⟩
  have hF0 : Fs (fun x => x < fb ∧ x ≠ b) (AtP b g) w (w1.alloc (.cells #[.int .i64 0, .string { data := #[] }, .int .i64 0, .int .i64 0, .int .i64 0, .int .i64 0, .string { data := #[] }, .string { data := #[] }, .string { data := #[] }, .int .i64 0, .int .i64 0, .int .i64 0, .int .i64 0, .int .i64 0, .int .i64 0, .int .i64 0, .int .i64 0, .int .i64 0] 25)) 1 s0 fb (fb + 1) (fb + 2) w1.heap.size (.iface 74 (.pointer (some ⟨b, 0, none⟩))) (rqC r) [.int .i64 0, .string { data := #[] }, .int .i64 0, .int .i64 0, .int .i64 0, .int .i64 0, .string { data := #[] }, .string { data := #[] }, .string { data := #[] }, .int .i64 0, .int .i64 0, .int .i64 0, .int .i64 0, .int .i64 0, .int .i64 0, .int .i64 0, .int .i64 0, .int .i64 0] :=
    ⟨hA1, hrq, hthq, rangeAt_keep (rangeAt_keep HSrc.out b2) (hKa.block _ (by omega) trivial), (World.cell?_of_block (a := ⟨fb, 0, none⟩) ((hKa.block fb (by omega) trivial).trans b1)).trans HFc.out, there_blk (there_blk HT2.out b3) (hKa.block _ (by omega) trivial), ((HK0.out.less (fun _ _ _ => trivial)).trans (hK.less (fun x _ hx => hx.2))).trans (hKa.less (fun _ _ _ => trivial)), ⟨by omega, by omega, by omega, (fun k => by have := k.1; omega)⟩, ⟨by omega, by omega, by omega, by omega⟩, AtP.far (by omega) (by omega)⟩
  have HF0 := hide (hF0.puts 0 [.int .i64 20, .string { data := #[] }, .int .i64 0, .int .i64 0, .int .i64 0, .int .i64 0, .string { data := #[] }, .string { data := #[] }, .string { data := #[] }, .int .i64 0, .int .i64 0, .int .i64 0, .int .i64 0, .int .i64 0, .int .i64 0, .int .i64 0, .int .i64 0, .int .i64 0] (by simp))
  have hlz : ([.int .i64 20, .string { data := #[] }, .int .i64 0, .int .i64 0, .int .i64 0, .int .i64 0, .string { data := #[] }, .string { data := #[] }, .string { data := #[] }, .int .i64 0, .int .i64 0, .int .i64 0, .int .i64 0, .int .i64 0, .int .i64 0, .int .i64 0, .int .i64 0, .int .i64 0] : List Value).length = 18 := rfl
  have hone : ∀ v ∈ ([.int .i64 20, .string { data := #[] }, .int .i64 0, .int .i64 0, .int .i64 0, .int .i64 0, .string { data := #[] }, .string { data := #[] }, .string { data := #[] }, .int .i64 0, .int .i64 0, .int .i64 0, .int .i64 0, .int .i64 0, .int .i64 0, .int .i64 0, .int .i64 0, .int .i64 0] : List Value), v.oneCell' = true := by
    intro v hv
    simp only [List.mem_cons, List.not_mem_nil, or_false] at hv
    rcases hv with rfl | rfl | rfl | rfl | rfl | rfl | rfl | rfl | rfl | rfl | rfl | rfl | rfl | rfl | rfl | rfl | rfl | rfl <;> rfl
  have HThq := hide hthq
  have HOne := hide hone
  have HKw : Hid (Keep (fun x => x ≠ b) w w1) := (HK0.out.less (fun _ _ _ => trivial)).trans hK
  clear hthq hone hrq hA1 hF0 b1 b2 b3 hA hK hck hfc HC
  go_upto_region 2 with (first | ((with_reducible refine store_sz 25 18 sz25 _ _ w1.heap.size 0 [.int .i64 20, .string { data := #[] }, .int .i64 0, .int .i64 0, .int .i64 0, .int .i64 0, .string { data := #[] }, .string { data := #[] }, .string { data := #[] }, .int .i64 0, .int .i64 0, .int .i64 0, .int .i64 0, .int .i64 0, .int .i64 0, .int .i64 0, .int .i64 0, .int .i64 0] hlz HOne.out ?_ ?_ HThq.out ?_); rfl; rfl) | fail)
  generalize hq : w1.heap.size = q at *
  have HFa : Hid (Fs (fun x => x < fb ∧ x ≠ b) (AtP b g) w ((w1.alloc (.cells #[.int .i64 0, .string { data := #[] }, .int .i64 0, .int .i64 0, .int .i64 0, .int .i64 0, .string { data := #[] }, .string { data := #[] }, .string { data := #[] }, .int .i64 0, .int .i64 0, .int .i64 0, .int .i64 0, .int .i64 0, .int .i64 0, .int .i64 0, .int .i64 0, .int .i64 0] 25)).setCells q 0 [.int .i64 20, .string { data := #[] }, .int .i64 0, .int .i64 0, .int .i64 0, .int .i64 0, .string { data := #[] }, .string { data := #[] }, .string { data := #[] }, .int .i64 0, .int .i64 0, .int .i64 0, .int .i64 0, .int .i64 0, .int .i64 0, .int .i64 0, .int .i64 0, .int .i64 0]) 1 s0 fb (fb + 1) (fb + 2) q (.iface 74 (.pointer (some ⟨b, 0, none⟩))) (rqC r) [.int .i64 20, .string { data := #[] }, .int .i64 0, .int .i64 0, .int .i64 0, .int .i64 0, .string { data := #[] }, .string { data := #[] }, .string { data := #[] }, .int .i64 0, .int .i64 0, .int .i64 0, .int .i64 0, .int .i64 0, .int .i64 0, .int .i64 0, .int .i64 0, .int .i64 0]) := HF0.out
  have HQ : Hid (q < ((w1.alloc (.cells #[.int .i64 0, .string { data := #[] }, .int .i64 0, .int .i64 0, .int .i64 0, .int .i64 0, .string { data := #[] }, .string { data := #[] }, .string { data := #[] }, .int .i64 0, .int .i64 0, .int .i64 0, .int .i64 0, .int .i64 0, .int .i64 0, .int .i64 0, .int .i64 0, .int .i64 0] 25)).setCells q 0 [.int .i64 20, .string { data := #[] }, .int .i64 0, .int .i64 0, .int .i64 0, .int .i64 0, .string { data := #[] }, .string { data := #[] }, .string { data := #[] }, .int .i64 0, .int .i64 0, .int .i64 0, .int .i64 0, .int .i64 0, .int .i64 0, .int .i64 0, .int .i64 0, .int .i64 0]).heap.size) := HF0.out.lt.2.2.2
  clear HF0 hKa hqsz HThq HOne hlz
  generalize (w1.alloc (.cells #[.int .i64 0, .string { data := #[] }, .int .i64 0, .int .i64 0, .int .i64 0, .int .i64 0, .string { data := #[] }, .string { data := #[] }, .string { data := #[] }, .int .i64 0, .int .i64 0, .int .i64 0, .int .i64 0, .int .i64 0, .int .i64 0, .int .i64 0, .int .i64 0, .int .i64 0] 25)).setCells q 0 [.int .i64 20, .string { data := #[] }, .int .i64 0, .int .i64 0, .int .i64 0, .int .i64 0, .string { data := #[] }, .string { data := #[] }, .string { data := #[] }, .int .i64 0, .int .i64 0, .int .i64 0, .int .i64 0, .int .i64 0, .int .i64 0, .int .i64 0, .int .i64 0, .int .i64 0] = v0 at *
  have ck := HFa.out.cell (j := 0) rfl
  have hfc := HFa.out.fc
  have hsc := HFa.out.scell (j := 1) (v := .string r.key) rfl
  go_wp2_with (first | (go_at_call 40; refine (fof20 _).mono ?_; rintro e w' ⟨rfl, rfl⟩) | fail)
  refine (ptextc r.key hr1 (by omega) HFa.out.st).mono ?_
  rintro e u1 ⟨rfl, hA, hK⟩
  rw [H1.out] at hA ⊢
  have hF := HFa.out.call hK (fun x hx => by rcases hx with h | h | h | h | h; exact h.2; omega; omega; omega; omega) hA
  have hc1 := hF.cell (j := 1) rfl
  have hf1 := hF.fz (j := 1) (by simp)
  have HF1 : Hid (Fs (fun x => x < fb ∧ x ≠ b) (AtP b g) w (u1.setCell ⟨q, 1, none⟩ (.string y1)) 2 s1 fb (fb + 1) (fb + 2) q (.iface 74 (.pointer (some ⟨b, 0, none⟩))) (rqC r) [.int .i64 20, .string y1, .int .i64 0, .int .i64 0, .int .i64 0, .int .i64 0, .string { data := #[] }, .string { data := #[] }, .string { data := #[] }, .int .i64 0, .int .i64 0, .int .i64 0, .int .i64 0, .int .i64 0, .int .i64 0, .int .i64 0, .int .i64 0, .int .i64 0]) := hF.put1 1 (.string y1) (by simp)
  clear hF hA hK hfc hsc
  have hfc := HF1.out.fc
  have hsc := HF1.out.scell (j := 6) (v := .string r.nm) rfl
  dsimp only
  go_wp2_with fail
  generalize u1.setCell ⟨q, 1, none⟩ (.string y1) = v1 at *
  clear hc1 hf1
  refine (ptextc r.nm hr2 (by omega) HF1.out.st).mono ?_
  rintro e u2 ⟨rfl, hA, hK⟩
  rw [H2.out] at hA ⊢
  have hF := HF1.out.call hK (fun x hx => by rcases hx with h | h | h | h | h; exact h.2; omega; omega; omega; omega) hA
  have hc2 := hF.cell (j := 6) rfl
  have hf2 := hF.fz (j := 6) (by simp)
  have HF2 : Hid (Fs (fun x => x < fb ∧ x ≠ b) (AtP b g) w (u2.setCell ⟨q, 6, none⟩ (.string y2)) 3 s2 fb (fb + 1) (fb + 2) q (.iface 74 (.pointer (some ⟨b, 0, none⟩))) (rqC r) [.int .i64 20, .string y1, .int .i64 0, .int .i64 0, .int .i64 0, .int .i64 0, .string y2, .string { data := #[] }, .string { data := #[] }, .int .i64 0, .int .i64 0, .int .i64 0, .int .i64 0, .int .i64 0, .int .i64 0, .int .i64 0, .int .i64 0, .int .i64 0]) := hF.put1 6 (.string y2) (by simp)
  clear hF hA hK hfc hsc
  have hfc := HF2.out.fc
  have hsc := HF2.out.scell (j := 3) (v := .int .i64 r.n) rfl
  dsimp only
  go_wp2_with fail
  generalize u2.setCell ⟨q, 6, none⟩ (.string y2) = v2 at *
  clear hc2 hf2
  refine (pnumc r.n (by omega) HF2.out.st).mono ?_
  rintro e u3 ⟨rfl, hA, hK⟩
  rw [H3.out] at hA ⊢
  have hF := HF2.out.call hK (fun x hx => by rcases hx with h | h | h | h | h; exact h.2; omega; omega; omega; omega) hA
  have hc3 := hF.cell (j := 3) rfl
  have hf3 := hF.fz (j := 3) (by simp)
  have HF3 : Hid (Fs (fun x => x < fb ∧ x ≠ b) (AtP b g) w (u3.setCell ⟨q, 3, none⟩ (.int .i64 y3)) 4 s3 fb (fb + 1) (fb + 2) q (.iface 74 (.pointer (some ⟨b, 0, none⟩))) (rqC r) [.int .i64 20, .string y1, .int .i64 0, .int .i64 y3, .int .i64 0, .int .i64 0, .string y2, .string { data := #[] }, .string { data := #[] }, .int .i64 0, .int .i64 0, .int .i64 0, .int .i64 0, .int .i64 0, .int .i64 0, .int .i64 0, .int .i64 0, .int .i64 0]) := hF.put1 3 (.int .i64 y3) (by simp)
  clear hF hA hK hfc hsc
  have hfc := HF3.out.fc
  have hsc : True := trivial
  dsimp only
  go_upto_region 24 with fail
  generalize u3.setCell ⟨q, 3, none⟩ (.int .i64 y3) = v3 at *
  clear hc3 hf3
  have HR : Hid (v3.rangeAt q 0 [.int .i64 20, .string y1, .int .i64 0, .int .i64 y3, .int .i64 0, .int .i64 0, .string y2, .string { data := #[] }, .string { data := #[] }, .int .i64 0, .int .i64 0, .int .i64 0, .int .i64 0, .int .i64 0, .int .i64 0, .int .i64 0, .int .i64 0, .int .i64 0]) := HF3.out.fl
  have HTq : Hid (v3.there (fb + 2) 0 18) := HF3.out.t2
  have hl18 : ([.int .i64 20, .string y1, .int .i64 0, .int .i64 y3, .int .i64 0, .int .i64 0, .string y2, .string { data := #[] }, .string { data := #[] }, .int .i64 0, .int .i64 0, .int .i64 0, .int .i64 0, .int .i64 0, .int .i64 0, .int .i64 0, .int .i64 0, .int .i64 0] : List Value).length = 18 := rfl
  have HOn : Hid (∀ v ∈ ([.int .i64 20, .string y1, .int .i64 0, .int .i64 y3, .int .i64 0, .int .i64 0, .string y2, .string { data := #[] }, .string { data := #[] }, .int .i64 0, .int .i64 0, .int .i64 0, .int .i64 0, .int .i64 0, .int .i64 0, .int .i64 0, .int .i64 0, .int .i64 0] : List Value), v.oneCell' = true) := by
    intro v hv
    simp only [List.mem_cons, List.not_mem_nil, or_false] at hv
    rcases hv with rfl | rfl | rfl | rfl | rfl | rfl | rfl | rfl | rfl | rfl | rfl | rfl | rfl | rfl | rfl | rfl | rfl | rfl <;> rfl
  have HR6 := hide (World.rangeAt_setCells_same v3 (fb + 2) 0 [.int .i64 20, .string y1, .int .i64 0, .int .i64 y3, .int .i64 0, .int .i64 0, .string y2, .string { data := #[] }, .string { data := #[] }, .int .i64 0, .int .i64 0, .int .i64 0, .int .i64 0, .int .i64 0, .int .i64 0, .int .i64 0, .int .i64 0, .int .i64 0] HTq.out)
  have HFin : Hid (AtP b g 99 (v3.setCells (fb + 2) 0 [.int .i64 20, .string y1, .int .i64 0, .int .i64 y3, .int .i64 0, .int .i64 0, .string y2, .string { data := #[] }, .string { data := #[] }, .int .i64 0, .int .i64 0, .int .i64 0, .int .i64 0, .int .i64 0, .int .i64 0, .int .i64 0, .int .i64 0, .int .i64 0]) s3 ∧ Keep (fun x => x ≠ b) w (v3.setCells (fb + 2) 0 [.int .i64 20, .string y1, .int .i64 0, .int .i64 y3, .int .i64 0, .int .i64 0, .string y2, .string { data := #[] }, .string { data := #[] }, .int .i64 0, .int .i64 0, .int .i64 0, .int .i64 0, .int .i64 0, .int .i64 0, .int .i64 0, .int .i64 0, .int .i64 0])) := by
    have h1 := HF3.out.st
    exact ⟨AtP.far (by omega) (by omega) _ _ _ _ _ h1, (HF3.out.kp.less (fun x hx k => ⟨by have := HFb.out; omega, k⟩)).setCells (.inr (by have := HFb.out; omega)) 0 _⟩
  clear HF3
  generalize hcs : ([.int .i64 20, .string y1, .int .i64 0, .int .i64 y3, .int .i64 0, .int .i64 0, .string y2, .string { data := #[] }, .string { data := #[] }, .int .i64 0, .int .i64 0, .int .i64 0, .int .i64 0, .int .i64 0, .int .i64 0, .int .i64 0, .int .i64 0, .int .i64 0] : List Value) = cs at *
  go_wp2_with (first | ((with_reducible refine load_sz 25 18 sz25 _ q 0 cs hl18 ?_ HR.out ?_); rfl) | ((with_reducible refine store_sz 25 18 sz25 _ _ (fb + 2) 0 cs hl18 HOn.out ?_ ?_ HTq.out ?_); rfl; rfl) | fail)
  refine bodyPost_ret (v := .agg cs.toArray) (results_sz sz25 Try.results24 hl18 rfl HR6.out) rfl ⟨?_, HFin.out⟩
  rw [← hcs]
  rfl

set_option maxRecDepth 100000 in
set_option maxHeartbeats 6400000 in
theorem reqpno {b g : Nat} {w : World} {s : Sx} (r : Rq) (hr : r.Ok) (hk : ¬ isK (prC.kind s r.k).2) (h : AtP b g 0 w s) :
    Calls Try.prog 24 #[.agg #[.iface 74 (.pointer (some ⟨b, 0, none⟩))], .agg #[.int .i64 r.k, .string r.key, .int .i64 r.id, .int .i64 r.n, .int .i64 r.ttl, .int .i64 r.o, .string r.nm, .string r.sec, .string r.pn, .int .i64 r.p1, .int .i64 r.p2, .int .i64 r.p3, .int .i64 r.p4, .int .i64 r.p5, .int .i64 r.p6, .int .i64 r.p7, .int .i64 r.p8, .int .i64 r.p9]] w fun e w' => e = .returned (.agg (rqC (reqS prC s r).2).toArray) ∧ AtP b g 99 w' (reqS prC s r).1 ∧ Keep (fun x => x ≠ b) w w' := by
  obtain ⟨hr1, hr2, hr3, hr4⟩ := hr
  obtain ⟨⟨s0, k0⟩, h0⟩ : ∃ T, prC.kind s r.k = T := ⟨_, rfl⟩
  rw [h0] at hk
  have hk : ¬ isK k0 := hk
  have hS : reqS prC s r = (prC.refuse s0 3, { Rq.zero with k := k0 }) := by
    unfold isK at hk
    unfold reqS reqK
    rw [h0]
    simp only [not_or] at hk
    obtain ⟨a1, a2, a3, a4, a5, a6, a7, a8, a9, a10⟩ := hk
    simp [a1, a2, a3, a4, a5, a6, a7, a8, a9, a10]
  have H0 := hide h0
  have HS := hide hS
  rw [HS.out]
  clear hS h0
  obtain ⟨T0, hT0, hK0, hsz, hfc, hsrc, ht2⟩ := box3 w (.iface 74 (.pointer (some ⟨b, 0, none⟩))) r
  have HT0 := hide hT0
  clear hT0
  have hbl : b < w.heap.size := lt_of_cell h.1.c0
  have hgl : g < w.heap.size := h.2
  have hgb : g ≠ b := h.1.gb
  have hA0 : AtP b g 0 T0 s := ⟨h.1.keep (P := fun _ => True) hK0 trivial trivial, by rw [hsz]; omega⟩
  have HC := hide (pkind r.k (by omega) hA0)
  rw [H0.out] at HC
  have HK0 := hide hK0
  have HZ := hide hsz
  have HFc := hide hfc
  have HSrc := hide hsrc
  have HT2 := hide ht2
  have hck : T0.cell? ⟨w.heap.size + 1, 0, none⟩ = some (.int .i64 r.k) := hsrc 0 (.int .i64 r.k) rfl
  clear hK0 hsz hsrc ht2 hA0 h
  generalize hfb : w.heap.size = fb at *
  go_enter Try.func24, Try.ntmps24
  go_wp2_with fail
  have HFb := hide hfb
  clear hfb
  rw [← HT0.out]
  clear HT0
  generalize T0 = w0 at *
  refine HC.out.mono ?_
  rintro e w1 ⟨rfl, hA, hK⟩
  have hz := HZ.out
  have hz1 := hK.size
  have b1 := hK.block fb (by omega) (by omega)
  have b2 := hK.block (fb + 1) (by omega) (by omega)
  have b3 := hK.block (fb + 2) (by omega) (by omega)
  have hKa : Keep (fun _ => True) w1 (w1.alloc (.cells #[.int .i64 0, .string { data := #[] }, .int .i64 0, .int .i64 0, .int .i64 0, .int .i64 0, .string { data := #[] }, .string { data := #[] }, .string { data := #[] }, .int .i64 0, .int .i64 0, .int .i64 0, .int .i64 0, .int .i64 0, .int .i64 0, .int .i64 0, .int .i64 0, .int .i64 0] 25)) := (Keep.refl _ w1).alloc _
  have hqsz : (w1.alloc (.cells #[.int .i64 0, .string { data := #[] }, .int .i64 0, .int .i64 0, .int .i64 0, .int .i64 0, .string { data := #[] }, .string { data := #[] }, .string { data := #[] }, .int .i64 0, .int .i64 0, .int .i64 0, .int .i64 0, .int .i64 0, .int .i64 0, .int .i64 0, .int .i64 0, .int .i64 0] 25)).heap.size = w1.heap.size + 1 := by simp
  have hthq : (w1.alloc (.cells #[.int .i64 0, .string { data := #[] }, .int .i64 0, .int .i64 0, .int .i64 0, .int .i64 0, .string { data := #[] }, .string { data := #[] }, .string { data := #[] }, .int .i64 0, .int .i64 0, .int .i64 0, .int .i64 0, .int .i64 0, .int .i64 0, .int .i64 0, .int .i64 0, .int .i64 0] 25)).there w1.heap.size 0 18 := there_new2 w1 #[.int .i64 0, .string { data := #[] }, .int .i64 0, .int .i64 0, .int .i64 0, .int .i64 0, .string { data := #[] }, .string { data := #[] }, .string { data := #[] }, .int .i64 0, .int .i64 0, .int .i64 0, .int .i64 0, .int .i64 0, .int .i64 0, .int .i64 0, .int .i64 0, .int .i64 0] 25
  have hrq : (w1.alloc (.cells #[.int .i64 0, .string { data := #[] }, .int .i64 0, .int .i64 0, .int .i64 0, .int .i64 0, .string { data := #[] }, .string { data := #[] }, .string { data := #[] }, .int .i64 0, .int .i64 0, .int .i64 0, .int .i64 0, .int .i64 0, .int .i64 0, .int .i64 0, .int .i64 0, .int .i64 0] 25)).rangeAt w1.heap.size 0 [.int .i64 0, .string { data := #[] }, .int .i64 0, .int .i64 0, .int .i64 0, .int .i64 0, .string { data := #[] }, .string { data := #[] }, .string { data := #[] }, .int .i64 0, .int .i64 0, .int .i64 0, .int .i64 0, .int .i64 0, .int .i64 0, .int .i64 0, .int .i64 0, .int .i64 0] := rng_new w1 _ #[.int .i64 0, .string { data := #[] }, .int .i64 0, .int .i64 0, .int .i64 0, .int .i64 0, .string { data := #[] }, .string { data := #[] }, .string { data := #[] }, .int .i64 0, .int .i64 0, .int .i64 0, .int .i64 0, .int .i64 0, .int .i64 0, .int .i64 0, .int .i64 0, .int .i64 0] 25 rfl
  have hA1 : AtP b g 1 (w1.alloc (.cells #[.int .i64 0, .string { data := #[] }, .int .i64 0, .int .i64 0, .int .i64 0, .int .i64 0, .string { data := #[] }, .string { data := #[] }, .string { data := #[] }, .int .i64 0, .int .i64 0, .int .i64 0, .int .i64 0, .int .i64 0, .int .i64 0, .int .i64 0, .int .i64 0, .int .i64 0] 25)) s0 := ⟨hA.1.keep (P := fun _ => True) hKa trivial trivial, by rw [hqsz]; omega⟩
  have hF0 : Fs (fun x => x < fb ∧ x ≠ b) (AtP b g) w (w1.alloc (.cells #[.int .i64 0, .string { data := #[] }, .int .i64 0, .int .i64 0, .int .i64 0, .int .i64 0, .string { data := #[] }, .string { data := #[] }, .string { data := #[] }, .int .i64 0, .int .i64 0, .int .i64 0, .int .i64 0, .int .i64 0, .int .i64 0, .int .i64 0, .int .i64 0, .int .i64 0] 25)) 1 s0 fb (fb + 1) (fb + 2) w1.heap.size (.iface 74 (.pointer (some ⟨b, 0, none⟩))) (rqC r) [.int .i64 0, .string { data := #[] }, .int .i64 0, .int .i64 0, .int .i64 0, .int .i64 0, .string { data := #[] }, .string { data := #[] }, .string { data := #[] }, .int .i64 0, .int .i64 0, .int .i64 0, .int .i64 0, .int .i64 0, .int .i64 0, .int .i64 0, .int .i64 0, .int .i64 0] :=
    ⟨hA1, hrq, hthq, rangeAt_keep (rangeAt_keep HSrc.out b2) (hKa.block _ (by omega) trivial), (World.cell?_of_block (a := ⟨fb, 0, none⟩) ((hKa.block fb (by omega) trivial).trans b1)).trans HFc.out, there_blk (there_blk HT2.out b3) (hKa.block _ (by omega) trivial), ((HK0.out.less (fun _ _ _ => trivial)).trans (hK.less (fun x _ hx => hx.2))).trans (hKa.less (fun _ _ _ => trivial)), ⟨by omega, by omega, by omega, (fun k => by have := k.1; omega)⟩, ⟨by omega, by omega, by omega, by omega⟩, AtP.far (by omega) (by omega)⟩
  have HF0 := hide (hF0.puts 0 [.int .i64 k0, .string { data := #[] }, .int .i64 0, .int .i64 0, .int .i64 0, .int .i64 0, .string { data := #[] }, .string { data := #[] }, .string { data := #[] }, .int .i64 0, .int .i64 0, .int .i64 0, .int .i64 0, .int .i64 0, .int .i64 0, .int .i64 0, .int .i64 0, .int .i64 0] (by simp))
  have hlz : ([.int .i64 k0, .string { data := #[] }, .int .i64 0, .int .i64 0, .int .i64 0, .int .i64 0, .string { data := #[] }, .string { data := #[] }, .string { data := #[] }, .int .i64 0, .int .i64 0, .int .i64 0, .int .i64 0, .int .i64 0, .int .i64 0, .int .i64 0, .int .i64 0, .int .i64 0] : List Value).length = 18 := rfl
  have hone : ∀ v ∈ ([.int .i64 k0, .string { data := #[] }, .int .i64 0, .int .i64 0, .int .i64 0, .int .i64 0, .string { data := #[] }, .string { data := #[] }, .string { data := #[] }, .int .i64 0, .int .i64 0, .int .i64 0, .int .i64 0, .int .i64 0, .int .i64 0, .int .i64 0, .int .i64 0, .int .i64 0] : List Value), v.oneCell' = true := by
    intro v hv
    simp only [List.mem_cons, List.not_mem_nil, or_false] at hv
    rcases hv with rfl | rfl | rfl | rfl | rfl | rfl | rfl | rfl | rfl | rfl | rfl | rfl | rfl | rfl | rfl | rfl | rfl | rfl <;> rfl
  have HThq := hide hthq
  have HOne := hide hone
  have HKw : Hid (Keep (fun x => x ≠ b) w w1) := (HK0.out.less (fun _ _ _ => trivial)).trans hK
  clear hthq hone hrq hA1 hF0 b1 b2 b3 hA hK hck hfc HC
  go_upto_region 2 with (first | ((with_reducible refine store_sz 25 18 sz25 _ _ w1.heap.size 0 [.int .i64 k0, .string { data := #[] }, .int .i64 0, .int .i64 0, .int .i64 0, .int .i64 0, .string { data := #[] }, .string { data := #[] }, .string { data := #[] }, .int .i64 0, .int .i64 0, .int .i64 0, .int .i64 0, .int .i64 0, .int .i64 0, .int .i64 0, .int .i64 0, .int .i64 0] hlz HOne.out ?_ ?_ HThq.out ?_); rfl; rfl) | fail)
  generalize hq : w1.heap.size = q at *
  have HFa : Hid (Fs (fun x => x < fb ∧ x ≠ b) (AtP b g) w ((w1.alloc (.cells #[.int .i64 0, .string { data := #[] }, .int .i64 0, .int .i64 0, .int .i64 0, .int .i64 0, .string { data := #[] }, .string { data := #[] }, .string { data := #[] }, .int .i64 0, .int .i64 0, .int .i64 0, .int .i64 0, .int .i64 0, .int .i64 0, .int .i64 0, .int .i64 0, .int .i64 0] 25)).setCells q 0 [.int .i64 k0, .string { data := #[] }, .int .i64 0, .int .i64 0, .int .i64 0, .int .i64 0, .string { data := #[] }, .string { data := #[] }, .string { data := #[] }, .int .i64 0, .int .i64 0, .int .i64 0, .int .i64 0, .int .i64 0, .int .i64 0, .int .i64 0, .int .i64 0, .int .i64 0]) 1 s0 fb (fb + 1) (fb + 2) q (.iface 74 (.pointer (some ⟨b, 0, none⟩))) (rqC r) [.int .i64 k0, .string { data := #[] }, .int .i64 0, .int .i64 0, .int .i64 0, .int .i64 0, .string { data := #[] }, .string { data := #[] }, .string { data := #[] }, .int .i64 0, .int .i64 0, .int .i64 0, .int .i64 0, .int .i64 0, .int .i64 0, .int .i64 0, .int .i64 0, .int .i64 0]) := HF0.out
  have HQ : Hid (q < ((w1.alloc (.cells #[.int .i64 0, .string { data := #[] }, .int .i64 0, .int .i64 0, .int .i64 0, .int .i64 0, .string { data := #[] }, .string { data := #[] }, .string { data := #[] }, .int .i64 0, .int .i64 0, .int .i64 0, .int .i64 0, .int .i64 0, .int .i64 0, .int .i64 0, .int .i64 0, .int .i64 0] 25)).setCells q 0 [.int .i64 k0, .string { data := #[] }, .int .i64 0, .int .i64 0, .int .i64 0, .int .i64 0, .string { data := #[] }, .string { data := #[] }, .string { data := #[] }, .int .i64 0, .int .i64 0, .int .i64 0, .int .i64 0, .int .i64 0, .int .i64 0, .int .i64 0, .int .i64 0, .int .i64 0]).heap.size) := HF0.out.lt.2.2.2
  clear HF0 hKa hqsz HThq HOne hlz
  generalize (w1.alloc (.cells #[.int .i64 0, .string { data := #[] }, .int .i64 0, .int .i64 0, .int .i64 0, .int .i64 0, .string { data := #[] }, .string { data := #[] }, .string { data := #[] }, .int .i64 0, .int .i64 0, .int .i64 0, .int .i64 0, .int .i64 0, .int .i64 0, .int .i64 0, .int .i64 0, .int .i64 0] 25)).setCells q 0 [.int .i64 k0, .string { data := #[] }, .int .i64 0, .int .i64 0, .int .i64 0, .int .i64 0, .string { data := #[] }, .string { data := #[] }, .string { data := #[] }, .int .i64 0, .int .i64 0, .int .i64 0, .int .i64 0, .int .i64 0, .int .i64 0, .int .i64 0, .int .i64 0, .int .i64 0] = v0 at *
  have ck := HFa.out.cell (j := 0) rfl
  have hfc := HFa.out.fc
  go_wp2_with (first | (go_at_call 40; refine (fofno k0 hk _).mono ?_; rintro e w' ⟨rfl, rfl⟩) | fail)
  refine (prefusec HFa.out.st).mono ?_
  rintro e v1 ⟨rfl, hA, hK⟩
  have HF1 : Hid (Fs (fun x => x < fb ∧ x ≠ b) (AtP b g) w v1 2 (prC.refuse s0 3) fb (fb + 1) (fb + 2) q (.iface 74 (.pointer (some ⟨b, 0, none⟩))) (rqC r) [.int .i64 k0, .string { data := #[] }, .int .i64 0, .int .i64 0, .int .i64 0, .int .i64 0, .string { data := #[] }, .string { data := #[] }, .string { data := #[] }, .int .i64 0, .int .i64 0, .int .i64 0, .int .i64 0, .int .i64 0, .int .i64 0, .int .i64 0, .int .i64 0, .int .i64 0]) := HFa.out.call hK (fun x hx => by rcases hx with h | h | h | h | h; exact h.2; omega; omega; omega; omega) hA
  clear hA hK hfc
  go_upto_region 5 with fail
  have HR : Hid (v1.rangeAt q 0 [.int .i64 k0, .string { data := #[] }, .int .i64 0, .int .i64 0, .int .i64 0, .int .i64 0, .string { data := #[] }, .string { data := #[] }, .string { data := #[] }, .int .i64 0, .int .i64 0, .int .i64 0, .int .i64 0, .int .i64 0, .int .i64 0, .int .i64 0, .int .i64 0, .int .i64 0]) := HF1.out.fl
  have HTq : Hid (v1.there (fb + 2) 0 18) := HF1.out.t2
  have hl18 : ([.int .i64 k0, .string { data := #[] }, .int .i64 0, .int .i64 0, .int .i64 0, .int .i64 0, .string { data := #[] }, .string { data := #[] }, .string { data := #[] }, .int .i64 0, .int .i64 0, .int .i64 0, .int .i64 0, .int .i64 0, .int .i64 0, .int .i64 0, .int .i64 0, .int .i64 0] : List Value).length = 18 := rfl
  have HOn : Hid (∀ v ∈ ([.int .i64 k0, .string { data := #[] }, .int .i64 0, .int .i64 0, .int .i64 0, .int .i64 0, .string { data := #[] }, .string { data := #[] }, .string { data := #[] }, .int .i64 0, .int .i64 0, .int .i64 0, .int .i64 0, .int .i64 0, .int .i64 0, .int .i64 0, .int .i64 0, .int .i64 0] : List Value), v.oneCell' = true) := by
    intro v hv
    simp only [List.mem_cons, List.not_mem_nil, or_false] at hv
    rcases hv with rfl | rfl | rfl | rfl | rfl | rfl | rfl | rfl | rfl | rfl | rfl | rfl | rfl | rfl | rfl | rfl | rfl | rfl <;> rfl
  have HR6 := hide (World.rangeAt_setCells_same v1 (fb + 2) 0 [.int .i64 k0, .string { data := #[] }, .int .i64 0, .int .i64 0, .int .i64 0, .int .i64 0, .string { data := #[] }, .string { data := #[] }, .string { data := #[] }, .int .i64 0, .int .i64 0, .int .i64 0, .int .i64 0, .int .i64 0, .int .i64 0, .int .i64 0, .int .i64 0, .int .i64 0] HTq.out)
  have HFin : Hid (AtP b g 99 (v1.setCells (fb + 2) 0 [.int .i64 k0, .string { data := #[] }, .int .i64 0, .int .i64 0, .int .i64 0, .int .i64 0, .string { data := #[] }, .string { data := #[] }, .string { data := #[] }, .int .i64 0, .int .i64 0, .int .i64 0, .int .i64 0, .int .i64 0, .int .i64 0, .int .i64 0, .int .i64 0, .int .i64 0]) (prC.refuse s0 3) ∧ Keep (fun x => x ≠ b) w (v1.setCells (fb + 2) 0 [.int .i64 k0, .string { data := #[] }, .int .i64 0, .int .i64 0, .int .i64 0, .int .i64 0, .string { data := #[] }, .string { data := #[] }, .string { data := #[] }, .int .i64 0, .int .i64 0, .int .i64 0, .int .i64 0, .int .i64 0, .int .i64 0, .int .i64 0, .int .i64 0, .int .i64 0])) := by
    have h1 := HF1.out.st
    exact ⟨AtP.far (by omega) (by omega) _ _ _ _ _ h1, (HF1.out.kp.less (fun x hx k => ⟨by have := HFb.out; omega, k⟩)).setCells (.inr (by have := HFb.out; omega)) 0 _⟩
  clear HF1
  generalize hcs : ([.int .i64 k0, .string { data := #[] }, .int .i64 0, .int .i64 0, .int .i64 0, .int .i64 0, .string { data := #[] }, .string { data := #[] }, .string { data := #[] }, .int .i64 0, .int .i64 0, .int .i64 0, .int .i64 0, .int .i64 0, .int .i64 0, .int .i64 0, .int .i64 0, .int .i64 0] : List Value) = cs at *
  go_wp2_with (first | ((with_reducible refine load_sz 25 18 sz25 _ q 0 cs hl18 ?_ HR.out ?_); rfl) | ((with_reducible refine store_sz 25 18 sz25 _ _ (fb + 2) 0 cs hl18 HOn.out ?_ ?_ HTq.out ?_); rfl; rfl) | fail)
  refine bodyPost_ret (v := .agg cs.toArray) (results_sz sz25 Try.results24 hl18 rfl HR6.out) rfl ⟨?_, HFin.out⟩
  rw [← hcs]
  rfl

end Go.Proofs.Ytkbboingeacgjaa
