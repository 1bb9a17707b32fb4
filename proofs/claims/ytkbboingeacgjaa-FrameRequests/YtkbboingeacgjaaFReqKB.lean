/-
  fields.request of the frame, walked: carrier k.
-/
import Derived.Test.YtkbboingeacgjaaFOf
import Derived.Deep.Cut
namespace Go.Proofs.Ytkbboingeacgjaa
open Go.RowKit

set_option maxRecDepth 100000 in
set_option maxHeartbeats 6400000 in
theorem reqk3 {w : World} {s : Sx} (r : Rq) (hr : r.Ok) (hk : (kpC.kind s r.k).2 = 3) (_h : AtK 0 w s) :
    Calls Try.prog 24 #[.agg #[.iface 87 (.agg #[])], .agg #[.int .i64 r.k, .string r.key, .int .i64 r.id, .int .i64 r.n, .int .i64 r.ttl, .int .i64 r.o, .string r.nm, .string r.sec, .string r.pn, .int .i64 r.p1, .int .i64 r.p2, .int .i64 r.p3, .int .i64 r.p4, .int .i64 r.p5, .int .i64 r.p6, .int .i64 r.p7, .int .i64 r.p8, .int .i64 r.p9]] w fun e w' => e = .returned (.agg (rqC (reqS kpC s r).2).toArray) ∧ Keep (fun _ => True) w w' := by
  obtain ⟨hr1, hr2, hr3, hr4⟩ := hr
  obtain ⟨⟨s0, k0⟩, h0⟩ : ∃ T, kpC.kind s r.k = T := ⟨_, rfl⟩
  rw [h0] at hk
  obtain rfl : k0 = 3 := hk
  obtain ⟨⟨s1, y1⟩, h1⟩ : ∃ T, kpC.text s0 r.key = T := ⟨_, rfl⟩
  obtain ⟨⟨s2, y2⟩, h2⟩ : ∃ T, kpC.num s1 r.id = T := ⟨_, rfl⟩
  obtain ⟨⟨s3, y3⟩, h3⟩ : ∃ T, kpC.num s2 r.o = T := ⟨_, rfl⟩
  have hS : reqS kpC s r = (s3, { Rq.zero with k := 3, key := y1, id := y2, o := y3 }) := by
    unfold reqS reqK
    rw [h0]
    simp only [h1, h2, h3]
    rfl
  have H0 := hide h0
  have H1 := hide h1
  have H2 := hide h2
  have H3 := hide h3
  have HS := hide hS
  rw [HS.out]
  clear hS h0 h1 h2 h3
  obtain ⟨T0, hT0, hK0, hsz, hfc, hsrc, ht2⟩ := box3 w (.iface 87 (.agg #[])) r
  have HT0 := hide hT0
  clear hT0
  have hA0 : AtK 0 T0 s := trivial
  have HC := hide (kkind r.k (by omega) hA0)
  rw [H0.out] at HC
  have HK0 := hide hK0
  have HZ := hide hsz
  have HFc := hide hfc
  have HSrc := hide hsrc
  have HT2 := hide ht2
  have hck : T0.cell? ⟨w.heap.size + 1, 0, none⟩ = some (.int .i64 r.k) := hsrc 0 (.int .i64 r.k) rfl
  clear hK0 hsz hsrc ht2 hA0
  generalize hfb : w.heap.size = fb at *
  go_enter Try.func24, Try.ntmps24
  go_wp2_with fail
  have HFb := hide hfb
  clear hfb
  rw [← HT0.out]
  clear HT0
  generalize T0 = w0 at *
  refine HC.out.mono ?_
  rintro e w1 ⟨rfl, hA, hK⟩
  have hz := HZ.out
  have hz1 := hK.size
  have b1 := hK.block fb (by omega) trivial
  have b2 := hK.block (fb + 1) (by omega) trivial
  have b3 := hK.block (fb + 2) (by omega) trivial
  have hKa : Keep (fun _ => True) w1 (w1.alloc (.cells #[.int .i64 0, .string { data := #[] }, .int .i64 0, .int .i64 0, .int .i64 0, .int .i64 0, .string { data := #[] }, .string { data := #[] }, .string { data := #[] }, .int .i64 0, .int .i64 0, .int .i64 0, .int .i64 0, .int .i64 0, .int .i64 0, .int .i64 0, .int .i64 0, .int .i64 0] 25)) := (Keep.refl _ w1).alloc _
  have hqsz : (w1.alloc (.cells #[.int .i64 0, .string { data := #[] }, .int .i64 0, .int .i64 0, .int .i64 0, .int .i64 0, .string { data := #[] }, .string { data := #[] }, .string { data := #[] }, .int .i64 0, .int .i64 0, .int .i64 0, .int .i64 0, .int .i64 0, .int .i64 0, .int .i64 0, .int .i64 0, .int .i64 0] 25)).heap.size = w1.heap.size + 1 := by simp
  have hthq : (w1.alloc (.cells #[.int .i64 0, .string { data := #[] }, .int .i64 0, .int .i64 0, .int .i64 0, .int .i64 0, .string { data := #[] }, .string { data := #[] }, .string { data := #[] }, .int .i64 0, .int .i64 0, .int .i64 0, .int .i64 0, .int .i64 0, .int .i64 0, .int .i64 0, .int .i64 0, .int .i64 0] 25)).there w1.heap.size 0 18 := there_new2 w1 #[.int .i64 0, .string { data := #[] }, .int .i64 0, .int .i64 0, .int .i64 0, .int .i64 0, .string { data := #[] }, .string { data := #[] }, .string { data := #[] }, .int .i64 0, .int .i64 0, .int .i64 0, .int .i64 0, .int .i64 0, .int .i64 0, .int .i64 0, .int .i64 0, .int .i64 0] 25
  have hrq : (w1.alloc (.cells #[.int .i64 0, .string { data := #[] }, .int .i64 0, .int .i64 0, .int .i64 0, .int .i64 0, .string { data := #[] }, .string { data := #[] }, .string { data := #[] }, .int .i64 0, .int .i64 0, .int .i64 0, .int .i64 0, .int .i64 0, .int .i64 0, .int .i64 0, .int .i64 0, .int .i64 0] 25)).rangeAt w1.heap.size 0 [.int .i64 0, .string { data := #[] }, .int .i64 0, .int .i64 0, .int .i64 0, .int .i64 0, .string { data := #[] }, .string { data := #[] }, .string { data := #[] }, .int .i64 0, .int .i64 0, .int .i64 0, .int .i64 0, .int .i64 0, .int .i64 0, .int .i64 0, .int .i64 0, .int .i64 0] := rng_new w1 _ #[.int .i64 0, .string { data := #[] }, .int .i64 0, .int .i64 0, .int .i64 0, .int .i64 0, .string { data := #[] }, .string { data := #[] }, .string { data := #[] }, .int .i64 0, .int .i64 0, .int .i64 0, .int .i64 0, .int .i64 0, .int .i64 0, .int .i64 0, .int .i64 0, .int .i64 0] 25 rfl
  have hA1 : AtK 1 (w1.alloc (.cells #[.int .i64 0, .string { data := #[] }, .int .i64 0, .int .i64 0, .int .i64 0, .int .i64 0, .string { data := #[] }, .string { data := #[] }, .string { data := #[] }, .int .i64 0, .int .i64 0, .int .i64 0, .int .i64 0, .int .i64 0, .int .i64 0, .int .i64 0, .int .i64 0, .int .i64 0] 25)) s0 := trivial
  have hF0 : Fs (fun x => x < fb) (AtK) w (w1.alloc (.cells #[.int .i64 0, .string { data := #[] }, .int .i64 0, .int .i64 0, .int .i64 0, .int .i64 0, .string { data := #[] }, .string { data := #[] }, .string { data := #[] }, .int .i64 0, .int .i64 0, .int .i64 0, .int .i64 0, .int .i64 0, .int .i64 0, .int .i64 0, .int .i64 0, .int .i64 0] 25)) 1 s0 fb (fb + 1) (fb + 2) w1.heap.size (.iface 87 (.agg #[])) (rqC r) [.int .i64 0, .string { data := #[] }, .int .i64 0, .int .i64 0, .int .i64 0, .int .i64 0, .string { data := #[] }, .string { data := #[] }, .string { data := #[] }, .int .i64 0, .int .i64 0, .int .i64 0, .int .i64 0, .int .i64 0, .int .i64 0, .int .i64 0, .int .i64 0, .int .i64 0] :=
    ⟨hA1, hrq, hthq, rangeAt_keep (rangeAt_keep HSrc.out b2) (hKa.block _ (by omega) trivial), (World.cell?_of_block (a := ⟨fb, 0, none⟩) ((hKa.block fb (by omega) trivial).trans b1)).trans HFc.out, there_blk (there_blk HT2.out b3) (hKa.block _ (by omega) trivial), ((HK0.out.less (fun _ _ _ => trivial)).trans (hK.less (fun _ _ _ => trivial))).trans (hKa.less (fun _ _ _ => trivial)), ⟨by omega, by omega, by omega, (fun k => by omega)⟩, ⟨by omega, by omega, by omega, by omega⟩, AtK.far⟩
  have HF0 := hide (hF0.puts 0 [.int .i64 3, .string { data := #[] }, .int .i64 0, .int .i64 0, .int .i64 0, .int .i64 0, .string { data := #[] }, .string { data := #[] }, .string { data := #[] }, .int .i64 0, .int .i64 0, .int .i64 0, .int .i64 0, .int .i64 0, .int .i64 0, .int .i64 0, .int .i64 0, .int .i64 0] (by decide))
  have hlz : ([.int .i64 3, .string { data := #[] }, .int .i64 0, .int .i64 0, .int .i64 0, .int .i64 0, .string { data := #[] }, .string { data := #[] }, .string { data := #[] }, .int .i64 0, .int .i64 0, .int .i64 0, .int .i64 0, .int .i64 0, .int .i64 0, .int .i64 0, .int .i64 0, .int .i64 0] : List Value).length = 18 := rfl
  have hone : ∀ v ∈ ([.int .i64 3, .string { data := #[] }, .int .i64 0, .int .i64 0, .int .i64 0, .int .i64 0, .string { data := #[] }, .string { data := #[] }, .string { data := #[] }, .int .i64 0, .int .i64 0, .int .i64 0, .int .i64 0, .int .i64 0, .int .i64 0, .int .i64 0, .int .i64 0, .int .i64 0] : List Value), v.oneCell' = true := by
    intro v hv
    simp only [List.mem_cons, List.not_mem_nil, or_false] at hv
    rcases hv with rfl | rfl | rfl | rfl | rfl | rfl | rfl | rfl | rfl | rfl | rfl | rfl | rfl | rfl | rfl | rfl | rfl | rfl <;> rfl
  have HThq := hide hthq
  have HOne := hide hone
  have HKw : Hid (Keep (fun _ => True) w w1) := (HK0.out.less (fun _ _ _ => trivial)).trans hK
  clear hthq hone hrq hA1 hF0 b1 b2 b3 hA hK hck hfc HC
  go_upto_region 2 with (first | ((with_reducible refine store_sz 25 18 sz25 _ _ w1.heap.size 0 [.int .i64 3, .string { data := #[] }, .int .i64 0, .int .i64 0, .int .i64 0, .int .i64 0, .string { data := #[] }, .string { data := #[] }, .string { data := #[] }, .int .i64 0, .int .i64 0, .int .i64 0, .int .i64 0, .int .i64 0, .int .i64 0, .int .i64 0, .int .i64 0, .int .i64 0] hlz HOne.out ?_ ?_ HThq.out ?_); rfl; rfl) | fail)
  generalize hq : w1.heap.size = q at *
  have HFa : Hid (Fs (fun x => x < fb) (AtK) w ((w1.alloc (.cells #[.int .i64 0, .string { data := #[] }, .int .i64 0, .int .i64 0, .int .i64 0, .int .i64 0, .string { data := #[] }, .string { data := #[] }, .string { data := #[] }, .int .i64 0, .int .i64 0, .int .i64 0, .int .i64 0, .int .i64 0, .int .i64 0, .int .i64 0, .int .i64 0, .int .i64 0] 25)).setCells q 0 [.int .i64 3, .string { data := #[] }, .int .i64 0, .int .i64 0, .int .i64 0, .int .i64 0, .string { data := #[] }, .string { data := #[] }, .string { data := #[] }, .int .i64 0, .int .i64 0, .int .i64 0, .int .i64 0, .int .i64 0, .int .i64 0, .int .i64 0, .int .i64 0, .int .i64 0]) 1 s0 fb (fb + 1) (fb + 2) q (.iface 87 (.agg #[])) (rqC r) [.int .i64 3, .string { data := #[] }, .int .i64 0, .int .i64 0, .int .i64 0, .int .i64 0, .string { data := #[] }, .string { data := #[] }, .string { data := #[] }, .int .i64 0, .int .i64 0, .int .i64 0, .int .i64 0, .int .i64 0, .int .i64 0, .int .i64 0, .int .i64 0, .int .i64 0]) := HF0.out
  have HQ : Hid (q < ((w1.alloc (.cells #[.int .i64 0, .string { data := #[] }, .int .i64 0, .int .i64 0, .int .i64 0, .int .i64 0, .string { data := #[] }, .string { data := #[] }, .string { data := #[] }, .int .i64 0, .int .i64 0, .int .i64 0, .int .i64 0, .int .i64 0, .int .i64 0, .int .i64 0, .int .i64 0, .int .i64 0] 25)).setCells q 0 [.int .i64 3, .string { data := #[] }, .int .i64 0, .int .i64 0, .int .i64 0, .int .i64 0, .string { data := #[] }, .string { data := #[] }, .string { data := #[] }, .int .i64 0, .int .i64 0, .int .i64 0, .int .i64 0, .int .i64 0, .int .i64 0, .int .i64 0, .int .i64 0, .int .i64 0]).heap.size) := HF0.out.lt.2.2.2
  clear HF0 hKa hqsz HThq HOne hlz
  generalize (w1.alloc (.cells #[.int .i64 0, .string { data := #[] }, .int .i64 0, .int .i64 0, .int .i64 0, .int .i64 0, .string { data := #[] }, .string { data := #[] }, .string { data := #[] }, .int .i64 0, .int .i64 0, .int .i64 0, .int .i64 0, .int .i64 0, .int .i64 0, .int .i64 0, .int .i64 0, .int .i64 0] 25)).setCells q 0 [.int .i64 3, .string { data := #[] }, .int .i64 0, .int .i64 0, .int .i64 0, .int .i64 0, .string { data := #[] }, .string { data := #[] }, .string { data := #[] }, .int .i64 0, .int .i64 0, .int .i64 0, .int .i64 0, .int .i64 0, .int .i64 0, .int .i64 0, .int .i64 0, .int .i64 0] = v0 at *
  have ck := HFa.out.cell (j := 0) rfl
  have hfc := HFa.out.fc
  have hsc := HFa.out.scell (j := 1) (v := .string r.key) rfl
  go_wp2_with (first | (go_at_call 40; refine (fof3 _).mono ?_; rintro e w' ⟨rfl, rfl⟩) | fail)
  refine (ktextc r.key hr1 (by omega) HFa.out.st).mono ?_
  rintro e u1 ⟨rfl, hA, hK⟩
  rw [H1.out] at hA ⊢
  have hF := HFa.out.call hK (fun _ _ => trivial) hA
  have hc1 := hF.cell (j := 1) rfl
  have hf1 := hF.fz (j := 1) (by simp)
  have HF1 : Hid (Fs (fun x => x < fb) (AtK) w (u1.setCell ⟨q, 1, none⟩ (.string y1)) 2 s1 fb (fb + 1) (fb + 2) q (.iface 87 (.agg #[])) (rqC r) [.int .i64 3, .string y1, .int .i64 0, .int .i64 0, .int .i64 0, .int .i64 0, .string { data := #[] }, .string { data := #[] }, .string { data := #[] }, .int .i64 0, .int .i64 0, .int .i64 0, .int .i64 0, .int .i64 0, .int .i64 0, .int .i64 0, .int .i64 0, .int .i64 0]) := hF.put1 1 (.string y1) (by simp)
  clear hF hA hK hfc hsc
  have hfc := HF1.out.fc
  have hsc := HF1.out.scell (j := 2) (v := .int .i64 r.id) rfl
  dsimp only
  go_wp2_with fail
  generalize u1.setCell ⟨q, 1, none⟩ (.string y1) = v1 at *
  clear hc1 hf1
  refine (knumc r.id (by omega) HF1.out.st).mono ?_
  rintro e u2 ⟨rfl, hA, hK⟩
  rw [H2.out] at hA ⊢
  have hF := HF1.out.call hK (fun _ _ => trivial) hA
  have hc2 := hF.cell (j := 2) rfl
  have hf2 := hF.fz (j := 2) (by simp)
  have HF2 : Hid (Fs (fun x => x < fb) (AtK) w (u2.setCell ⟨q, 2, none⟩ (.int .i64 y2)) 3 s2 fb (fb + 1) (fb + 2) q (.iface 87 (.agg #[])) (rqC r) [.int .i64 3, .string y1, .int .i64 y2, .int .i64 0, .int .i64 0, .int .i64 0, .string { data := #[] }, .string { data := #[] }, .string { data := #[] }, .int .i64 0, .int .i64 0, .int .i64 0, .int .i64 0, .int .i64 0, .int .i64 0, .int .i64 0, .int .i64 0, .int .i64 0]) := hF.put1 2 (.int .i64 y2) (by simp)
  clear hF hA hK hfc hsc
  have hfc := HF2.out.fc
  have hsc := HF2.out.scell (j := 5) (v := .int .i64 r.o) rfl
  dsimp only
  go_wp2_with fail
  generalize u2.setCell ⟨q, 2, none⟩ (.int .i64 y2) = v2 at *
  clear hc2 hf2
  refine (knumc r.o (by omega) HF2.out.st).mono ?_
  rintro e u3 ⟨rfl, hA, hK⟩
  rw [H3.out] at hA ⊢
  have hF := HF2.out.call hK (fun _ _ => trivial) hA
  have hc3 := hF.cell (j := 5) rfl
  have hf3 := hF.fz (j := 5) (by simp)
  have HF3 : Hid (Fs (fun x => x < fb) (AtK) w (u3.setCell ⟨q, 5, none⟩ (.int .i64 y3)) 4 s3 fb (fb + 1) (fb + 2) q (.iface 87 (.agg #[])) (rqC r) [.int .i64 3, .string y1, .int .i64 y2, .int .i64 0, .int .i64 0, .int .i64 y3, .string { data := #[] }, .string { data := #[] }, .string { data := #[] }, .int .i64 0, .int .i64 0, .int .i64 0, .int .i64 0, .int .i64 0, .int .i64 0, .int .i64 0, .int .i64 0, .int .i64 0]) := hF.put1 5 (.int .i64 y3) (by simp)
  clear hF hA hK hfc hsc
  have hfc := HF3.out.fc
  have hsc : True := trivial
  dsimp only
  go_upto_region 24 with fail
  generalize u3.setCell ⟨q, 5, none⟩ (.int .i64 y3) = v3 at *
  clear hc3 hf3
  have HR : Hid (v3.rangeAt q 0 [.int .i64 3, .string y1, .int .i64 y2, .int .i64 0, .int .i64 0, .int .i64 y3, .string { data := #[] }, .string { data := #[] }, .string { data := #[] }, .int .i64 0, .int .i64 0, .int .i64 0, .int .i64 0, .int .i64 0, .int .i64 0, .int .i64 0, .int .i64 0, .int .i64 0]) := HF3.out.fl
  have HTq : Hid (v3.there (fb + 2) 0 18) := HF3.out.t2
  have hl18 : ([.int .i64 3, .string y1, .int .i64 y2, .int .i64 0, .int .i64 0, .int .i64 y3, .string { data := #[] }, .string { data := #[] }, .string { data := #[] }, .int .i64 0, .int .i64 0, .int .i64 0, .int .i64 0, .int .i64 0, .int .i64 0, .int .i64 0, .int .i64 0, .int .i64 0] : List Value).length = 18 := rfl
  have HOn : Hid (∀ v ∈ ([.int .i64 3, .string y1, .int .i64 y2, .int .i64 0, .int .i64 0, .int .i64 y3, .string { data := #[] }, .string { data := #[] }, .string { data := #[] }, .int .i64 0, .int .i64 0, .int .i64 0, .int .i64 0, .int .i64 0, .int .i64 0, .int .i64 0, .int .i64 0, .int .i64 0] : List Value), v.oneCell' = true) := by
    intro v hv
    simp only [List.mem_cons, List.not_mem_nil, or_false] at hv
    rcases hv with rfl | rfl | rfl | rfl | rfl | rfl | rfl | rfl | rfl | rfl | rfl | rfl | rfl | rfl | rfl | rfl | rfl | rfl <;> rfl
  have HR6 := hide (World.rangeAt_setCells_same v3 (fb + 2) 0 [.int .i64 3, .string y1, .int .i64 y2, .int .i64 0, .int .i64 0, .int .i64 y3, .string { data := #[] }, .string { data := #[] }, .string { data := #[] }, .int .i64 0, .int .i64 0, .int .i64 0, .int .i64 0, .int .i64 0, .int .i64 0, .int .i64 0, .int .i64 0, .int .i64 0] HTq.out)
  have HFin : Hid (Keep (fun _ => True) w (v3.setCells (fb + 2) 0 [.int .i64 3, .string y1, .int .i64 y2, .int .i64 0, .int .i64 0, .int .i64 y3, .string { data := #[] }, .string { data := #[] }, .string { data := #[] }, .int .i64 0, .int .i64 0, .int .i64 0, .int .i64 0, .int .i64 0, .int .i64 0, .int .i64 0, .int .i64 0, .int .i64 0])) := (HF3.out.kp.less (fun x hx _ => by have := HFb.out; omega)).setCells (.inr (by have := HFb.out; omega)) 0 _
  clear HF3
  generalize hcs : ([.int .i64 3, .string y1, .int .i64 y2, .int .i64 0, .int .i64 0, .int .i64 y3, .string { data := #[] }, .string { data := #[] }, .string { data := #[] }, .int .i64 0, .int .i64 0, .int .i64 0, .int .i64 0, .int .i64 0, .int .i64 0, .int .i64 0, .int .i64 0, .int .i64 0] : List Value) = cs at *
  go_wp2_with (first | ((with_reducible refine load_sz 25 18 sz25 _ q 0 cs hl18 ?_ HR.out ?_); rfl) | ((with_reducible refine store_sz 25 18 sz25 _ _ (fb + 2) 0 cs hl18 HOn.out ?_ ?_ HTq.out ?_); rfl; rfl) | fail)
  refine bodyPost_ret (v := .agg cs.toArray) (results_sz sz25 Try.results24 hl18 rfl HR6.out) rfl ⟨?_, HFin.out⟩
  rw [← hcs]
  rfl

set_option maxRecDepth 100000 in
set_option maxHeartbeats 6400000 in
theorem reqk17 {w : World} {s : Sx} (r : Rq) (hr : r.Ok) (hk : (kpC.kind s r.k).2 = 17) (_h : AtK 0 w s) :
    Calls Try.prog 24 #[.agg #[.iface 87 (.agg #[])], .agg #[.int .i64 r.k, .string r.key, .int .i64 r.id, .int .i64 r.n, .int .i64 r.ttl, .int .i64 r.o, .string r.nm, .string r.sec, .string r.pn, .int .i64 r.p1, .int .i64 r.p2, .int .i64 r.p3, .int .i64 r.p4, .int .i64 r.p5, .int .i64 r.p6, .int .i64 r.p7, .int .i64 r.p8, .int .i64 r.p9]] w fun e w' => e = .returned (.agg (rqC (reqS kpC s r).2).toArray) ∧ Keep (fun _ => True) w w' := by
  obtain ⟨hr1, hr2, hr3, hr4⟩ := hr
  obtain ⟨⟨s0, k0⟩, h0⟩ : ∃ T, kpC.kind s r.k = T := ⟨_, rfl⟩
  rw [h0] at hk
  obtain rfl : k0 = 17 := hk
  obtain ⟨⟨s1, y1⟩, h1⟩ : ∃ T, kpC.text s0 r.key = T := ⟨_, rfl⟩
  obtain ⟨⟨s2, y2⟩, h2⟩ : ∃ T, kpC.text s1 r.nm = T := ⟨_, rfl⟩
  obtain ⟨⟨s3, y3⟩, h3⟩ : ∃ T, kpC.text s2 r.sec = T := ⟨_, rfl⟩
  obtain ⟨⟨s4, y4⟩, h4⟩ : ∃ T, kpC.text s3 r.pn = T := ⟨_, rfl⟩
  obtain ⟨⟨s5, y5⟩, h5⟩ : ∃ T, kpC.num s4 r.p1 = T := ⟨_, rfl⟩
  have hS : reqS kpC s r = (s5, { Rq.zero with k := 17, key := y1, nm := y2, sec := y3, pn := y4, p1 := y5 }) := by
    unfold reqS reqK
    rw [h0]
    simp only [h1, h2, h3, h4, h5]
    rfl
  have H0 := hide h0
  have H1 := hide h1
  have H2 := hide h2
  have H3 := hide h3
  have H4 := hide h4
  have H5 := hide h5
  have HS := hide hS
  rw [HS.out]
  clear hS h0 h1 h2 h3 h4 h5
  obtain ⟨T0, hT0, hK0, hsz, hfc, hsrc, ht2⟩ := box3 w (.iface 87 (.agg #[])) r
  have HT0 := hide hT0
  clear hT0
  have hA0 : AtK 0 T0 s := trivial
  have HC := hide (kkind r.k (by omega) hA0)
  rw [H0.out] at HC
  have HK0 := hide hK0
  have HZ := hide hsz
  have HFc := hide hfc
  have HSrc := hide hsrc
  have HT2 := hide ht2
  have hck : T0.cell? ⟨w.heap.size + 1, 0, none⟩ = some (.int .i64 r.k) := hsrc 0 (.int .i64 r.k) rfl
  clear hK0 hsz hsrc ht2 hA0
  generalize hfb : w.heap.size = fb at *
  go_enter Try.func24, Try.ntmps24
  go_wp2_with fail
  have HFb := hide hfb
  clear hfb
  rw [← HT0.out]
  clear HT0
  generalize T0 = w0 at *
  refine HC.out.mono ?_
  rintro e w1 ⟨rfl, hA, hK⟩
  have hz := HZ.out
  have hz1 := hK.size
  have b1 := hK.block fb (by omega) trivial
  have b2 := hK.block (fb + 1) (by omega) trivial
  have b3 := hK.block (fb + 2) (by omega) trivial
  have hKa : Keep (fun _ => True) w1 (w1.alloc (.cells #[.int .i64 0, .string { data := #[] }, .int .i64 0, .int .i64 0, .int .i64 0, .int .i64 0, .string { data := #[] }, .string { data := #[] }, .string { data := #[] }, .int .i64 0, .int .i64 0, .int .i64 0, .int .i64 0, .int .i64 0, .int .i64 0, .int .i64 0, .int .i64 0, .int .i64 0] 25)) := (Keep.refl _ w1).alloc _
  have hqsz : (w1.alloc (.cells #[.int .i64 0, .string { data := #[] }, .int .i64 0, .int .i64 0, .int .i64 0, .int .i64 0, .string { data := #[] }, .string { data := #[] }, .string { data := #[] }, .int .i64 0, .int .i64 0, .int .i64 0, .int .i64 0, .int .i64 0, .int .i64 0, .int .i64 0, .int .i64 0, .int .i64 0] 25)).heap.size = w1.heap.size + 1 := by simp
  have hthq : (w1.alloc (.cells #[.int .i64 0, .string { data := #[] }, .int .i64 0, .int .i64 0, .int .i64 0, .int .i64 0, .string { data := #[] }, .string { data := #[] }, .string { data := #[] }, .int .i64 0, .int .i64 0, .int .i64 0, .int .i64 0, .int .i64 0, .int .i64 0, .int .i64 0, .int .i64 0, .int .i64 0] 25)).there w1.heap.size 0 18 := there_new2 w1 #[.int .i64 0, .string { data := #[] }, .int .i64 0, .int .i64 0, .int .i64 0, .int .i64 0, .string { data := #[] }, .string { data := #[] }, .string { data := #[] }, .int .i64 0, .int .i64 0, .int .i64 0, .int .i64 0, .int .i64 0, .int .i64 0, .int .i64 0, .int .i64 0, .int .i64 0] 25
  have hrq : (w1.alloc (.cells #[.int .i64 0, .string { data := #[] }, .int .i64 0, .int .i64 0, .int .i64 0, .int .i64 0, .string { data := #[] }, .string { data := #[] }, .string { data := #[] }, .int .i64 0, .int .i64 0, .int .i64 0, .int .i64 0, .int .i64 0, .int .i64 0, .int .i64 0, .int .i64 0, .int .i64 0] 25)).rangeAt w1.heap.size 0 [.int .i64 0, .string { data := #[] }, .int .i64 0, .int .i64 0, .int .i64 0, .int .i64 0, .string { data := #[] }, .string { data := #[] }, .string { data := #[] }, .int .i64 0, .int .i64 0, .int .i64 0, .int .i64 0, .int .i64 0, .int .i64 0, .int .i64 0, .int .i64 0, .int .i64 0] := rng_new w1 _ #[.int .i64 0, .string { data := #[] }, .int .i64 0, .int .i64 0, .int .i64 0, .int .i64 0, .string { data := #[] }, .string { data := #[] }, .string { data := #[] }, .int .i64 0, .int .i64 0, .int .i64 0, .int .i64 0, .int .i64 0, .int .i64 0, .int .i64 0, .int .i64 0, .int .i64 0] 25 rfl
  have hA1 : AtK 1 (w1.alloc (.cells #[.int .i64 0, .string { data := #[] }, .int .i64 0, .int .i64 0, .int .i64 0, .int .i64 0, .string { data := #[] }, .string { data := #[] }, .string { data := #[] }, .int .i64 0, .int .i64 0, .int .i64 0, .int .i64 0, .int .i64 0, .int .i64 0, .int .i64 0, .int .i64 0, .int .i64 0] 25)) s0 := trivial
  have hF0 : Fs (fun x => x < fb) (AtK) w (w1.alloc (.cells #[.int .i64 0, .string { data := #[] }, .int .i64 0, .int .i64 0, .int .i64 0, .int .i64 0, .string { data := #[] }, .string { data := #[] }, .string { data := #[] }, .int .i64 0, .int .i64 0, .int .i64 0, .int .i64 0, .int .i64 0, .int .i64 0, .int .i64 0, .int .i64 0, .int .i64 0] 25)) 1 s0 fb (fb + 1) (fb + 2) w1.heap.size (.iface 87 (.agg #[])) (rqC r) [.int .i64 0, .string { data := #[] }, .int .i64 0, .int .i64 0, .int .i64 0, .int .i64 0, .string { data := #[] }, .string { data := #[] }, .string { data := #[] }, .int .i64 0, .int .i64 0, .int .i64 0, .int .i64 0, .int .i64 0, .int .i64 0, .int .i64 0, .int .i64 0, .int .i64 0] :=
    ⟨hA1, hrq, hthq, rangeAt_keep (rangeAt_keep HSrc.out b2) (hKa.block _ (by omega) trivial), (World.cell?_of_block (a := ⟨fb, 0, none⟩) ((hKa.block fb (by omega) trivial).trans b1)).trans HFc.out, there_blk (there_blk HT2.out b3) (hKa.block _ (by omega) trivial), ((HK0.out.less (fun _ _ _ => trivial)).trans (hK.less (fun _ _ _ => trivial))).trans (hKa.less (fun _ _ _ => trivial)), ⟨by omega, by omega, by omega, (fun k => by omega)⟩, ⟨by omega, by omega, by omega, by omega⟩, AtK.far⟩
  have HF0 := hide (hF0.puts 0 [.int .i64 17, .string { data := #[] }, .int .i64 0, .int .i64 0, .int .i64 0, .int .i64 0, .string { data := #[] }, .string { data := #[] }, .string { data := #[] }, .int .i64 0, .int .i64 0, .int .i64 0, .int .i64 0, .int .i64 0, .int .i64 0, .int .i64 0, .int .i64 0, .int .i64 0] (by decide))
  have hlz : ([.int .i64 17, .string { data := #[] }, .int .i64 0, .int .i64 0, .int .i64 0, .int .i64 0, .string { data := #[] }, .string { data := #[] }, .string { data := #[] }, .int .i64 0, .int .i64 0, .int .i64 0, .int .i64 0, .int .i64 0, .int .i64 0, .int .i64 0, .int .i64 0, .int .i64 0] : List Value).length = 18 := rfl
  have hone : ∀ v ∈ ([.int .i64 17, .string { data := #[] }, .int .i64 0, .int .i64 0, .int .i64 0, .int .i64 0, .string { data := #[] }, .string { data := #[] }, .string { data := #[] }, .int .i64 0, .int .i64 0, .int .i64 0, .int .i64 0, .int .i64 0, .int .i64 0, .int .i64 0, .int .i64 0, .int .i64 0] : List Value), v.oneCell' = true := by
    intro v hv
    simp only [List.mem_cons, List.not_mem_nil, or_false] at hv
    rcases hv with rfl | rfl | rfl | rfl | rfl | rfl | rfl | rfl | rfl | rfl | rfl | rfl | rfl | rfl | rfl | rfl | rfl | rfl <;> rfl
  have HThq := hide hthq
  have HOne := hide hone
  have HKw : Hid (Keep (fun _ => True) w w1) := (HK0.out.less (fun _ _ _ => trivial)).trans hK
  clear hthq hone hrq hA1 hF0 b1 b2 b3 hA hK hck hfc HC
  go_upto_region 2 with (first | ((with_reducible refine store_sz 25 18 sz25 _ _ w1.heap.size 0 [.int .i64 17, .string { data := #[] }, .int .i64 0, .int .i64 0, .int .i64 0, .int .i64 0, .string { data := #[] }, .string { data := #[] }, .string { data := #[] }, .int .i64 0, .int .i64 0, .int .i64 0, .int .i64 0, .int .i64 0, .int .i64 0, .int .i64 0, .int .i64 0, .int .i64 0] hlz HOne.out ?_ ?_ HThq.out ?_); rfl; rfl) | fail)
  generalize hq : w1.heap.size = q at *
  have HFa : Hid (Fs (fun x => x < fb) (AtK) w ((w1.alloc (.cells #[.int .i64 0, .string { data := #[] }, .int .i64 0, .int .i64 0, .int .i64 0, .int .i64 0, .string { data := #[] }, .string { data := #[] }, .string { data := #[] }, .int .i64 0, .int .i64 0, .int .i64 0, .int .i64 0, .int .i64 0, .int .i64 0, .int .i64 0, .int .i64 0, .int .i64 0] 25)).setCells q 0 [.int .i64 17, .string { data := #[] }, .int .i64 0, .int .i64 0, .int .i64 0, .int .i64 0, .string { data := #[] }, .string { data := #[] }, .string { data := #[] }, .int .i64 0, .int .i64 0, .int .i64 0, .int .i64 0, .int .i64 0, .int .i64 0, .int .i64 0, .int .i64 0, .int .i64 0]) 1 s0 fb (fb + 1) (fb + 2) q (.iface 87 (.agg #[])) (rqC r) [.int .i64 17, .string { data := #[] }, .int .i64 0, .int .i64 0, .int .i64 0, .int .i64 0, .string { data := #[] }, .string { data := #[] }, .string { data := #[] }, .int .i64 0, .int .i64 0, .int .i64 0, .int .i64 0, .int .i64 0, .int .i64 0, .int .i64 0, .int .i64 0, .int .i64 0]) := HF0.out
  have HQ : Hid (q < ((w1.alloc (.cells #[.int .i64 0, .string { data := #[] }, .int .i64 0, .int .i64 0, .int .i64 0, .int .i64 0, .string { data := #[] }, .string { data := #[] }, .string { data := #[] }, .int .i64 0, .int .i64 0, .int .i64 0, .int .i64 0, .int .i64 0, .int .i64 0, .int .i64 0, .int .i64 0, .int .i64 0] 25)).setCells q 0 [.int .i64 17, .string { data := #[] }, .int .i64 0, .int .i64 0, .int .i64 0, .int .i64 0, .string { data := #[] }, .string { data := #[] }, .string { data := #[] }, .int .i64 0, .int .i64 0, .int .i64 0, .int .i64 0, .int .i64 0, .int .i64 0, .int .i64 0, .int .i64 0, .int .i64 0]).heap.size) := HF0.out.lt.2.2.2
  clear HF0 hKa hqsz HThq HOne hlz
  generalize (w1.alloc (.cells #[.int .i64 0, .string { data := #[] }, .int .i64 0, .int .i64 0, .int .i64 0, .int .i64 0, .string { data := #[] }, .string { data := #[] }, .string { data := #[] }, .int .i64 0, .int .i64 0, .int .i64 0, .int .i64 0, .int .i64 0, .int .i64 0, .int .i64 0, .int .i64 0, .int .i64 0] 25)).setCells q 0 [.int .i64 17, .string { data := #[] }, .int .i64 0, .int .i64 0, .int .i64 0, .int .i64 0, .string { data := #[] }, .string { data := #[] }, .string { data := #[] }, .int .i64 0, .int .i64 0, .int .i64 0, .int .i64 0, .int .i64 0, .int .i64 0, .int .i64 0, .int .i64 0, .int .i64 0] = v0 at *
  have ck := HFa.out.cell (j := 0) rfl
  have hfc := HFa.out.fc
  have hsc := HFa.out.scell (j := 1) (v := .string r.key) rfl
  go_wp2_with (first | (go_at_call 40; refine (fof17 _).mono ?_; rintro e w' ⟨rfl, rfl⟩) | fail)
  refine (ktextc r.key hr1 (by omega) HFa.out.st).mono ?_
  rintro e u1 ⟨rfl, hA, hK⟩
  rw [H1.out] at hA ⊢
  have hF := HFa.out.call hK (fun _ _ => trivial) hA
  have hc1 := hF.cell (j := 1) rfl
  have hf1 := hF.fz (j := 1) (by simp)
  have HF1 : Hid (Fs (fun x => x < fb) (AtK) w (u1.setCell ⟨q, 1, none⟩ (.string y1)) 2 s1 fb (fb + 1) (fb + 2) q (.iface 87 (.agg #[])) (rqC r) [.int .i64 17, .string y1, .int .i64 0, .int .i64 0, .int .i64 0, .int .i64 0, .string { data := #[] }, .string { data := #[] }, .string { data := #[] }, .int .i64 0, .int .i64 0, .int .i64 0, .int .i64 0, .int .i64 0, .int .i64 0, .int .i64 0, .int .i64 0, .int .i64 0]) := hF.put1 1 (.string y1) (by simp)
  clear hF hA hK hfc hsc
  have hfc := HF1.out.fc
  have hsc := HF1.out.scell (j := 6) (v := .string r.nm) rfl
  dsimp only
  go_wp2_with fail
  generalize u1.setCell ⟨q, 1, none⟩ (.string y1) = v1 at *
  clear hc1 hf1
  refine (ktextc r.nm hr2 (by omega) HF1.out.st).mono ?_
  rintro e u2 ⟨rfl, hA, hK⟩
  rw [H2.out] at hA ⊢
  have hF := HF1.out.call hK (fun _ _ => trivial) hA
  have hc2 := hF.cell (j := 6) rfl
  have hf2 := hF.fz (j := 6) (by simp)
  have HF2 : Hid (Fs (fun x => x < fb) (AtK) w (u2.setCell ⟨q, 6, none⟩ (.string y2)) 3 s2 fb (fb + 1) (fb + 2) q (.iface 87 (.agg #[])) (rqC r) [.int .i64 17, .string y1, .int .i64 0, .int .i64 0, .int .i64 0, .int .i64 0, .string y2, .string { data := #[] }, .string { data := #[] }, .int .i64 0, .int .i64 0, .int .i64 0, .int .i64 0, .int .i64 0, .int .i64 0, .int .i64 0, .int .i64 0, .int .i64 0]) := hF.put1 6 (.string y2) (by simp)
  clear hF hA hK hfc hsc
  have hfc := HF2.out.fc
  have hsc := HF2.out.scell (j := 7) (v := .string r.sec) rfl
  dsimp only
  go_wp2_with fail
  generalize u2.setCell ⟨q, 6, none⟩ (.string y2) = v2 at *
  clear hc2 hf2
  refine (ktextc r.sec hr3 (by omega) HF2.out.st).mono ?_
  rintro e u3 ⟨rfl, hA, hK⟩
  rw [H3.out] at hA ⊢
  have hF := HF2.out.call hK (fun _ _ => trivial) hA
  have hc3 := hF.cell (j := 7) rfl
  have hf3 := hF.fz (j := 7) (by simp)
  have HF3 : Hid (Fs (fun x => x < fb) (AtK) w (u3.setCell ⟨q, 7, none⟩ (.string y3)) 4 s3 fb (fb + 1) (fb + 2) q (.iface 87 (.agg #[])) (rqC r) [.int .i64 17, .string y1, .int .i64 0, .int .i64 0, .int .i64 0, .int .i64 0, .string y2, .string y3, .string { data := #[] }, .int .i64 0, .int .i64 0, .int .i64 0, .int .i64 0, .int .i64 0, .int .i64 0, .int .i64 0, .int .i64 0, .int .i64 0]) := hF.put1 7 (.string y3) (by simp)
  clear hF hA hK hfc hsc
  have hfc := HF3.out.fc
  have hsc := HF3.out.scell (j := 8) (v := .string r.pn) rfl
  dsimp only
  go_wp2_with fail
  generalize u3.setCell ⟨q, 7, none⟩ (.string y3) = v3 at *
  clear hc3 hf3
  refine (ktextc r.pn hr4 (by omega) HF3.out.st).mono ?_
  rintro e u4 ⟨rfl, hA, hK⟩
  rw [H4.out] at hA ⊢
  have hF := HF3.out.call hK (fun _ _ => trivial) hA
  have hc4 := hF.cell (j := 8) rfl
  have hf4 := hF.fz (j := 8) (by simp)
  have HF4 : Hid (Fs (fun x => x < fb) (AtK) w (u4.setCell ⟨q, 8, none⟩ (.string y4)) 5 s4 fb (fb + 1) (fb + 2) q (.iface 87 (.agg #[])) (rqC r) [.int .i64 17, .string y1, .int .i64 0, .int .i64 0, .int .i64 0, .int .i64 0, .string y2, .string y3, .string y4, .int .i64 0, .int .i64 0, .int .i64 0, .int .i64 0, .int .i64 0, .int .i64 0, .int .i64 0, .int .i64 0, .int .i64 0]) := hF.put1 8 (.string y4) (by simp)
  clear hF hA hK hfc hsc
  have hfc := HF4.out.fc
  have hsc := HF4.out.scell (j := 9) (v := .int .i64 r.p1) rfl
  dsimp only
  go_wp2_with fail
  generalize u4.setCell ⟨q, 8, none⟩ (.string y4) = v4 at *
  clear hc4 hf4
  refine (knumc r.p1 (by omega) HF4.out.st).mono ?_
  rintro e u5 ⟨rfl, hA, hK⟩
  rw [H5.out] at hA ⊢
  have hF := HF4.out.call hK (fun _ _ => trivial) hA
  have hc5 := hF.cell (j := 9) rfl
  have hf5 := hF.fz (j := 9) (by simp)
  have HF5 : Hid (Fs (fun x => x < fb) (AtK) w (u5.setCell ⟨q, 9, none⟩ (.int .i64 y5)) 6 s5 fb (fb + 1) (fb + 2) q (.iface 87 (.agg #[])) (rqC r) [.int .i64 17, .string y1, .int .i64 0, .int .i64 0, .int .i64 0, .int .i64 0, .string y2, .string y3, .string y4, .int .i64 y5, .int .i64 0, .int .i64 0, .int .i64 0, .int .i64 0, .int .i64 0, .int .i64 0, .int .i64 0, .int .i64 0]) := hF.put1 9 (.int .i64 y5) (by simp)
  clear hF hA hK hfc hsc
  have hfc := HF5.out.fc
  have hsc : True := trivial
  dsimp only
  go_upto_region 24 with fail
  generalize u5.setCell ⟨q, 9, none⟩ (.int .i64 y5) = v5 at *
  clear hc5 hf5
  have HR : Hid (v5.rangeAt q 0 [.int .i64 17, .string y1, .int .i64 0, .int .i64 0, .int .i64 0, .int .i64 0, .string y2, .string y3, .string y4, .int .i64 y5, .int .i64 0, .int .i64 0, .int .i64 0, .int .i64 0, .int .i64 0, .int .i64 0, .int .i64 0, .int .i64 0]) := HF5.out.fl
  have HTq : Hid (v5.there (fb + 2) 0 18) := HF5.out.t2
  have hl18 : ([.int .i64 17, .string y1, .int .i64 0, .int .i64 0, .int .i64 0, .int .i64 0, .string y2, .string y3, .string y4, .int .i64 y5, .int .i64 0, .int .i64 0, .int .i64 0, .int .i64 0, .int .i64 0, .int .i64 0, .int .i64 0, .int .i64 0] : List Value).length = 18 := rfl
  have HOn : Hid (∀ v ∈ ([.int .i64 17, .string y1, .int .i64 0, .int .i64 0, .int .i64 0, .int .i64 0, .string y2, .string y3, .string y4, .int .i64 y5, .int .i64 0, .int .i64 0, .int .i64 0, .int .i64 0, .int .i64 0, .int .i64 0, .int .i64 0, .int .i64 0] : List Value), v.oneCell' = true) := by
    intro v hv
    simp only [List.mem_cons, List.not_mem_nil, or_false] at hv
    rcases hv with rfl | rfl | rfl | rfl | rfl | rfl | rfl | rfl | rfl | rfl | rfl | rfl | rfl | rfl | rfl | rfl | rfl | rfl <;> rfl
  have HR6 := hide (World.rangeAt_setCells_same v5 (fb + 2) 0 [.int .i64 17, .string y1, .int .i64 0, .int .i64 0, .int .i64 0, .int .i64 0, .string y2, .string y3, .string y4, .int .i64 y5, .int .i64 0, .int .i64 0, .int .i64 0, .int .i64 0, .int .i64 0, .int .i64 0, .int .i64 0, .int .i64 0] HTq.out)
  have HFin : Hid (Keep (fun _ => True) w (v5.setCells (fb + 2) 0 [.int .i64 17, .string y1, .int .i64 0, .int .i64 0, .int .i64 0, .int .i64 0, .string y2, .string y3, .string y4, .int .i64 y5, .int .i64 0, .int .i64 0, .int .i64 0, .int .i64 0, .int .i64 0, .int .i64 0, .int .i64 0, .int .i64 0])) := (HF5.out.kp.less (fun x hx _ => by have := HFb.out; omega)).setCells (.inr (by have := HFb.out; omega)) 0 _
  clear HF5
  generalize hcs : ([.int .i64 17, .string y1, .int .i64 0, .int .i64 0, .int .i64 0, .int .i64 0, .string y2, .string y3, .string y4, .int .i64 y5, .int .i64 0, .int .i64 0, .int .i64 0, .int .i64 0, .int .i64 0, .int .i64 0, .int .i64 0, .int .i64 0] : List Value) = cs at *
  go_wp2_with (first | ((with_reducible refine load_sz 25 18 sz25 _ q 0 cs hl18 ?_ HR.out ?_); rfl) | ((with_reducible refine store_sz 25 18 sz25 _ _ (fb + 2) 0 cs hl18 HOn.out ?_ ?_ HTq.out ?_); rfl; rfl) | fail)
  refine bodyPost_ret (v := .agg cs.toArray) (results_sz sz25 Try.results24 hl18 rfl HR6.out) rfl ⟨?_, HFin.out⟩
  rw [← hcs]
  rfl

set_option maxRecDepth 100000 in
set_option maxHeartbeats 6400000 in
theorem reqk18 {w : World} {s : Sx} (r : Rq) (hr : r.Ok) (hk : (kpC.kind s r.k).2 = 18) (_h : AtK 0 w s) :
    Calls Try.prog 24 #[.agg #[.iface 87 (.agg #[])], .agg #[.int .i64 r.k, .string r.key, .int .i64 r.id, .int .i64 r.n, .int .i64 r.ttl, .int .i64 r.o, .string r.nm, .string r.sec, .string r.pn, .int .i64 r.p1, .int .i64 r.p2, .int .i64 r.p3, .int .i64 r.p4, .int .i64 r.p5, .int .i64 r.p6, .int .i64 r.p7, .int .i64 r.p8, .int .i64 r.p9]] w fun e w' => e = .returned (.agg (rqC (reqS kpC s r).2).toArray) ∧ Keep (fun _ => True) w w' := by
  obtain ⟨hr1, hr2, hr3, hr4⟩ := hr
  obtain ⟨⟨s0, k0⟩, h0⟩ : ∃ T, kpC.kind s r.k = T := ⟨_, rfl⟩
  rw [h0] at hk
  obtain rfl : k0 = 18 := hk
  obtain ⟨⟨s1, y1⟩, h1⟩ : ∃ T, kpC.text s0 r.key = T := ⟨_, rfl⟩
  obtain ⟨⟨s2, y2⟩, h2⟩ : ∃ T, kpC.text s1 r.nm = T := ⟨_, rfl⟩
  obtain ⟨⟨s3, y3⟩, h3⟩ : ∃ T, kpC.text s2 r.pn = T := ⟨_, rfl⟩
  obtain ⟨⟨s4, y4⟩, h4⟩ : ∃ T, kpC.num s3 r.p1 = T := ⟨_, rfl⟩
  have hS : reqS kpC s r = (s4, { Rq.zero with k := 18, key := y1, nm := y2, pn := y3, p1 := y4 }) := by
    unfold reqS reqK
    rw [h0]
    simp only [h1, h2, h3, h4]
    rfl
  have H0 := hide h0
  have H1 := hide h1
  have H2 := hide h2
  have H3 := hide h3
  have H4 := hide h4
  have HS := hide hS
  rw [HS.out]
  clear hS h0 h1 h2 h3 h4
  obtain ⟨T0, hT0, hK0, hsz, hfc, hsrc, ht2⟩ := box3 w (.iface 87 (.agg #[])) r
  have HT0 := hide hT0
  clear hT0
  have hA0 : AtK 0 T0 s := trivial
  have HC := hide (kkind r.k (by omega) hA0)
  rw [H0.out] at HC
  have HK0 := hide hK0
  have HZ := hide hsz
  have HFc := hide hfc
  have HSrc := hide hsrc
  have HT2 := hide ht2
  have hck : T0.cell? ⟨w.heap.size + 1, 0, none⟩ = some (.int .i64 r.k) := hsrc 0 (.int .i64 r.k) rfl
  clear hK0 hsz hsrc ht2 hA0
  generalize hfb : w.heap.size = fb at *
  go_enter Try.func24, Try.ntmps24
  go_wp2_with fail
  have HFb := hide hfb
  clear hfb
  rw [← HT0.out]
  clear HT0
  generalize T0 = w0 at *
  refine HC.out.mono ?_
  rintro e w1 ⟨rfl, hA, hK⟩
  have hz := HZ.out
  have hz1 := hK.size
  have b1 := hK.block fb (by omega) trivial
  have b2 := hK.block (fb + 1) (by omega) trivial
  have b3 := hK.block (fb + 2) (by omega) trivial
  have hKa : Keep (fun _ => True) w1 (w1.alloc (.cells #[.int .i64 0, .string { data := #[] }, .int .i64 0, .int .i64 0, .int .i64 0, .int .i64 0, .string { data := #[] }, .string { data := #[] }, .string { data := #[] }, .int .i64 0, .int .i64 0, .int .i64 0, .int .i64 0, .int .i64 0, .int .i64 0, .int .i64 0, .int .i64 0, .int .i64 0] 25)) := (Keep.refl _ w1).alloc _
  have hqsz : (w1.alloc (.cells #[.int .i64 0, .string { data := #[] }, .int .i64 0, .int .i64 0, .int .i64 0, .int .i64 0, .string { data := #[] }, .string { data := #[] }, .string { data := #[] }, .int .i64 0, .int .i64 0, .int .i64 0, .int .i64 0, .int .i64 0, .int .i64 0, .int .i64 0, .int .i64 0, .int .i64 0] 25)).heap.size = w1.heap.size + 1 := by simp
  have hthq : (w1.alloc (.cells #[.int .i64 0, .string { data := #[] }, .int .i64 0, .int .i64 0, .int .i64 0, .int .i64 0, .string { data := #[] }, .string { data := #[] }, .string { data := #[] }, .int .i64 0, .int .i64 0, .int .i64 0, .int .i64 0, .int .i64 0, .int .i64 0, .int .i64 0, .int .i64 0, .int .i64 0] 25)).there w1.heap.size 0 18 := there_new2 w1 #[.int .i64 0, .string { data := #[] }, .int .i64 0, .int .i64 0, .int .i64 0, .int .i64 0, .string { data := #[] }, .string { data := #[] }, .string { data := #[] }, .int .i64 0, .int .i64 0, .int .i64 0, .int .i64 0, .int .i64 0, .int .i64 0, .int .i64 0, .int .i64 0, .int .i64 0] 25
  have hrq : (w1.alloc (.cells #[.int .i64 0, .string { data := #[] }, .int .i64 0, .int .i64 0, .int .i64 0, .int .i64 0, .string { data := #[] }, .string { data := #[] }, .string { data := #[] }, .int .i64 0, .int .i64 0, .int .i64 0, .int .i64 0, .int .i64 0, .int .i64 0, .int .i64 0, .int .i64 0, .int .i64 0] 25)).rangeAt w1.heap.size 0 [.int .i64 0, .string { data := #[] }, .int .i64 0, .int .i64 0, .int .i64 0, .int .i64 0, .string { data := #[] }, .string { data := #[] }, .string { data := #[] }, .int .i64 0, .int .i64 0, .int .i64 0, .int .i64 0, .int .i64 0, .int .i64 0, .int .i64 0, .int .i64 0, .int .i64 0] := rng_new w1 _ #[.int .i64 0, .string { data := #[] }, .int .i64 0, .int .i64 0, .int .i64 0, .int .i64 0, .string { data := #[] }, .string { data := #[] }, .string { data := #[] }, .int .i64 0, .int .i64 0, .int .i64 0, .int .i64 0, .int .i64 0, .int .i64 0, .int .i64 0, .int .i64 0, .int .i64 0] 25 rfl
  have hA1 : AtK 1 (w1.alloc (.cells #[.int .i64 0, .string { data := #[] }, .int .i64 0, .int .i64 0, .int .i64 0, .int .i64 0, .string { data := #[] }, .string { data := #[] }, .string { data := #[] }, .int .i64 0, .int .i64 0, .int .i64 0, .int .i64 0, .int .i64 0, .int .i64 0, .int .i64 0, .int .i64 0, .int .i64 0] 25)) s0 := trivial
  have hF0 : Fs (fun x => x < fb) (AtK) w (w1.alloc (.cells #[.int .i64 0, .string { data := #[] }, .int .i64 0, .int .i64 0, .int .i64 0, .int .i64 0, .string { data := #[] }, .string { data := #[] }, .string { data := #[] }, .int .i64 0, .int .i64 0, .int .i64 0, .int .i64 0, .int .i64 0, .int .i64 0, .int .i64 0, .int .i64 0, .int .i64 0] 25)) 1 s0 fb (fb + 1) (fb + 2) w1.heap.size (.iface 87 (.agg #[])) (rqC r) [.int .i64 0, .string { data := #[] }, .int .i64 0, .int .i64 0, .int .i64 0, .int .i64 0, .string { data := #[] }, .string { data := #[] }, .string { data := #[] }, .int .i64 0, .int .i64 0, .int .i64 0, .int .i64 0, .int .i64 0, .int .i64 0, .int .i64 0, .int .i64 0, .int .i64 0] :=
    ⟨hA1, hrq, hthq, rangeAt_keep (rangeAt_keep HSrc.out b2) (hKa.block _ (by omega) trivial), (World.cell?_of_block (a := ⟨fb, 0, none⟩) ((hKa.block fb (by omega) trivial).trans b1)).trans HFc.out, there_blk (there_blk HT2.out b3) (hKa.block _ (by omega) trivial), ((HK0.out.less (fun _ _ _ => trivial)).trans (hK.less (fun _ _ _ => trivial))).trans (hKa.less (fun _ _ _ => trivial)), ⟨by omega, by omega, by omega, (fun k => by omega)⟩, ⟨by omega, by omega, by omega, by omega⟩, AtK.far⟩
  have HF0 := hide (hF0.puts 0 [.int .i64 18, .string { data := #[] }, .int .i64 0, .int .i64 0, .int .i64 0, .int .i64 0, .string { data := #[] }, .string { data := #[] }, .string { data := #[] }, .int .i64 0, .int .i64 0, .int .i64 0, .int .i64 0, .int .i64 0, .int .i64 0, .int .i64 0, .int .i64 0, .int .i64 0] (by decide))
  have hlz : ([.int .i64 18, .string { data := #[] }, .int .i64 0, .int .i64 0, .int .i64 0, .int .i64 0, .string { data := #[] }, .string { data := #[] }, .string { data := #[] }, .int .i64 0, .int .i64 0, .int .i64 0, .int .i64 0, .int .i64 0, .int .i64 0, .int .i64 0, .int .i64 0, .int .i64 0] : List Value).length = 18 := rfl
  have hone : ∀ v ∈ ([.int .i64 18, .string { data := #[] }, .int .i64 0, .int .i64 0, .int .i64 0, .int .i64 0, .string { data := #[] }, .string { data := #[] }, .string { data := #[] }, .int .i64 0, .int .i64 0, .int .i64 0, .int .i64 0, .int .i64 0, .int .i64 0, .int .i64 0, .int .i64 0, .int .i64 0] : List Value), v.oneCell' = true := by
    intro v hv
    simp only [List.mem_cons, List.not_mem_nil, or_false] at hv
    rcases hv with rfl | rfl | rfl | rfl | rfl | rfl | rfl | rfl | rfl | rfl | rfl | rfl | rfl | rfl | rfl | rfl | rfl | rfl <;> rfl
  have HThq := hide hthq
  have HOne := hide hone
  have HKw : Hid (Keep (fun _ => True) w w1) := (HK0.out.less (fun _ _ _ => trivial)).trans hK
  clear hthq hone hrq hA1 hF0 b1 b2 b3 hA hK hck hfc HC
  go_upto_region 2 with (first | ((with_reducible refine store_sz 25 18 sz25 _ _ w1.heap.size 0 [.int .i64 18, .string { data := #[] }, .int .i64 0, .int .i64 0, .int .i64 0, .int .i64 0, .string { data := #[] }, .string { data := #[] }, .string { data := #[] }, .int .i64 0, .int .i64 0, .int .i64 0, .int .i64 0, .int .i64 0, .int .i64 0, .int .i64 0, .int .i64 0, .int .i64 0] hlz HOne.out ?_ ?_ HThq.out ?_); rfl; rfl) | fail)
  generalize hq : w1.heap.size = q at *
  have HFa : Hid (Fs (fun x => x < fb) (AtK) w ((w1.alloc (.cells #[.int .i64 0, .string { data := #[] }, .int .i64 0, .int .i64 0, .int .i64 0, .int .i64 0, .string { data := #[] }, .string { data := #[] }, .string { data := #[] }, .int .i64 0, .int .i64 0, .int .i64 0, .int .i64 0, .int .i64 0, .int .i64 0, .int .i64 0, .int .i64 0, .int .i64 0] 25)).setCells q 0 [.int .i64 18, .string { data := #[] }, .int .i64 0, .int .i64 0, .int .i64 0, .int .i64 0, .string { data := #[] }, .string { data := #[] }, .string { data := #[] }, .int .i64 0, .int .i64 0, .int .i64 0, .int .i64 0, .int .i64 0, .int .i64 0, .int .i64 0, .int .i64 0, .int .i64 0]) 1 s0 fb (fb + 1) (fb + 2) q (.iface 87 (.agg #[])) (rqC r) [.int .i64 18, .string { data := #[] }, .int .i64 0, .int .i64 0, .int .i64 0, .int .i64 0, .string { data := #[] }, .string { data := #[] }, .string { data := #[] }, .int .i64 0, .int .i64 0, .int .i64 0, .int .i64 0, .int .i64 0, .int .i64 0, .int .i64 0, .int .i64 0, .int .i64 0]) := HF0.out
  have HQ : Hid (q < ((w1.alloc (.cells #[.int .i64 0, .string { data := #[] }, .int .i64 0, .int .i64 0, .int .i64 0, .int .i64 0, .string { data := #[] }, .string { data := #[] }, .string { data := #[] }, .int .i64 0, .int .i64 0, .int .i64 0, .int .i64 0, .int .i64 0, .int .i64 0, .int .i64 0, .int .i64 0, .int .i64 0] 25)).setCells q 0 [.int .i64 18, .string { data := #[] }, .int .i64 0, .int .i64 0, .int .i64 0, .int .i64 0, .string { data := #[] }, .string { data := #[] }, .string { data := #[] }, .int .i64 0, .int .i64 0, .int .i64 0, .int .i64 0, .int .i64 0, .int .i64 0, .int .i64 0, .int .i64 0, .int .i64 0]).heap.size) := HF0.out.lt.2.2.2
  clear HF0 hKa hqsz HThq HOne hlz
  generalize (w1.alloc (.cells #[.int .i64 0, .string { data := #[] }, .int .i64 0, .int .i64 0, .int .i64 0, .int .i64 0, .string { data := #[] }, .string { data := #[] }, .string { data := #[] }, .int .i64 0, .int .i64 0, .int .i64 0, .int .i64 0, .int .i64 0, .int .i64 0, .int .i64 0, .int .i64 0, .int .i64 0] 25)).setCells q 0 [.int .i64 18, .string { data := #[] }, .int .i64 0, .int .i64 0, .int .i64 0, .int .i64 0, .string { data := #[] }, .string { data := #[] }, .string { data := #[] }, .int .i64 0, .int .i64 0, .int .i64 0, .int .i64 0, .int .i64 0, .int .i64 0, .int .i64 0, .int .i64 0, .int .i64 0] = v0 at *
  have ck := HFa.out.cell (j := 0) rfl
  have hfc := HFa.out.fc
  have hsc := HFa.out.scell (j := 1) (v := .string r.key) rfl
  go_wp2_with (first | (go_at_call 40; refine (fof18 _).mono ?_; rintro e w' ⟨rfl, rfl⟩) | fail)
  refine (ktextc r.key hr1 (by omega) HFa.out.st).mono ?_
  rintro e u1 ⟨rfl, hA, hK⟩
  rw [H1.out] at hA ⊢
  have hF := HFa.out.call hK (fun _ _ => trivial) hA
  have hc1 := hF.cell (j := 1) rfl
  have hf1 := hF.fz (j := 1) (by simp)
  have HF1 : Hid (Fs (fun x => x < fb) (AtK) w (u1.setCell ⟨q, 1, none⟩ (.string y1)) 2 s1 fb (fb + 1) (fb + 2) q (.iface 87 (.agg #[])) (rqC r) [.int .i64 18, .string y1, .int .i64 0, .int .i64 0, .int .i64 0, .int .i64 0, .string { data := #[] }, .string { data := #[] }, .string { data := #[] }, .int .i64 0, .int .i64 0, .int .i64 0, .int .i64 0, .int .i64 0, .int .i64 0, .int .i64 0, .int .i64 0, .int .i64 0]) := hF.put1 1 (.string y1) (by simp)
  clear hF hA hK hfc hsc
  have hfc := HF1.out.fc
  have hsc := HF1.out.scell (j := 6) (v := .string r.nm) rfl
  dsimp only
  go_wp2_with fail
  generalize u1.setCell ⟨q, 1, none⟩ (.string y1) = v1 at *
  clear hc1 hf1
  refine (ktextc r.nm hr2 (by omega) HF1.out.st).mono ?_
  rintro e u2 ⟨rfl, hA, hK⟩
  rw [H2.out] at hA ⊢
  have hF := HF1.out.call hK (fun _ _ => trivial) hA
  have hc2 := hF.cell (j := 6) rfl
  have hf2 := hF.fz (j := 6) (by simp)
  have HF2 : Hid (Fs (fun x => x < fb) (AtK) w (u2.setCell ⟨q, 6, none⟩ (.string y2)) 3 s2 fb (fb + 1) (fb + 2) q (.iface 87 (.agg #[])) (rqC r) [.int .i64 18, .string y1, .int .i64 0, .int .i64 0, .int .i64 0, .int .i64 0, .string y2, .string { data := #[] }, .string { data := #[] }, .int .i64 0, .int .i64 0, .int .i64 0, .int .i64 0, .int .i64 0, .int .i64 0, .int .i64 0, .int .i64 0, .int .i64 0]) := hF.put1 6 (.string y2) (by simp)
  clear hF hA hK hfc hsc
  have hfc := HF2.out.fc
  have hsc := HF2.out.scell (j := 8) (v := .string r.pn) rfl
  dsimp only
  go_wp2_with fail
  generalize u2.setCell ⟨q, 6, none⟩ (.string y2) = v2 at *
  clear hc2 hf2
  refine (ktextc r.pn hr4 (by omega) HF2.out.st).mono ?_
  rintro e u3 ⟨rfl, hA, hK⟩
  rw [H3.out] at hA ⊢
  have hF := HF2.out.call hK (fun _ _ => trivial) hA
  have hc3 := hF.cell (j := 8) rfl
  have hf3 := hF.fz (j := 8) (by simp)
  have HF3 : Hid (Fs (fun x => x < fb) (AtK) w (u3.setCell ⟨q, 8, none⟩ (.string y3)) 4 s3 fb (fb + 1) (fb + 2) q (.iface 87 (.agg #[])) (rqC r) [.int .i64 18, .string y1, .int .i64 0, .int .i64 0, .int .i64 0, .int .i64 0, .string y2, .string { data := #[] }, .string y3, .int .i64 0, .int .i64 0, .int .i64 0, .int .i64 0, .int .i64 0, .int .i64 0, .int .i64 0, .int .i64 0, .int .i64 0]) := hF.put1 8 (.string y3) (by simp)
  clear hF hA hK hfc hsc
  have hfc := HF3.out.fc
  have hsc := HF3.out.scell (j := 9) (v := .int .i64 r.p1) rfl
  dsimp only
  go_wp2_with fail
  generalize u3.setCell ⟨q, 8, none⟩ (.string y3) = v3 at *
  clear hc3 hf3
  refine (knumc r.p1 (by omega) HF3.out.st).mono ?_
  rintro e u4 ⟨rfl, hA, hK⟩
  rw [H4.out] at hA ⊢
  have hF := HF3.out.call hK (fun _ _ => trivial) hA
  have hc4 := hF.cell (j := 9) rfl
  have hf4 := hF.fz (j := 9) (by simp)
  have HF4 : Hid (Fs (fun x => x < fb) (AtK) w (u4.setCell ⟨q, 9, none⟩ (.int .i64 y4)) 5 s4 fb (fb + 1) (fb + 2) q (.iface 87 (.agg #[])) (rqC r) [.int .i64 18, .string y1, .int .i64 0, .int .i64 0, .int .i64 0, .int .i64 0, .string y2, .string { data := #[] }, .string y3, .int .i64 y4, .int .i64 0, .int .i64 0, .int .i64 0, .int .i64 0, .int .i64 0, .int .i64 0, .int .i64 0, .int .i64 0]) := hF.put1 9 (.int .i64 y4) (by simp)
  clear hF hA hK hfc hsc
  have hfc := HF4.out.fc
  have hsc : True := trivial
  dsimp only
  go_upto_region 24 with fail
  generalize u4.setCell ⟨q, 9, none⟩ (.int .i64 y4) = v4 at *
  clear hc4 hf4
  have HR : Hid (v4.rangeAt q 0 [.int .i64 18, .string y1, .int .i64 0, .int .i64 0, .int .i64 0, .int .i64 0, .string y2, .string { data := #[] }, .string y3, .int .i64 y4, .int .i64 0, .int .i64 0, .int .i64 0, .int .i64 0, .int .i64 0, .int .i64 0, .int .i64 0, .int .i64 0]) := HF4.out.fl
  have HTq : Hid (v4.there (fb + 2) 0 18) := HF4.out.t2
  have hl18 : ([.int .i64 18, .string y1, .int .i64 0, .int .i64 0, .int .i64 0, .int .i64 0, .string y2, .string { data := #[] }, .string y3, .int .i64 y4, .int .i64 0, .int .i64 0, .int .i64 0, .int .i64 0, .int .i64 0, .int .i64 0, .int .i64 0, .int .i64 0] : List Value).length = 18 := rfl
  have HOn : Hid (∀ v ∈ ([.int .i64 18, .string y1, .int .i64 0, .int .i64 0, .int .i64 0, .int .i64 0, .string y2, .string { data := #[] }, .string y3, .int .i64 y4, .int .i64 0, .int .i64 0, .int .i64 0, .int .i64 0, .int .i64 0, .int .i64 0, .int .i64 0, .int .i64 0] : List Value), v.oneCell' = true) := by
    intro v hv
    simp only [List.mem_cons, List.not_mem_nil, or_false] at hv
    rcases hv with rfl | rfl | rfl | rfl | rfl | rfl | rfl | rfl | rfl | rfl | rfl | rfl | rfl | rfl | rfl | rfl | rfl | rfl <;> rfl
  have HR6 := hide (World.rangeAt_setCells_same v4 (fb + 2) 0 [.int .i64 18, .string y1, .int .i64 0, .int .i64 0, .int .i64 0, .int .i64 0, .string y2, .string { data := #[] }, .string y3, .int .i64 y4, .int .i64 0, .int .i64 0, .int .i64 0, .int .i64 0, .int .i64 0, .int .i64 0, .int .i64 0, .int .i64 0] HTq.out)
  have HFin : Hid (Keep (fun _ => True) w (v4.setCells (fb + 2) 0 [.int .i64 18, .string y1, .int .i64 0, .int .i64 0, .int .i64 0, .int .i64 0, .string y2, .string { data := #[] }, .string y3, .int .i64 y4, .int .i64 0, .int .i64 0, .int .i64 0, .int .i64 0, .int .i64 0, .int .i64 0, .int .i64 0, .int .i64 0])) := (HF4.out.kp.less (fun x hx _ => by have := HFb.out; omega)).setCells (.inr (by have := HFb.out; omega)) 0 _
  clear HF4
  generalize hcs : ([.int .i64 18, .string y1, .int .i64 0, .int .i64 0, .int .i64 0, .int .i64 0, .string y2, .string { data := #[] }, .string y3, .int .i64 y4, .int .i64 0, .int .i64 0, .int .i64 0, .int .i64 0, .int .i64 0, .int .i64 0, .int .i64 0, .int .i64 0] : List Value) = cs at *
  go_wp2_with (first | ((with_reducible refine load_sz 25 18 sz25 _ q 0 cs hl18 ?_ HR.out ?_); rfl) | ((with_reducible refine store_sz 25 18 sz25 _ _ (fb + 2) 0 cs hl18 HOn.out ?_ ?_ HTq.out ?_); rfl; rfl) | fail)
  refine bodyPost_ret (v := .agg cs.toArray) (results_sz sz25 Try.results24 hl18 rfl HR6.out) rfl ⟨?_, HFin.out⟩
  rw [← hcs]
  rfl

end Go.Proofs.Ytkbboingeacgjaa
