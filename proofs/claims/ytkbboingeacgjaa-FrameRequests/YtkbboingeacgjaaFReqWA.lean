/-
  fields.request of the frame, walked: carrier w.
-/
import Derived.Test.YtkbboingeacgjaaFOf
import Derived.Deep.Cut
namespace Go.Proofs.Ytkbboingeacgjaa
open Go.RowKit

set_option maxRecDepth 100000 in
set_option maxHeartbeats 6400000 in
theorem reqw5 {O : Nat → Prop} {b : Nat} {w : World} {s : Sx} (r : Rq) (hr : r.Ok) (hk : (wrC.kind s r.k).2 = 5) (h : AtW O b 0 w s) :
    Calls Try.prog 24 #[.agg #[.iface 58 (.pointer (some ⟨b, 0, none⟩))], .agg #[.int .i64 r.k, .string r.key, .int .i64 r.id, .int .i64 r.n, .int .i64 r.ttl, .int .i64 r.o, .string r.nm, .string r.sec, .string r.pn, .int .i64 r.p1, .int .i64 r.p2, .int .i64 r.p3, .int .i64 r.p4, .int .i64 r.p5, .int .i64 r.p6, .int .i64 r.p7, .int .i64 r.p8, .int .i64 r.p9]] w fun e w' => e = .returned (.agg (rqC (reqS wrC s r).2).toArray) ∧ AtW O b 99 w' (reqS wrC s r).1 ∧ Keep O w w' := by
  obtain ⟨hr1, hr2, hr3, hr4⟩ := hr
  obtain ⟨⟨s0, k0⟩, h0⟩ : ∃ T, wrC.kind s r.k = T := ⟨_, rfl⟩
  rw [h0] at hk
  obtain rfl : k0 = 5 := hk
  obtain ⟨⟨s1, y1⟩, h1⟩ : ∃ T, wrC.text s0 r.key = T := ⟨_, rfl⟩
  have hS : reqS wrC s r = (s1, { Rq.zero with k := 5, key := y1 }) := by
    unfold reqS reqK
    rw [h0]
    simp only [h1]
    rfl
  have H0 := hide h0
  have H1 := hide h1
  have HS := hide hS
  rw [HS.out]
  clear hS h0 h1
  obtain ⟨T0, hT0, hK0, hsz, hfc, hsrc, ht2⟩ := box3 w (.iface 58 (.pointer (some ⟨b, 0, none⟩))) r
  have HT0 := hide hT0
  clear hT0
  have hA0 : AtW (fun x => O x ∨ x = w.heap.size ∨ x = w.heap.size + 1 ∨ x = w.heap.size + 2) b 0 T0 s := ⟨h.1.more hK0 (fun x hx => by
    rcases hx with hx | hx
    · exact .inl hx
    · exact .inr (by rw [hsz]; omega)), h.2⟩
  have HLt : Hid (∀ x, O x → x < w.heap.size) := h.1.lt
  have HC := hide (wkind r.k (by omega) hA0)
  rw [H0.out] at HC
  have HK0 := hide hK0
  have HZ := hide hsz
  have HFc := hide hfc
  have HSrc := hide hsrc
  have HT2 := hide ht2
  have hck : T0.cell? ⟨w.heap.size + 1, 0, none⟩ = some (.int .i64 r.k) := hsrc 0 (.int .i64 r.k) rfl
  clear hK0 hsz hsrc ht2 hA0 h
  generalize hfb : w.heap.size = fb at *
  go_enter Try.func24, Try.ntmps24
  go_wp2_with fail
  have HFb := hide hfb
  clear hfb
  rw [← HT0.out]
  clear HT0
  generalize T0 = w0 at *
  refine HC.out.mono ?_
  rintro e w1 ⟨rfl, hA, hK⟩
  have hz := HZ.out
  have hz1 := hK.size
  have b1 := hK.block fb (by omega) (.inr (.inl rfl))
  have b2 := hK.block (fb + 1) (by omega) (.inr (.inr (.inl rfl)))
  have b3 := hK.block (fb + 2) (by omega) (.inr (.inr (.inr rfl)))
  have hKa : Keep (fun _ => True) w1 (w1.alloc (.cells #[.int .i64 0, .string { data := #[] }, .int .i64 0, .int .i64 0, .int .i64 0, .int .i64 0, .string { data := #[] }, .string { data := #[] }, .string { data := #[] }, .int .i64 0, .int .i64 0, .int .i64 0, .int .i64 0, .int .i64 0, .int .i64 0, .int .i64 0, .int .i64 0, .int .i64 0] 25)) := (Keep.refl _ w1).alloc _
  have hqsz : (w1.alloc (.cells #[.int .i64 0, .string { data := #[] }, .int .i64 0, .int .i64 0, .int .i64 0, .int .i64 0, .string { data := #[] }, .string { data := #[] }, .string { data := #[] }, .int .i64 0, .int .i64 0, .int .i64 0, .int .i64 0, .int .i64 0, .int .i64 0, .int .i64 0, .int .i64 0, .int .i64 0] 25)).heap.size = w1.heap.size + 1 := by simp
  have hthq : (w1.alloc (.cells #[.int .i64 0, .string { data := #[] }, .int .i64 0, .int .i64 0, .int .i64 0, .int .i64 0, .string { data := #[] }, .string { data := #[] }, .string { data := #[] }, .int .i64 0, .int .i64 0, .int .i64 0, .int .i64 0, .int .i64 0, .int .i64 0, .int .i64 0, .int .i64 0, .int .i64 0] 25)).there w1.heap.size 0 18 := there_new2 w1 #[.int .i64 0, .string { data := #[] }, .int .i64 0, .int .i64 0, .int .i64 0, .int .i64 0, .string { data := #[] }, .string { data := #[] }, .string { data := #[] }, .int .i64 0, .int .i64 0, .int .i64 0, .int .i64 0, .int .i64 0, .int .i64 0, .int .i64 0, .int .i64 0, .int .i64 0] 25
  have hrq : (w1.alloc (.cells #[.int .i64 0, .string { data := #[] }, .int .i64 0, .int .i64 0, .int .i64 0, .int .i64 0, .string { data := #[] }, .string { data := #[] }, .string { data := #[] }, .int .i64 0, .int .i64 0, .int .i64 0, .int .i64 0, .int .i64 0, .int .i64 0, .int .i64 0, .int .i64 0, .int .i64 0] 25)).rangeAt w1.heap.size 0 [.int .i64 0, .string { data := #[] }, .int .i64 0, .int .i64 0, .int .i64 0, .int .i64 0, .string { data := #[] }, .string { data := #[] }, .string { data := #[] }, .int .i64 0, .int .i64 0, .int .i64 0, .int .i64 0, .int .i64 0, .int .i64 0, .int .i64 0, .int .i64 0, .int .i64 0] := rng_new w1 _ #[.int .i64 0, .string { data := #[] }, .int .i64 0, .int .i64 0, .int .i64 0, .int .i64 0, .string { data := #[] }, .string { data := #[] }, .string { data := #[] }, .int .i64 0, .int .i64 0, .int .i64 0, .int .i64 0, .int .i64 0, .int .i64 0, .int .i64 0, .int .i64 0, .int .i64 0] 25 rfl
  have hA1 : AtW (fun x => O x ∨ x = fb ∨ x = fb + 1 ∨ x = fb + 2 ∨ x = w1.heap.size) b 1 (w1.alloc (.cells #[.int .i64 0, .string { data := #[] }, .int .i64 0, .int .i64 0, .int .i64 0, .int .i64 0, .string { data := #[] }, .string { data := #[] }, .string { data := #[] }, .int .i64 0, .int .i64 0, .int .i64 0, .int .i64 0, .int .i64 0, .int .i64 0, .int .i64 0, .int .i64 0, .int .i64 0] 25)) s0 := ⟨hA.1.more hKa (fun x hx => by
    rcases hx with hx | hx | hx | hx | hx
    · exact .inl (.inl hx)
    · exact .inl (.inr (.inl hx))
    · exact .inl (.inr (.inr (.inl hx)))
    · exact .inl (.inr (.inr (.inr hx)))
    · exact .inr (by rw [hqsz]; omega)), hA.2⟩
  have hF0 : Fs O (AtW (fun x => O x ∨ x = fb ∨ x = fb + 1 ∨ x = fb + 2 ∨ x = w1.heap.size) b) w (w1.alloc (.cells #[.int .i64 0, .string { data := #[] }, .int .i64 0, .int .i64 0, .int .i64 0, .int .i64 0, .string { data := #[] }, .string { data := #[] }, .string { data := #[] }, .int .i64 0, .int .i64 0, .int .i64 0, .int .i64 0, .int .i64 0, .int .i64 0, .int .i64 0, .int .i64 0, .int .i64 0] 25)) 1 s0 fb (fb + 1) (fb + 2) w1.heap.size (.iface 58 (.pointer (some ⟨b, 0, none⟩))) (rqC r) [.int .i64 0, .string { data := #[] }, .int .i64 0, .int .i64 0, .int .i64 0, .int .i64 0, .string { data := #[] }, .string { data := #[] }, .string { data := #[] }, .int .i64 0, .int .i64 0, .int .i64 0, .int .i64 0, .int .i64 0, .int .i64 0, .int .i64 0, .int .i64 0, .int .i64 0] :=
    ⟨hA1, hrq, hthq, rangeAt_keep (rangeAt_keep HSrc.out b2) (hKa.block _ (by omega) trivial), (World.cell?_of_block (a := ⟨fb, 0, none⟩) ((hKa.block fb (by omega) trivial).trans b1)).trans HFc.out, there_blk (there_blk HT2.out b3) (hKa.block _ (by omega) trivial), ((HK0.out.less (fun _ _ _ => trivial)).trans (hK.less (fun x _ hx => .inl hx))).trans (hKa.less (fun _ _ _ => trivial)), ⟨by omega, by omega, by omega, (fun k => by have := HLt.out _ k; omega)⟩, ⟨by omega, by omega, by omega, by omega⟩, AtW.far (.inr (.inr (.inr (.inr rfl))))⟩
  have HF0 := hide (hF0.puts 0 [.int .i64 5, .string { data := #[] }, .int .i64 0, .int .i64 0, .int .i64 0, .int .i64 0, .string { data := #[] }, .string { data := #[] }, .string { data := #[] }, .int .i64 0, .int .i64 0, .int .i64 0, .int .i64 0, .int .i64 0, .int .i64 0, .int .i64 0, .int .i64 0, .int .i64 0] (by decide))
  have hlz : ([.int .i64 5, .string { data := #[] }, .int .i64 0, .int .i64 0, .int .i64 0, .int .i64 0, .string { data := #[] }, .string { data := #[] }, .string { data := #[] }, .int .i64 0, .int .i64 0, .int .i64 0, .int .i64 0, .int .i64 0, .int .i64 0, .int .i64 0, .int .i64 0, .int .i64 0] : List Value).length = 18 := rfl
  have hone : ∀ v ∈ ([.int .i64 5, .string { data := #[] }, .int .i64 0, .int .i64 0, .int .i64 0, .int .i64 0, .string { data := #[] }, .string { data := #[] }, .string { data := #[] }, .int .i64 0, .int .i64 0, .int .i64 0, .int .i64 0, .int .i64 0, .int .i64 0, .int .i64 0, .int .i64 0, .int .i64 0] : List Value), v.oneCell' = true := by
    intro v hv
    simp only [List.mem_cons, List.not_mem_nil, or_false] at hv
    rcases hv with rfl | rfl | rfl | rfl | rfl | rfl | rfl | rfl | rfl | rfl | rfl | rfl | rfl | rfl | rfl | rfl | rfl | rfl <;> rfl
  have HThq := hide hthq
  have HOne := hide hone
  have HKw : Hid (Keep (fun x => O x ∨ x = fb ∨ x = fb + 1 ∨ x = fb + 2) w w1) := (HK0.out.less (fun _ _ _ => trivial)).trans hK
  clear hthq hone hrq hA1 hF0 b1 b2 b3 hA hK hck hfc HC
  go_upto_region 2 with (first | ((with_reducible refine store_sz 25 18 sz25 _ _ w1.heap.size 0 [.int .i64 5, .string { data := #[] }, .int .i64 0, .int .i64 0, .int .i64 0, .int .i64 0, .string { data := #[] }, .string { data := #[] }, .string { data := #[] }, .int .i64 0, .int .i64 0, .int .i64 0, .int .i64 0, .int .i64 0, .int .i64 0, .int .i64 0, .int .i64 0, .int .i64 0] hlz HOne.out ?_ ?_ HThq.out ?_); rfl; rfl) | fail)
  generalize hq : w1.heap.size = q at *
  have HFa : Hid (Fs O (AtW (fun x => O x ∨ x = fb ∨ x = fb + 1 ∨ x = fb + 2 ∨ x = q) b) w ((w1.alloc (.cells #[.int .i64 0, .string { data := #[] }, .int .i64 0, .int .i64 0, .int .i64 0, .int .i64 0, .string { data := #[] }, .string { data := #[] }, .string { data := #[] }, .int .i64 0, .int .i64 0, .int .i64 0, .int .i64 0, .int .i64 0, .int .i64 0, .int .i64 0, .int .i64 0, .int .i64 0] 25)).setCells q 0 [.int .i64 5, .string { data := #[] }, .int .i64 0, .int .i64 0, .int .i64 0, .int .i64 0, .string { data := #[] }, .string { data := #[] }, .string { data := #[] }, .int .i64 0, .int .i64 0, .int .i64 0, .int .i64 0, .int .i64 0, .int .i64 0, .int .i64 0, .int .i64 0, .int .i64 0]) 1 s0 fb (fb + 1) (fb + 2) q (.iface 58 (.pointer (some ⟨b, 0, none⟩))) (rqC r) [.int .i64 5, .string { data := #[] }, .int .i64 0, .int .i64 0, .int .i64 0, .int .i64 0, .string { data := #[] }, .string { data := #[] }, .string { data := #[] }, .int .i64 0, .int .i64 0, .int .i64 0, .int .i64 0, .int .i64 0, .int .i64 0, .int .i64 0, .int .i64 0, .int .i64 0]) := HF0.out
  have HQ : Hid (q < ((w1.alloc (.cells #[.int .i64 0, .string { data := #[] }, .int .i64 0, .int .i64 0, .int .i64 0, .int .i64 0, .string { data := #[] }, .string { data := #[] }, .string { data := #[] }, .int .i64 0, .int .i64 0, .int .i64 0, .int .i64 0, .int .i64 0, .int .i64 0, .int .i64 0, .int .i64 0, .int .i64 0] 25)).setCells q 0 [.int .i64 5, .string { data := #[] }, .int .i64 0, .int .i64 0, .int .i64 0, .int .i64 0, .string { data := #[] }, .string { data := #[] }, .string { data := #[] }, .int .i64 0, .int .i64 0, .int .i64 0, .int .i64 0, .int .i64 0, .int .i64 0, .int .i64 0, .int .i64 0, .int .i64 0]).heap.size) := HF0.out.lt.2.2.2
  clear HF0 hKa hqsz HThq HOne hlz
  generalize (w1.alloc (.cells #[.int .i64 0, .string { data := #[] }, .int .i64 0, .int .i64 0, .int .i64 0, .int .i64 0, .string { data := #[] }, .string { data := #[] }, .string { data := #[] }, .int .i64 0, .int .i64 0, .int .i64 0, .int .i64 0, .int .i64 0, .int .i64 0, .int .i64 0, .int .i64 0, .int .i64 0] 25)).setCells q 0 [.int .i64 5, .string { data := #[] }, .int .i64 0, .int .i64 0, .int .i64 0, .int .i64 0, .string { data := #[] }, .string { data := #[] }, .string { data := #[] }, .int .i64 0, .int .i64 0, .int .i64 0, .int .i64 0, .int .i64 0, .int .i64 0, .int .i64 0, .int .i64 0, .int .i64 0] = v0 at *
  have ck := HFa.out.cell (j := 0) rfl
  have hfc := HFa.out.fc
  have hsc := HFa.out.scell (j := 1) (v := .string r.key) rfl
  go_wp2_with (first | (go_at_call 40; refine (fof5 _).mono ?_; rintro e w' ⟨rfl, rfl⟩) | fail)
  refine (wtextc r.key hr1 (by omega) HFa.out.st).mono ?_
  rintro e u1 ⟨rfl, hA, hK⟩
  rw [H1.out] at hA ⊢
  have hF := HFa.out.call hK (fun x hx => by rcases hx with h | h | h | h | h <;> simp [h]) hA
  have hc1 := hF.cell (j := 1) rfl
  have hf1 := hF.fz (j := 1) (by simp)
  have HF1 : Hid (Fs O (AtW (fun x => O x ∨ x = fb ∨ x = fb + 1 ∨ x = fb + 2 ∨ x = q) b) w (u1.setCell ⟨q, 1, none⟩ (.string y1)) 2 s1 fb (fb + 1) (fb + 2) q (.iface 58 (.pointer (some ⟨b, 0, none⟩))) (rqC r) [.int .i64 5, .string y1, .int .i64 0, .int .i64 0, .int .i64 0, .int .i64 0, .string { data := #[] }, .string { data := #[] }, .string { data := #[] }, .int .i64 0, .int .i64 0, .int .i64 0, .int .i64 0, .int .i64 0, .int .i64 0, .int .i64 0, .int .i64 0, .int .i64 0]) := hF.put1 1 (.string y1) (by simp)
  clear hF hA hK hfc hsc
  have hfc := HF1.out.fc
  have hsc : True := trivial
  dsimp only
  go_upto_region 24 with fail
  generalize u1.setCell ⟨q, 1, none⟩ (.string y1) = v1 at *
  clear hc1 hf1
  have HR : Hid (v1.rangeAt q 0 [.int .i64 5, .string y1, .int .i64 0, .int .i64 0, .int .i64 0, .int .i64 0, .string { data := #[] }, .string { data := #[] }, .string { data := #[] }, .int .i64 0, .int .i64 0, .int .i64 0, .int .i64 0, .int .i64 0, .int .i64 0, .int .i64 0, .int .i64 0, .int .i64 0]) := HF1.out.fl
  have HTq : Hid (v1.there (fb + 2) 0 18) := HF1.out.t2
  have hl18 : ([.int .i64 5, .string y1, .int .i64 0, .int .i64 0, .int .i64 0, .int .i64 0, .string { data := #[] }, .string { data := #[] }, .string { data := #[] }, .int .i64 0, .int .i64 0, .int .i64 0, .int .i64 0, .int .i64 0, .int .i64 0, .int .i64 0, .int .i64 0, .int .i64 0] : List Value).length = 18 := rfl
  have HOn : Hid (∀ v ∈ ([.int .i64 5, .string y1, .int .i64 0, .int .i64 0, .int .i64 0, .int .i64 0, .string { data := #[] }, .string { data := #[] }, .string { data := #[] }, .int .i64 0, .int .i64 0, .int .i64 0, .int .i64 0, .int .i64 0, .int .i64 0, .int .i64 0, .int .i64 0, .int .i64 0] : List Value), v.oneCell' = true) := by
    intro v hv
    simp only [List.mem_cons, List.not_mem_nil, or_false] at hv
    rcases hv with rfl | rfl | rfl | rfl | rfl | rfl | rfl | rfl | rfl | rfl | rfl | rfl | rfl | rfl | rfl | rfl | rfl | rfl <;> rfl
  have HR6 := hide (World.rangeAt_setCells_same v1 (fb + 2) 0 [.int .i64 5, .string y1, .int .i64 0, .int .i64 0, .int .i64 0, .int .i64 0, .string { data := #[] }, .string { data := #[] }, .string { data := #[] }, .int .i64 0, .int .i64 0, .int .i64 0, .int .i64 0, .int .i64 0, .int .i64 0, .int .i64 0, .int .i64 0, .int .i64 0] HTq.out)
  have HFin : Hid (AtW O b 99 (v1.setCells (fb + 2) 0 [.int .i64 5, .string y1, .int .i64 0, .int .i64 0, .int .i64 0, .int .i64 0, .string { data := #[] }, .string { data := #[] }, .string { data := #[] }, .int .i64 0, .int .i64 0, .int .i64 0, .int .i64 0, .int .i64 0, .int .i64 0, .int .i64 0, .int .i64 0, .int .i64 0]) s1 ∧ Keep O w (v1.setCells (fb + 2) 0 [.int .i64 5, .string y1, .int .i64 0, .int .i64 0, .int .i64 0, .int .i64 0, .string { data := #[] }, .string { data := #[] }, .string { data := #[] }, .int .i64 0, .int .i64 0, .int .i64 0, .int .i64 0, .int .i64 0, .int .i64 0, .int .i64 0, .int .i64 0, .int .i64 0])) := by
    have h1 := HF1.out.st
    exact ⟨⟨(h1.1.far (.inr (.inr (.inr (.inl rfl)))) 0 _).less (fun x hx => .inl hx), by have := h1.2; omega⟩, HF1.out.kp.setCells (.inr (by have := HFb.out; omega)) 0 _⟩
  clear HF1
  generalize hcs : ([.int .i64 5, .string y1, .int .i64 0, .int .i64 0, .int .i64 0, .int .i64 0, .string { data := #[] }, .string { data := #[] }, .string { data := #[] }, .int .i64 0, .int .i64 0, .int .i64 0, .int .i64 0, .int .i64 0, .int .i64 0, .int .i64 0, .int .i64 0, .int .i64 0] : List Value) = cs at *
  go_wp2_with (first | ((with_reducible refine load_sz 25 18 sz25 _ q 0 cs hl18 ?_ HR.out ?_); rfl) | ((with_reducible refine store_sz 25 18 sz25 _ _ (fb + 2) 0 cs hl18 HOn.out ?_ ?_ HTq.out ?_); rfl; rfl) | fail)
  refine bodyPost_ret (v := .agg cs.toArray) (results_sz sz25 Try.results24 hl18 rfl HR6.out) rfl ⟨?_, HFin.out⟩
  rw [← hcs]
  rfl

set_option maxRecDepth 100000 in
set_option maxHeartbeats 6400000 in
theorem reqw1 {O : Nat → Prop} {b : Nat} {w : World} {s : Sx} (r : Rq) (hr : r.Ok) (hk : (wrC.kind s r.k).2 = 1) (h : AtW O b 0 w s) :
    Calls Try.prog 24 #[.agg #[.iface 58 (.pointer (some ⟨b, 0, none⟩))], .agg #[.int .i64 r.k, .string r.key, .int .i64 r.id, .int .i64 r.n, .int .i64 r.ttl, .int .i64 r.o, .string r.nm, .string r.sec, .string r.pn, .int .i64 r.p1, .int .i64 r.p2, .int .i64 r.p3, .int .i64 r.p4, .int .i64 r.p5, .int .i64 r.p6, .int .i64 r.p7, .int .i64 r.p8, .int .i64 r.p9]] w fun e w' => e = .returned (.agg (rqC (reqS wrC s r).2).toArray) ∧ AtW O b 99 w' (reqS wrC s r).1 ∧ Keep O w w' := by
  obtain ⟨hr1, hr2, hr3, hr4⟩ := hr
  obtain ⟨⟨s0, k0⟩, h0⟩ : ∃ T, wrC.kind s r.k = T := ⟨_, rfl⟩
  rw [h0] at hk
  obtain rfl : k0 = 1 := hk
  obtain ⟨⟨s1, y1⟩, h1⟩ : ∃ T, wrC.text s0 r.key = T := ⟨_, rfl⟩
  obtain ⟨⟨s2, y2⟩, h2⟩ : ∃ T, wrC.num s1 r.id = T := ⟨_, rfl⟩
  obtain ⟨⟨s3, y3⟩, h3⟩ : ∃ T, wrC.num s2 r.n = T := ⟨_, rfl⟩
  obtain ⟨⟨s4, y4⟩, h4⟩ : ∃ T, wrC.num s3 r.ttl = T := ⟨_, rfl⟩
  have hS : reqS wrC s r = (s4, { Rq.zero with k := 1, key := y1, id := y2, n := y3, ttl := y4 }) := by
    unfold reqS reqK
    rw [h0]
    simp only [h1, h2, h3, h4]
    rfl
  have H0 := hide h0
  have H1 := hide h1
  have H2 := hide h2
  have H3 := hide h3
  have H4 := hide h4
  have HS := hide hS
  rw [HS.out]
  clear hS h0 h1 h2 h3 h4
  obtain ⟨T0, hT0, hK0, hsz, hfc, hsrc, ht2⟩ := box3 w (.iface 58 (.pointer (some ⟨b, 0, none⟩))) r
  have HT0 := hide hT0
  clear hT0
  have hA0 : AtW (fun x => O x ∨ x = w.heap.size ∨ x = w.heap.size + 1 ∨ x = w.heap.size + 2) b 0 T0 s := ⟨h.1.more hK0 (fun x hx => by
    rcases hx with hx | hx
    · exact .inl hx
    · exact .inr (by rw [hsz]; omega)), h.2⟩
  have HLt : Hid (∀ x, O x → x < w.heap.size) := h.1.lt
  have HC := hide (wkind r.k (by omega) hA0)
  rw [H0.out] at HC
  have HK0 := hide hK0
  have HZ := hide hsz
  have HFc := hide hfc
  have HSrc := hide hsrc
  have HT2 := hide ht2
  have hck : T0.cell? ⟨w.heap.size + 1, 0, none⟩ = some (.int .i64 r.k) := hsrc 0 (.int .i64 r.k) rfl
  clear hK0 hsz hsrc ht2 hA0 h
  generalize hfb : w.heap.size = fb at *
  go_enter Try.func24, Try.ntmps24
  go_wp2_with fail
  have HFb := hide hfb
  clear hfb
  rw [← HT0.out]
  clear HT0
  generalize T0 = w0 at *
  refine HC.out.mono ?_
  rintro e w1 ⟨rfl, hA, hK⟩
  have hz := HZ.out
  have hz1 := hK.size
  have b1 := hK.block fb (by omega) (.inr (.inl rfl))
  have b2 := hK.block (fb + 1) (by omega) (.inr (.inr (.inl rfl)))
  have b3 := hK.block (fb + 2) (by omega) (.inr (.inr (.inr rfl)))
  have hKa : Keep (fun _ => True) w1 (w1.alloc (.cells #[.int .i64 0, .string { data := #[] }, .int .i64 0, .int .i64 0, .int .i64 0, .int .i64 0, .string { data := #[] }, .string { data := #[] }, .string { data := #[] }, .int .i64 0, .int .i64 0, .int .i64 0, .int .i64 0, .int .i64 0, .int .i64 0, .int .i64 0, .int .i64 0, .int .i64 0] 25)) := (Keep.refl _ w1).alloc _
  have hqsz : (w1.alloc (.cells #[.int .i64 0, .string { data := #[] }, .int .i64 0, .int .i64 0, .int .i64 0, .int .i64 0, .string { data := #[] }, .string { data := #[] }, .string { data := #[] }, .int .i64 0, .int .i64 0, .int .i64 0, .int .i64 0, .int .i64 0, .int .i64 0, .int .i64 0, .int .i64 0, .int .i64 0] 25)).heap.size = w1.heap.size + 1 := by simp
  have hthq : (w1.alloc (.cells #[.int .i64 0, .string { data := #[] }, .int .i64 0, .int .i64 0, .int .i64 0, .int .i64 0, .string { data := #[] }, .string { data := #[] }, .string { data := #[] }, .int .i64 0, .int .i64 0, .int .i64 0, .int .i64 0, .int .i64 0, .int .i64 0, .int .i64 0, .int .i64 0, .int .i64 0] 25)).there w1.heap.size 0 18 := there_new2 w1 #[.int .i64 0, .string { data := #[] }, .int .i64 0, .int .i64 0, .int .i64 0, .int .i64 0, .string { data := #[] }, .string { data := #[] }, .string { data := #[] }, .int .i64 0, .int .i64 0, .int .i64 0, .int .i64 0, .int .i64 0, .int .i64 0, .int .i64 0, .int .i64 0, .int .i64 0] 25
  have hrq : (w1.alloc (.cells #[.int .i64 0, .string { data := #[] }, .int .i64 0, .int .i64 0, .int .i64 0, .int .i64 0, .string { data := #[] }, .string { data := #[] }, .string { data := #[] }, .int .i64 0, .int .i64 0, .int .i64 0, .int .i64 0, .int .i64 0, .int .i64 0, .int .i64 0, .int .i64 0, .int .i64 0] 25)).rangeAt w1.heap.size 0 [.int .i64 0, .string { data := #[] }, .int .i64 0, .int .i64 0, .int .i64 0, .int .i64 0, .string { data := #[] }, .string { data := #[] }, .string { data := #[] }, .int .i64 0, .int .i64 0, .int .i64 0, .int .i64 0, .int .i64 0, .int .i64 0, .int .i64 0, .int .i64 0, .int .i64 0] := rng_new w1 _ #[.int .i64 0, .string { data := #[] }, .int .i64 0, .int .i64 0, .int .i64 0, .int .i64 0, .string { data := #[] }, .string { data := #[] }, .string { data := #[] }, .int .i64 0, .int .i64 0, .int .i64 0, .int .i64 0, .int .i64 0, .int .i64 0, .int .i64 0, .int .i64 0, .int .i64 0] 25 rfl
  have hA1 : AtW (fun x => O x ∨ x = fb ∨ x = fb + 1 ∨ x = fb + 2 ∨ x = w1.heap.size) b 1 (w1.alloc (.cells #[.int .i64 0, .string { data := #[] }, .int .i64 0, .int .i64 0, .int .i64 0, .int .i64 0, .string { data := #[] }, .string { data := #[] }, .string { data := #[] }, .int .i64 0, .int .i64 0, .int .i64 0, .int .i64 0, .int .i64 0, .int .i64 0, .int .i64 0, .int .i64 0, .int .i64 0] 25)) s0 := ⟨hA.1.more hKa (fun x hx => by
    rcases hx with hx | hx | hx | hx | hx
    · exact .inl (.inl hx)
    · exact .inl (.inr (.inl hx))
    · exact .inl (.inr (.inr (.inl hx)))
    · exact .inl (.inr (.inr (.inr hx)))
    · exact .inr (by rw [hqsz]; omega)), hA.2⟩
  have hF0 : Fs O (AtW (fun x => O x ∨ x = fb ∨ x = fb + 1 ∨ x = fb + 2 ∨ x = w1.heap.size) b) w (w1.alloc (.cells #[.int .i64 0, .string { data := #[] }, .int .i64 0, .int .i64 0, .int .i64 0, .int .i64 0, .string { data := #[] }, .string { data := #[] }, .string { data := #[] }, .int .i64 0, .int .i64 0, .int .i64 0, .int .i64 0, .int .i64 0, .int .i64 0, .int .i64 0, .int .i64 0, .int .i64 0] 25)) 1 s0 fb (fb + 1) (fb + 2) w1.heap.size (.iface 58 (.pointer (some ⟨b, 0, none⟩))) (rqC r) [.int .i64 0, .string { data := #[] }, .int .i64 0, .int .i64 0, .int .i64 0, .int .i64 0, .string { data := #[] }, .string { data := #[] }, .string { data := #[] }, .int .i64 0, .int .i64 0, .int .i64 0, .int .i64 0, .int .i64 0, .int .i64 0, .int .i64 0, .int .i64 0, .int .i64 0] :=
    ⟨hA1, hrq, hthq, rangeAt_keep (rangeAt_keep HSrc.out b2) (hKa.block _ (by omega) trivial), (World.cell?_of_block (a := ⟨fb, 0, none⟩) ((hKa.block fb (by omega) trivial).trans b1)).trans HFc.out, there_blk (there_blk HT2.out b3) (hKa.block _ (by omega) trivial), ((HK0.out.less (fun _ _ _ => trivial)).trans (hK.less (fun x _ hx => .inl hx))).trans (hKa.less (fun _ _ _ => trivial)), ⟨by omega, by omega, by omega, (fun k => by have := HLt.out _ k; omega)⟩, ⟨by omega, by omega, by omega, by omega⟩, AtW.far (.inr (.inr (.inr (.inr rfl))))⟩
  have HF0 := hide (hF0.puts 0 [.int .i64 1, .string { data := #[] }, .int .i64 0, .int .i64 0, .int .i64 0, .int .i64 0, .string { data := #[] }, .string { data := #[] }, .string { data := #[] }, .int .i64 0, .int .i64 0, .int .i64 0, .int .i64 0, .int .i64 0, .int .i64 0, .int .i64 0, .int .i64 0, .int .i64 0] (by decide))
  have hlz : ([.int .i64 1, .string { data := #[] }, .int .i64 0, .int .i64 0, .int .i64 0, .int .i64 0, .string { data := #[] }, .string { data := #[] }, .string { data := #[] }, .int .i64 0, .int .i64 0, .int .i64 0, .int .i64 0, .int .i64 0, .int .i64 0, .int .i64 0, .int .i64 0, .int .i64 0] : List Value).length = 18 := rfl
  have hone : ∀ v ∈ ([.int .i64 1, .string { data := #[] }, .int .i64 0, .int .i64 0, .int .i64 0, .int .i64 0, .string { data := #[] }, .string { data := #[] }, .string { data := #[] }, .int .i64 0, .int .i64 0, .int .i64 0, .int .i64 0, .int .i64 0, .int .i64 0, .int .i64 0, .int .i64 0, .int .i64 0] : List Value), v.oneCell' = true := by
    intro v hv
    simp only [List.mem_cons, List.not_mem_nil, or_false] at hv
    rcases hv with rfl | rfl | rfl | rfl | rfl | rfl | rfl | rfl | rfl | rfl | rfl | rfl | rfl | rfl | rfl | rfl | rfl | rfl <;> rfl
  have HThq := hide hthq
  have HOne := hide hone
  have HKw : Hid (Keep (fun x => O x ∨ x = fb ∨ x = fb + 1 ∨ x = fb + 2) w w1) := (HK0.out.less (fun _ _ _ => trivial)).trans hK
  clear hthq hone hrq hA1 hF0 b1 b2 b3 hA hK hck hfc HC
  go_upto_region 2 with (first | ((with_reducible refine store_sz 25 18 sz25 _ _ w1.heap.size 0 [.int .i64 1, .string { data := #[] }, .int .i64 0, .int .i64 0, .int .i64 0, .int .i64 0, .string { data := #[] }, .string { data := #[] }, .string { data := #[] }, .int .i64 0, .int .i64 0, .int .i64 0, .int .i64 0, .int .i64 0, .int .i64 0, .int .i64 0, .int .i64 0, .int .i64 0] hlz HOne.out ?_ ?_ HThq.out ?_); rfl; rfl) | fail)
  generalize hq : w1.heap.size = q at *
  have HFa : Hid (Fs O (AtW (fun x => O x ∨ x = fb ∨ x = fb + 1 ∨ x = fb + 2 ∨ x = q) b) w ((w1.alloc (.cells #[.int .i64 0, .string { data := #[] }, .int .i64 0, .int .i64 0, .int .i64 0, .int .i64 0, .string { data := #[] }, .string { data := #[] }, .string { data := #[] }, .int .i64 0, .int .i64 0, .int .i64 0, .int .i64 0, .int .i64 0, .int .i64 0, .int .i64 0, .int .i64 0, .int .i64 0] 25)).setCells q 0 [.int .i64 1, .string { data := #[] }, .int .i64 0, .int .i64 0, .int .i64 0, .int .i64 0, .string { data := #[] }, .string { data := #[] }, .string { data := #[] }, .int .i64 0, .int .i64 0, .int .i64 0, .int .i64 0, .int .i64 0, .int .i64 0, .int .i64 0, .int .i64 0, .int .i64 0]) 1 s0 fb (fb + 1) (fb + 2) q (.iface 58 (.pointer (some ⟨b, 0, none⟩))) (rqC r) [.int .i64 1, .string { data := #[] }, .int .i64 0, .int .i64 0, .int .i64 0, .int .i64 0, .string { data := #[] }, .string { data := #[] }, .string { data := #[] }, .int .i64 0, .int .i64 0, .int .i64 0, .int .i64 0, .int .i64 0, .int .i64 0, .int .i64 0, .int .i64 0, .int .i64 0]) := HF0.out
  have HQ : Hid (q < ((w1.alloc (.cells #[.int .i64 0, .string { data := #[] }, .int .i64 0, .int .i64 0, .int .i64 0, .int .i64 0, .string { data := #[] }, .string { data := #[] }, .string { data := #[] }, .int .i64 0, .int .i64 0, .int .i64 0, .int .i64 0, .int .i64 0, .int .i64 0, .int .i64 0, .int .i64 0, .int .i64 0] 25)).setCells q 0 [.int .i64 1, .string { data := #[] }, .int .i64 0, .int .i64 0, .int .i64 0, .int .i64 0, .string { data := #[] }, .string { data := #[] }, .string { data := #[] }, .int .i64 0, .int .i64 0, .int .i64 0, .int .i64 0, .int .i64 0, .int .i64 0, .int .i64 0, .int .i64 0, .int .i64 0]).heap.size) := HF0.out.lt.2.2.2
  clear HF0 hKa hqsz HThq HOne hlz
  generalize (w1.alloc (.cells #[.int .i64 0, .string { data := #[] }, .int .i64 0, .int .i64 0, .int .i64 0, .int .i64 0, .string { data := #[] }, .string { data := #[] }, .string { data := #[] }, .int .i64 0, .int .i64 0, .int .i64 0, .int .i64 0, .int .i64 0, .int .i64 0, .int .i64 0, .int .i64 0, .int .i64 0] 25)).setCells q 0 [.int .i64 1, .string { data := #[] }, .int .i64 0, .int .i64 0, .int .i64 0, .int .i64 0, .string { data := #[] }, .string { data := #[] }, .string { data := #[] }, .int .i64 0, .int .i64 0, .int .i64 0, .int .i64 0, .int .i64 0, .int .i64 0, .int .i64 0, .int .i64 0, .int .i64 0] = v0 at *
  have ck := HFa.out.cell (j := 0) rfl
  have hfc := HFa.out.fc
  have hsc := HFa.out.scell (j := 1) (v := .string r.key) rfl
  go_wp2_with (first | (go_at_call 40; refine (fof1 _).mono ?_; rintro e w' ⟨rfl, rfl⟩) | fail)
  refine (wtextc r.key hr1 (by omega) HFa.out.st).mono ?_
  rintro e u1 ⟨rfl, hA, hK⟩
  rw [H1.out] at hA ⊢
  have hF := HFa.out.call hK (fun x hx => by rcases hx with h | h | h | h | h <;> simp [h]) hA
  have hc1 := hF.cell (j := 1) rfl
  have hf1 := hF.fz (j := 1) (by simp)
  have HF1 : Hid (Fs O (AtW (fun x => O x ∨ x = fb ∨ x = fb + 1 ∨ x = fb + 2 ∨ x = q) b) w (u1.setCell ⟨q, 1, none⟩ (.string y1)) 2 s1 fb (fb + 1) (fb + 2) q (.iface 58 (.pointer (some ⟨b, 0, none⟩))) (rqC r) [.int .i64 1, .string y1, .int .i64 0, .int .i64 0, .int .i64 0, .int .i64 0, .string { data := #[] }, .string { data := #[] }, .string { data := #[] }, .int .i64 0, .int .i64 0, .int .i64 0, .int .i64 0, .int .i64 0, .int .i64 0, .int .i64 0, .int .i64 0, .int .i64 0]) := hF.put1 1 (.string y1) (by simp)
  clear hF hA hK hfc hsc
  have hfc := HF1.out.fc
  have hsc := HF1.out.scell (j := 2) (v := .int .i64 r.id) rfl
  dsimp only
  go_wp2_with fail
  generalize u1.setCell ⟨q, 1, none⟩ (.string y1) = v1 at *
  clear hc1 hf1
  refine (wnumc r.id (by omega) HF1.out.st).mono ?_
  rintro e u2 ⟨rfl, hA, hK⟩
  rw [H2.out] at hA ⊢
  have hF := HF1.out.call hK (fun x hx => by rcases hx with h | h | h | h | h <;> simp [h]) hA
  have hc2 := hF.cell (j := 2) rfl
  have hf2 := hF.fz (j := 2) (by simp)
  have HF2 : Hid (Fs O (AtW (fun x => O x ∨ x = fb ∨ x = fb + 1 ∨ x = fb + 2 ∨ x = q) b) w (u2.setCell ⟨q, 2, none⟩ (.int .i64 y2)) 3 s2 fb (fb + 1) (fb + 2) q (.iface 58 (.pointer (some ⟨b, 0, none⟩))) (rqC r) [.int .i64 1, .string y1, .int .i64 y2, .int .i64 0, .int .i64 0, .int .i64 0, .string { data := #[] }, .string { data := #[] }, .string { data := #[] }, .int .i64 0, .int .i64 0, .int .i64 0, .int .i64 0, .int .i64 0, .int .i64 0, .int .i64 0, .int .i64 0, .int .i64 0]) := hF.put1 2 (.int .i64 y2) (by simp)
  clear hF hA hK hfc hsc
  have hfc := HF2.out.fc
  have hsc := HF2.out.scell (j := 3) (v := .int .i64 r.n) rfl
  dsimp only
  go_wp2_with fail
  generalize u2.setCell ⟨q, 2, none⟩ (.int .i64 y2) = v2 at *
  clear hc2 hf2
  refine (wnumc r.n (by omega) HF2.out.st).mono ?_
  rintro e u3 ⟨rfl, hA, hK⟩
  rw [H3.out] at hA ⊢
  have hF := HF2.out.call hK (fun x hx => by rcases hx with h | h | h | h | h <;> simp [h]) hA
  have hc3 := hF.cell (j := 3) rfl
  have hf3 := hF.fz (j := 3) (by simp)
  have HF3 : Hid (Fs O (AtW (fun x => O x ∨ x = fb ∨ x = fb + 1 ∨ x = fb + 2 ∨ x = q) b) w (u3.setCell ⟨q, 3, none⟩ (.int .i64 y3)) 4 s3 fb (fb + 1) (fb + 2) q (.iface 58 (.pointer (some ⟨b, 0, none⟩))) (rqC r) [.int .i64 1, .string y1, .int .i64 y2, .int .i64 y3, .int .i64 0, .int .i64 0, .string { data := #[] }, .string { data := #[] }, .string { data := #[] }, .int .i64 0, .int .i64 0, .int .i64 0, .int .i64 0, .int .i64 0, .int .i64 0, .int .i64 0, .int .i64 0, .int .i64 0]) := hF.put1 3 (.int .i64 y3) (by simp)
  clear hF hA hK hfc hsc
  have hfc := HF3.out.fc
  have hsc := HF3.out.scell (j := 4) (v := .int .i64 r.ttl) rfl
  dsimp only
  go_wp2_with fail
  generalize u3.setCell ⟨q, 3, none⟩ (.int .i64 y3) = v3 at *
  clear hc3 hf3
  refine (wnumc r.ttl (by omega) HF3.out.st).mono ?_
  rintro e u4 ⟨rfl, hA, hK⟩
  rw [H4.out] at hA ⊢
  have hF := HF3.out.call hK (fun x hx => by rcases hx with h | h | h | h | h <;> simp [h]) hA
  have hc4 := hF.cell (j := 4) rfl
  have hf4 := hF.fz (j := 4) (by simp)
  have HF4 : Hid (Fs O (AtW (fun x => O x ∨ x = fb ∨ x = fb + 1 ∨ x = fb + 2 ∨ x = q) b) w (u4.setCell ⟨q, 4, none⟩ (.int .i64 y4)) 5 s4 fb (fb + 1) (fb + 2) q (.iface 58 (.pointer (some ⟨b, 0, none⟩))) (rqC r) [.int .i64 1, .string y1, .int .i64 y2, .int .i64 y3, .int .i64 y4, .int .i64 0, .string { data := #[] }, .string { data := #[] }, .string { data := #[] }, .int .i64 0, .int .i64 0, .int .i64 0, .int .i64 0, .int .i64 0, .int .i64 0, .int .i64 0, .int .i64 0, .int .i64 0]) := hF.put1 4 (.int .i64 y4) (by simp)
  clear hF hA hK hfc hsc
  have hfc := HF4.out.fc
  have hsc : True := trivial
  dsimp only
  go_upto_region 24 with fail
  generalize u4.setCell ⟨q, 4, none⟩ (.int .i64 y4) = v4 at *
  clear hc4 hf4
  have HR : Hid (v4.rangeAt q 0 [.int .i64 1, .string y1, .int .i64 y2, .int .i64 y3, .int .i64 y4, .int .i64 0, .string { data := #[] }, .string { data := #[] }, .string { data := #[] }, .int .i64 0, .int .i64 0, .int .i64 0, .int .i64 0, .int .i64 0, .int .i64 0, .int .i64 0, .int .i64 0, .int .i64 0]) := HF4.out.fl
  have HTq : Hid (v4.there (fb + 2) 0 18) := HF4.out.t2
  have hl18 : ([.int .i64 1, .string y1, .int .i64 y2, .int .i64 y3, .int .i64 y4, .int .i64 0, .string { data := #[] }, .string { data := #[] }, .string { data := #[] }, .int .i64 0, .int .i64 0, .int .i64 0, .int .i64 0, .int .i64 0, .int .i64 0, .int .i64 0, .int .i64 0, .int .i64 0] : List Value).length = 18 := rfl
  have HOn : Hid (∀ v ∈ ([.int .i64 1, .string y1, .int .i64 y2, .int .i64 y3, .int .i64 y4, .int .i64 0, .string { data := #[] }, .string { data := #[] }, .string { data := #[] }, .int .i64 0, .int .i64 0, .int .i64 0, .int .i64 0, .int .i64 0, .int .i64 0, .int .i64 0, .int .i64 0, .int .i64 0] : List Value), v.oneCell' = true) := by
    intro v hv
    simp only [List.mem_cons, List.not_mem_nil, or_false] at hv
    rcases hv with rfl | rfl | rfl | rfl | rfl | rfl | rfl | rfl | rfl | rfl | rfl | rfl | rfl | rfl | rfl | rfl | rfl | rfl <;> rfl
  have HR6 := hide (World.rangeAt_setCells_same v4 (fb + 2) 0 [.int .i64 1, .string y1, .int .i64 y2, .int .i64 y3, .int .i64 y4, .int .i64 0, .string { data := #[] }, .string { data := #[] }, .string { data := #[] }, .int .i64 0, .int .i64 0, .int .i64 0, .int .i64 0, .int .i64 0, .int .i64 0, .int .i64 0, .int .i64 0, .int .i64 0] HTq.out)
  have HFin : Hid (AtW O b 99 (v4.setCells (fb + 2) 0 [.int .i64 1, .string y1, .int .i64 y2, .int .i64 y3, .int .i64 y4, .int .i64 0, .string { data := #[] }, .string { data := #[] }, .string { data := #[] }, .int .i64 0, .int .i64 0, .int .i64 0, .int .i64 0, .int .i64 0, .int .i64 0, .int .i64 0, .int .i64 0, .int .i64 0]) s4 ∧ Keep O w (v4.setCells (fb + 2) 0 [.int .i64 1, .string y1, .int .i64 y2, .int .i64 y3, .int .i64 y4, .int .i64 0, .string { data := #[] }, .string { data := #[] }, .string { data := #[] }, .int .i64 0, .int .i64 0, .int .i64 0, .int .i64 0, .int .i64 0, .int .i64 0, .int .i64 0, .int .i64 0, .int .i64 0])) := by
    have h1 := HF4.out.st
    exact ⟨⟨(h1.1.far (.inr (.inr (.inr (.inl rfl)))) 0 _).less (fun x hx => .inl hx), by have := h1.2; omega⟩, HF4.out.kp.setCells (.inr (by have := HFb.out; omega)) 0 _⟩
  clear HF4
  generalize hcs : ([.int .i64 1, .string y1, .int .i64 y2, .int .i64 y3, .int .i64 y4, .int .i64 0, .string { data := #[] }, .string { data := #[] }, .string { data := #[] }, .int .i64 0, .int .i64 0, .int .i64 0, .int .i64 0, .int .i64 0, .int .i64 0, .int .i64 0, .int .i64 0, .int .i64 0] : List Value) = cs at *
  go_wp2_with (first | ((with_reducible refine load_sz 25 18 sz25 _ q 0 cs hl18 ?_ HR.out ?_); rfl) | ((with_reducible refine store_sz 25 18 sz25 _ _ (fb + 2) 0 cs hl18 HOn.out ?_ ?_ HTq.out ?_); rfl; rfl) | fail)
  refine bodyPost_ret (v := .agg cs.toArray) (results_sz sz25 Try.results24 hl18 rfl HR6.out) rfl ⟨?_, HFin.out⟩
  rw [← hcs]
  rfl

set_option maxRecDepth 100000 in
set_option maxHeartbeats 6400000 in
theorem reqw4 {O : Nat → Prop} {b : Nat} {w : World} {s : Sx} (r : Rq) (hr : r.Ok) (hk : (wrC.kind s r.k).2 = 4) (h : AtW O b 0 w s) :
    Calls Try.prog 24 #[.agg #[.iface 58 (.pointer (some ⟨b, 0, none⟩))], .agg #[.int .i64 r.k, .string r.key, .int .i64 r.id, .int .i64 r.n, .int .i64 r.ttl, .int .i64 r.o, .string r.nm, .string r.sec, .string r.pn, .int .i64 r.p1, .int .i64 r.p2, .int .i64 r.p3, .int .i64 r.p4, .int .i64 r.p5, .int .i64 r.p6, .int .i64 r.p7, .int .i64 r.p8, .int .i64 r.p9]] w fun e w' => e = .returned (.agg (rqC (reqS wrC s r).2).toArray) ∧ AtW O b 99 w' (reqS wrC s r).1 ∧ Keep O w w' := by
  obtain ⟨hr1, hr2, hr3, hr4⟩ := hr
  obtain ⟨⟨s0, k0⟩, h0⟩ : ∃ T, wrC.kind s r.k = T := ⟨_, rfl⟩
  rw [h0] at hk
  obtain rfl : k0 = 4 := hk
  obtain ⟨⟨s1, y1⟩, h1⟩ : ∃ T, wrC.text s0 r.key = T := ⟨_, rfl⟩
  obtain ⟨⟨s2, y2⟩, h2⟩ : ∃ T, wrC.num s1 r.id = T := ⟨_, rfl⟩
  obtain ⟨⟨s3, y3⟩, h3⟩ : ∃ T, wrC.num s2 r.n = T := ⟨_, rfl⟩
  obtain ⟨⟨s4, y4⟩, h4⟩ : ∃ T, wrC.num s3 r.ttl = T := ⟨_, rfl⟩
  have hS : reqS wrC s r = (s4, { Rq.zero with k := 4, key := y1, id := y2, n := y3, ttl := y4 }) := by
    unfold reqS reqK
    rw [h0]
    simp only [h1, h2, h3, h4]
    rfl
  have H0 := hide h0
  have H1 := hide h1
  have H2 := hide h2
  have H3 := hide h3
  have H4 := hide h4
  have HS := hide hS
  rw [HS.out]
  clear hS h0 h1 h2 h3 h4
  obtain ⟨T0, hT0, hK0, hsz, hfc, hsrc, ht2⟩ := box3 w (.iface 58 (.pointer (some ⟨b, 0, none⟩))) r
  have HT0 := hide hT0
  clear hT0
  have hA0 : AtW (fun x => O x ∨ x = w.heap.size ∨ x = w.heap.size + 1 ∨ x = w.heap.size + 2) b 0 T0 s := ⟨h.1.more hK0 (fun x hx => by
    rcases hx with hx | hx
    · exact .inl hx
    · exact .inr (by rw [hsz]; omega)), h.2⟩
  have HLt : Hid (∀ x, O x → x < w.heap.size) := h.1.lt
  have HC := hide (wkind r.k (by omega) hA0)
  rw [H0.out] at HC
  have HK0 := hide hK0
  have HZ := hide hsz
  have HFc := hide hfc
  have HSrc := hide hsrc
  have HT2 := hide ht2
  have hck : T0.cell? ⟨w.heap.size + 1, 0, none⟩ = some (.int .i64 r.k) := hsrc 0 (.int .i64 r.k) rfl
  clear hK0 hsz hsrc ht2 hA0 h
  generalize hfb : w.heap.size = fb at *
  go_enter Try.func24, Try.ntmps24
  go_wp2_with fail
  have HFb := hide hfb
  clear hfb
  rw [← HT0.out]
  clear HT0
  generalize T0 = w0 at *
  refine HC.out.mono ?_
  rintro e w1 ⟨rfl, hA, hK⟩
  have hz := HZ.out
  have hz1 := hK.size
  have b1 := hK.block fb (by omega) (.inr (.inl rfl))
  have b2 := hK.block (fb + 1) (by omega) (.inr (.inr (.inl rfl)))
  have b3 := hK.block (fb + 2) (by omega) (.inr (.inr (.inr rfl)))
  have hKa : Keep (fun _ => True) w1 (w1.alloc (.cells #[.int .i64 0, .string { data := #[] }, .int .i64 0, .int .i64 0, .int .i64 0, .int .i64 0, .string { data := #[] }, .string { data := #[] }, .string { data := #[] }, .int .i64 0, .int .i64 0, .int .i64 0, .int .i64 0, .int .i64 0, .int .i64 0, .int .i64 0, .int .i64 0, .int .i64 0] 25)) := (Keep.refl _ w1).alloc _
  have hqsz : (w1.alloc (.cells #[.int .i64 0, .string { data := #[] }, .int .i64 0, .int .i64 0, .int .i64 0, .int .i64 0, .string { data := #[] }, .string { data := #[] }, .string { data := #[] }, .int .i64 0, .int .i64 0, .int .i64 0, .int .i64 0, .int .i64 0, .int .i64 0, .int .i64 0, .int .i64 0, .int .i64 0] 25)).heap.size = w1.heap.size + 1 := by simp
  have hthq : (w1.alloc (.cells #[.int .i64 0, .string { data := #[] }, .int .i64 0, .int .i64 0, .int .i64 0, .int .i64 0, .string { data := #[] }, .string { data := #[] }, .string { data := #[] }, .int .i64 0, .int .i64 0, .int .i64 0, .int .i64 0, .int .i64 0, .int .i64 0, .int .i64 0, .int .i64 0, .int .i64 0] 25)).there w1.heap.size 0 18 := there_new2 w1 #[.int .i64 0, .string { data := #[] }, .int .i64 0, .int .i64 0, .int .i64 0, .int .i64 0, .string { data := #[] }, .string { data := #[] }, .string { data := #[] }, .int .i64 0, .int .i64 0, .int .i64 0, .int .i64 0, .int .i64 0, .int .i64 0, .int .i64 0, .int .i64 0, .int .i64 0] 25
  have hrq : (w1.alloc (.cells #[.int .i64 0, .string { data := #[] }, .int .i64 0, .int .i64 0, .int .i64 0, .int .i64 0, .string { data := #[] }, .string { data := #[] }, .string { data := #[] }, .int .i64 0, .int .i64 0, .int .i64 0, .int .i64 0, .int .i64 0, .int .i64 0, .int .i64 0, .int .i64 0, .int .i64 0] 25)).rangeAt w1.heap.size 0 [.int .i64 0, .string { data := #[] }, .int .i64 0, .int .i64 0, .int .i64 0, .int .i64 0, .string { data := #[] }, .string { data := #[] }, .string { data := #[] }, .int .i64 0, .int .i64 0, .int .i64 0, .int .i64 0, .int .i64 0, .int .i64 0, .int .i64 0, .int .i64 0, .int .i64 0] := rng_new w1 _ #[.int .i64 0, .string { data := #[] }, .int .i64 0, .int .i64 0, .int .i64 0, .int .i64 0, .string { data := #[] }, .string { data := #[] }, .string { data := #[] }, .int .i64 0, .int .i64 0, .int .i64 0, .int .i64 0, .int .i64 0, .int .i64 0, .int .i64 0, .int .i64 0, .int .i64 0] 25 rfl
  have hA1 : AtW (fun x => O x ∨ x = fb ∨ x = fb + 1 ∨ x = fb + 2 ∨ x = w1.heap.size) b 1 (w1.alloc (.cells #[.int .i64 0, .string { data := #[] }, .int .i64 0, .int .i64 0, .int .i64 0, .int .i64 0, .string { data := #[] }, .string { data := #[] }, .string { data := #[] }, .int .i64 0, .int .i64 0, .int .i64 0, .int .i64 0, .int .i64 0, .int .i64 0, .int .i64 0, .int .i64 0, .int .i64 0] 25)) s0 := ⟨hA.1.more hKa (fun x hx => by
    rcases hx with hx | hx | hx | hx | hx
    · exact .inl (.inl hx)
    · exact .inl (.inr (.inl hx))
    · exact .inl (.inr (.inr (.inl hx)))
    · exact .inl (.inr (.inr (.inr hx)))
    · exact .inr (by rw [hqsz]; omega)), hA.2⟩
  have hF0 : Fs O (AtW (fun x => O x ∨ x = fb ∨ x = fb + 1 ∨ x = fb + 2 ∨ x = w1.heap.size) b) w (w1.alloc (.cells #[.int .i64 0, .string { data := #[] }, .int .i64 0, .int .i64 0, .int .i64 0, .int .i64 0, .string { data := #[] }, .string { data := #[] }, .string { data := #[] }, .int .i64 0, .int .i64 0, .int .i64 0, .int .i64 0, .int .i64 0, .int .i64 0, .int .i64 0, .int .i64 0, .int .i64 0] 25)) 1 s0 fb (fb + 1) (fb + 2) w1.heap.size (.iface 58 (.pointer (some ⟨b, 0, none⟩))) (rqC r) [.int .i64 0, .string { data := #[] }, .int .i64 0, .int .i64 0, .int .i64 0, .int .i64 0, .string { data := #[] }, .string { data := #[] }, .string { data := #[] }, .int .i64 0, .int .i64 0, .int .i64 0, .int .i64 0, .int .i64 0, .int .i64 0, .int .i64 0, .int .i64 0, .int .i64 0] :=
    ⟨hA1, hrq, hthq, rangeAt_keep (rangeAt_keep HSrc.out b2) (hKa.block _ (by omega) trivial), (World.cell?_of_block (a := ⟨fb, 0, none⟩) ((hKa.block fb (by omega) trivial).trans b1)).trans HFc.out, there_blk (there_blk HT2.out b3) (hKa.block _ (by omega) trivial), ((HK0.out.less (fun _ _ _ => trivial)).trans (hK.less (fun x _ hx => .inl hx))).trans (hKa.less (fun _ _ _ => trivial)), ⟨by omega, by omega, by omega, (fun k => by have := HLt.out _ k; omega)⟩, ⟨by omega, by omega, by omega, by omega⟩, AtW.far (.inr (.inr (.inr (.inr rfl))))⟩
  have HF0 := hide (hF0.puts 0 [.int .i64 4, .string { data := #[] }, .int .i64 0, .int .i64 0, .int .i64 0, .int .i64 0, .string { data := #[] }, .string { data := #[] }, .string { data := #[] }, .int .i64 0, .int .i64 0, .int .i64 0, .int .i64 0, .int .i64 0, .int .i64 0, .int .i64 0, .int .i64 0, .int .i64 0] (by decide))
  have hlz : ([.int .i64 4, .string { data := #[] }, .int .i64 0, .int .i64 0, .int .i64 0, .int .i64 0, .string { data := #[] }, .string { data := #[] }, .string { data := #[] }, .int .i64 0, .int .i64 0, .int .i64 0, .int .i64 0, .int .i64 0, .int .i64 0, .int .i64 0, .int .i64 0, .int .i64 0] : List Value).length = 18 := rfl
  have hone : ∀ v ∈ ([.int .i64 4, .string { data := #[] }, .int .i64 0, .int .i64 0, .int .i64 0, .int .i64 0, .string { data := #[] }, .string { data := #[] }, .string { data := #[] }, .int .i64 0, .int .i64 0, .int .i64 0, .int .i64 0, .int .i64 0, .int .i64 0, .int .i64 0, .int .i64 0, .int .i64 0] : List Value), v.oneCell' = true := by
    intro v hv
    simp only [List.mem_cons, List.not_mem_nil, or_false] at hv
    rcases hv with rfl | rfl | rfl | rfl | rfl | rfl | rfl | rfl | rfl | rfl | rfl | rfl | rfl | rfl | rfl | rfl | rfl | rfl <;> rfl
  have HThq := hide hthq
  have HOne := hide hone
  have HKw : Hid (Keep (fun x => O x ∨ x = fb ∨ x = fb + 1 ∨ x = fb + 2) w w1) := (HK0.out.less (fun _ _ _ => trivial)).trans hK
  clear hthq hone hrq hA1 hF0 b1 b2 b3 hA hK hck hfc HC
  go_upto_region 2 with (first | ((with_reducible refine store_sz 25 18 sz25 _ _ w1.heap.size 0 [.int .i64 4, .string { data := #[] }, .int .i64 0, .int .i64 0, .int .i64 0, .int .i64 0, .string { data := #[] }, .string { data := #[] }, .string { data := #[] }, .int .i64 0, .int .i64 0, .int .i64 0, .int .i64 0, .int .i64 0, .int .i64 0, .int .i64 0, .int .i64 0, .int .i64 0] hlz HOne.out ?_ ?_ HThq.out ?_); rfl; rfl) | fail)
  generalize hq : w1.heap.size = q at *
  have HFa : Hid (Fs O (AtW (fun x => O x ∨ x = fb ∨ x = fb + 1 ∨ x = fb + 2 ∨ x = q) b) w ((w1.alloc (.cells #[.int .i64 0, .string { data := #[] }, .int .i64 0, .int .i64 0, .int .i64 0, .int .i64 0, .string { data := #[] }, .string { data := #[] }, .string { data := #[] }, .int .i64 0, .int .i64 0, .int .i64 0, .int .i64 0, .int .i64 0, .int .i64 0, .int .i64 0, .int .i64 0, .int .i64 0] 25)).setCells q 0 [.int .i64 4, .string { data := #[] }, .int .i64 0, .int .i64 0, .int .i64 0, .int .i64 0, .string { data := #[] }, .string { data := #[] }, .string { data := #[] }, .int .i64 0, .int .i64 0, .int .i64 0, .int .i64 0, .int .i64 0, .int .i64 0, .int .i64 0, .int .i64 0, .int .i64 0]) 1 s0 fb (fb + 1) (fb + 2) q (.iface 58 (.pointer (some ⟨b, 0, none⟩))) (rqC r) [.int .i64 4, .string { data := #[] }, .int .i64 0, .int .i64 0, .int .i64 0, .int .i64 0, .string { data := #[] }, .string { data := #[] }, .string { data := #[] }, .int .i64 0, .int .i64 0, .int .i64 0, .int .i64 0, .int .i64 0, .int .i64 0, .int .i64 0, .int .i64 0, .int .i64 0]) := HF0.out
  have HQ : Hid (q < ((w1.alloc (.cells #[.int .i64 0, .string { data := #[] }, .int .i64 0, .int .i64 0, .int .i64 0, .int .i64 0, .string { data := #[] }, .string { data := #[] }, .string { data := #[] }, .int .i64 0, .int .i64 0, .int .i64 0, .int .i64 0, .int .i64 0, .int .i64 0, .int .i64 0, .int .i64 0, .int .i64 0] 25)).setCells q 0 [.int .i64 4, .string { data := #[] }, .int .i64 0, .int .i64 0, .int .i64 0, .int .i64 0, .string { data := #[] }, .string { data := #[] }, .string { data := #[] }, .int .i64 0, .int .i64 0, .int .i64 0, .int .i64 0, .int .i64 0, .int .i64 0, .int .i64 0, .int .i64 0, .int .i64 0]).heap.size) := HF0.out.lt.2.2.2
  clear HF0 hKa hqsz HThq HOne hlz
  generalize (w1.alloc (.cells #[.int .i64 0, .string { data := #[] }, .int .i64 0, .int .i64 0, .int .i64 0, .int .i64 0, .string { data := #[] }, .string { data := #[] }, .string { data := #[] }, .int .i64 0, .int .i64 0, .int .i64 0, .int .i64 0, .int .i64 0, .int .i64 0, .int .i64 0, .int .i64 0, .int .i64 0] 25)).setCells q 0 [.int .i64 4, .string { data := #[] }, .int .i64 0, .int .i64 0, .int .i64 0, .int .i64 0, .string { data := #[] }, .string { data := #[] }, .string { data := #[] }, .int .i64 0, .int .i64 0, .int .i64 0, .int .i64 0, .int .i64 0, .int .i64 0, .int .i64 0, .int .i64 0, .int .i64 0] = v0 at *
  have ck := HFa.out.cell (j := 0) rfl
  have hfc := HFa.out.fc
  have hsc := HFa.out.scell (j := 1) (v := .string r.key) rfl
  go_wp2_with (first | (go_at_call 40; refine (fof4 _).mono ?_; rintro e w' ⟨rfl, rfl⟩) | fail)
  refine (wtextc r.key hr1 (by omega) HFa.out.st).mono ?_
  rintro e u1 ⟨rfl, hA, hK⟩
  rw [H1.out] at hA ⊢
  have hF := HFa.out.call hK (fun x hx => by rcases hx with h | h | h | h | h <;> simp [h]) hA
  have hc1 := hF.cell (j := 1) rfl
  have hf1 := hF.fz (j := 1) (by simp)
  have HF1 : Hid (Fs O (AtW (fun x => O x ∨ x = fb ∨ x = fb + 1 ∨ x = fb + 2 ∨ x = q) b) w (u1.setCell ⟨q, 1, none⟩ (.string y1)) 2 s1 fb (fb + 1) (fb + 2) q (.iface 58 (.pointer (some ⟨b, 0, none⟩))) (rqC r) [.int .i64 4, .string y1, .int .i64 0, .int .i64 0, .int .i64 0, .int .i64 0, .string { data := #[] }, .string { data := #[] }, .string { data := #[] }, .int .i64 0, .int .i64 0, .int .i64 0, .int .i64 0, .int .i64 0, .int .i64 0, .int .i64 0, .int .i64 0, .int .i64 0]) := hF.put1 1 (.string y1) (by simp)
  clear hF hA hK hfc hsc
  have hfc := HF1.out.fc
  have hsc := HF1.out.scell (j := 2) (v := .int .i64 r.id) rfl
  dsimp only
  go_wp2_with fail
  generalize u1.setCell ⟨q, 1, none⟩ (.string y1) = v1 at *
  clear hc1 hf1
  refine (wnumc r.id (by omega) HF1.out.st).mono ?_
  rintro e u2 ⟨rfl, hA, hK⟩
  rw [H2.out] at hA ⊢
  have hF := HF1.out.call hK (fun x hx => by rcases hx with h | h | h | h | h <;> simp [h]) hA
  have hc2 := hF.cell (j := 2) rfl
  have hf2 := hF.fz (j := 2) (by simp)
  have HF2 : Hid (Fs O (AtW (fun x => O x ∨ x = fb ∨ x = fb + 1 ∨ x = fb + 2 ∨ x = q) b) w (u2.setCell ⟨q, 2, none⟩ (.int .i64 y2)) 3 s2 fb (fb + 1) (fb + 2) q (.iface 58 (.pointer (some ⟨b, 0, none⟩))) (rqC r) [.int .i64 4, .string y1, .int .i64 y2, .int .i64 0, .int .i64 0, .int .i64 0, .string { data := #[] }, .string { data := #[] }, .string { data := #[] }, .int .i64 0, .int .i64 0, .int .i64 0, .int .i64 0, .int .i64 0, .int .i64 0, .int .i64 0, .int .i64 0, .int .i64 0]) := hF.put1 2 (.int .i64 y2) (by simp)
  clear hF hA hK hfc hsc
  have hfc := HF2.out.fc
  have hsc := HF2.out.scell (j := 3) (v := .int .i64 r.n) rfl
  dsimp only
  go_wp2_with fail
  generalize u2.setCell ⟨q, 2, none⟩ (.int .i64 y2) = v2 at *
  clear hc2 hf2
  refine (wnumc r.n (by omega) HF2.out.st).mono ?_
  rintro e u3 ⟨rfl, hA, hK⟩
  rw [H3.out] at hA ⊢
  have hF := HF2.out.call hK (fun x hx => by rcases hx with h | h | h | h | h <;> simp [h]) hA
  have hc3 := hF.cell (j := 3) rfl
  have hf3 := hF.fz (j := 3) (by simp)
  have HF3 : Hid (Fs O (AtW (fun x => O x ∨ x = fb ∨ x = fb + 1 ∨ x = fb + 2 ∨ x = q) b) w (u3.setCell ⟨q, 3, none⟩ (.int .i64 y3)) 4 s3 fb (fb + 1) (fb + 2) q (.iface 58 (.pointer (some ⟨b, 0, none⟩))) (rqC r) [.int .i64 4, .string y1, .int .i64 y2, .int .i64 y3, .int .i64 0, .int .i64 0, .string { data := #[] }, .string { data := #[] }, .string { data := #[] }, .int .i64 0, .int .i64 0, .int .i64 0, .int .i64 0, .int .i64 0, .int .i64 0, .int .i64 0, .int .i64 0, .int .i64 0]) := hF.put1 3 (.int .i64 y3) (by simp)
  clear hF hA hK hfc hsc
  have hfc := HF3.out.fc
  have hsc := HF3.out.scell (j := 4) (v := .int .i64 r.ttl) rfl
  dsimp only
  go_wp2_with fail
  generalize u3.setCell ⟨q, 3, none⟩ (.int .i64 y3) = v3 at *
  clear hc3 hf3
  refine (wnumc r.ttl (by omega) HF3.out.st).mono ?_
  rintro e u4 ⟨rfl, hA, hK⟩
  rw [H4.out] at hA ⊢
  have hF := HF3.out.call hK (fun x hx => by rcases hx with h | h | h | h | h <;> simp [h]) hA
  have hc4 := hF.cell (j := 4) rfl
  have hf4 := hF.fz (j := 4) (by simp)
  have HF4 : Hid (Fs O (AtW (fun x => O x ∨ x = fb ∨ x = fb + 1 ∨ x = fb + 2 ∨ x = q) b) w (u4.setCell ⟨q, 4, none⟩ (.int .i64 y4)) 5 s4 fb (fb + 1) (fb + 2) q (.iface 58 (.pointer (some ⟨b, 0, none⟩))) (rqC r) [.int .i64 4, .string y1, .int .i64 y2, .int .i64 y3, .int .i64 y4, .int .i64 0, .string { data := #[] }, .string { data := #[] }, .string { data := #[] }, .int .i64 0, .int .i64 0, .int .i64 0, .int .i64 0, .int .i64 0, .int .i64 0, .int .i64 0, .int .i64 0, .int .i64 0]) := hF.put1 4 (.int .i64 y4) (by simp)
  clear hF hA hK hfc hsc
  have hfc := HF4.out.fc
  have hsc : True := trivial
  dsimp only
  go_upto_region 24 with fail
  generalize u4.setCell ⟨q, 4, none⟩ (.int .i64 y4) = v4 at *
  clear hc4 hf4
  have HR : Hid (v4.rangeAt q 0 [.int .i64 4, .string y1, .int .i64 y2, .int .i64 y3, .int .i64 y4, .int .i64 0, .string { data := #[] }, .string { data := #[] }, .string { data := #[] }, .int .i64 0, .int .i64 0, .int .i64 0, .int .i64 0, .int .i64 0, .int .i64 0, .int .i64 0, .int .i64 0, .int .i64 0]) := HF4.out.fl
  have HTq : Hid (v4.there (fb + 2) 0 18) := HF4.out.t2
  have hl18 : ([.int .i64 4, .string y1, .int .i64 y2, .int .i64 y3, .int .i64 y4, .int .i64 0, .string { data := #[] }, .string { data := #[] }, .string { data := #[] }, .int .i64 0, .int .i64 0, .int .i64 0, .int .i64 0, .int .i64 0, .int .i64 0, .int .i64 0, .int .i64 0, .int .i64 0] : List Value).length = 18 := rfl
  have HOn : Hid (∀ v ∈ ([.int .i64 4, .string y1, .int .i64 y2, .int .i64 y3, .int .i64 y4, .int .i64 0, .string { data := #[] }, .string { data := #[] }, .string { data := #[] }, .int .i64 0, .int .i64 0, .int .i64 0, .int .i64 0, .int .i64 0, .int .i64 0, .int .i64 0, .int .i64 0, .int .i64 0] : List Value), v.oneCell' = true) := by
    intro v hv
    simp only [List.mem_cons, List.not_mem_nil, or_false] at hv
    rcases hv with rfl | rfl | rfl | rfl | rfl | rfl | rfl | rfl | rfl | rfl | rfl | rfl | rfl | rfl | rfl | rfl | rfl | rfl <;> rfl
  have HR6 := hide (World.rangeAt_setCells_same v4 (fb + 2) 0 [.int .i64 4, .string y1, .int .i64 y2, .int .i64 y3, .int .i64 y4, .int .i64 0, .string { data := #[] }, .string { data := #[] }, .string { data := #[] }, .int .i64 0, .int .i64 0, .int .i64 0, .int .i64 0, .int .i64 0, .int .i64 0, .int .i64 0, .int .i64 0, .int .i64 0] HTq.out)
  have HFin : Hid (AtW O b 99 (v4.setCells (fb + 2) 0 [.int .i64 4, .string y1, .int .i64 y2, .int .i64 y3, .int .i64 y4, .int .i64 0, .string { data := #[] }, .string { data := #[] }, .string { data := #[] }, .int .i64 0, .int .i64 0, .int .i64 0, .int .i64 0, .int .i64 0, .int .i64 0, .int .i64 0, .int .i64 0, .int .i64 0]) s4 ∧ Keep O w (v4.setCells (fb + 2) 0 [.int .i64 4, .string y1, .int .i64 y2, .int .i64 y3, .int .i64 y4, .int .i64 0, .string { data := #[] }, .string { data := #[] }, .string { data := #[] }, .int .i64 0, .int .i64 0, .int .i64 0, .int .i64 0, .int .i64 0, .int .i64 0, .int .i64 0, .int .i64 0, .int .i64 0])) := by
    have h1 := HF4.out.st
    exact ⟨⟨(h1.1.far (.inr (.inr (.inr (.inl rfl)))) 0 _).less (fun x hx => .inl hx), by have := h1.2; omega⟩, HF4.out.kp.setCells (.inr (by have := HFb.out; omega)) 0 _⟩
  clear HF4
  generalize hcs : ([.int .i64 4, .string y1, .int .i64 y2, .int .i64 y3, .int .i64 y4, .int .i64 0, .string { data := #[] }, .string { data := #[] }, .string { data := #[] }, .int .i64 0, .int .i64 0, .int .i64 0, .int .i64 0, .int .i64 0, .int .i64 0, .int .i64 0, .int .i64 0, .int .i64 0] : List Value) = cs at *
  go_wp2_with (first | ((with_reducible refine load_sz 25 18 sz25 _ q 0 cs hl18 ?_ HR.out ?_); rfl) | ((with_reducible refine store_sz 25 18 sz25 _ _ (fb + 2) 0 cs hl18 HOn.out ?_ ?_ HTq.out ?_); rfl; rfl) | fail)
  refine bodyPost_ret (v := .agg cs.toArray) (results_sz sz25 Try.results24 hl18 rfl HR6.out) rfl ⟨?_, HFin.out⟩
  rw [← hcs]
  rfl

set_option maxRecDepth 100000 in
set_option maxHeartbeats 6400000 in
theorem reqw2 {O : Nat → Prop} {b : Nat} {w : World} {s : Sx} (r : Rq) (hr : r.Ok) (hk : (wrC.kind s r.k).2 = 2) (h : AtW O b 0 w s) :
    Calls Try.prog 24 #[.agg #[.iface 58 (.pointer (some ⟨b, 0, none⟩))], .agg #[.int .i64 r.k, .string r.key, .int .i64 r.id, .int .i64 r.n, .int .i64 r.ttl, .int .i64 r.o, .string r.nm, .string r.sec, .string r.pn, .int .i64 r.p1, .int .i64 r.p2, .int .i64 r.p3, .int .i64 r.p4, .int .i64 r.p5, .int .i64 r.p6, .int .i64 r.p7, .int .i64 r.p8, .int .i64 r.p9]] w fun e w' => e = .returned (.agg (rqC (reqS wrC s r).2).toArray) ∧ AtW O b 99 w' (reqS wrC s r).1 ∧ Keep O w w' := by
  obtain ⟨hr1, hr2, hr3, hr4⟩ := hr
  obtain ⟨⟨s0, k0⟩, h0⟩ : ∃ T, wrC.kind s r.k = T := ⟨_, rfl⟩
  rw [h0] at hk
  obtain rfl : k0 = 2 := hk
  obtain ⟨⟨s1, y1⟩, h1⟩ : ∃ T, wrC.text s0 r.key = T := ⟨_, rfl⟩
  obtain ⟨⟨s2, y2⟩, h2⟩ : ∃ T, wrC.num s1 r.id = T := ⟨_, rfl⟩
  obtain ⟨⟨s3, y3⟩, h3⟩ : ∃ T, wrC.num s2 r.o = T := ⟨_, rfl⟩
  obtain ⟨⟨s4, y4⟩, h4⟩ : ∃ T, wrC.num s3 r.n = T := ⟨_, rfl⟩
  have hS : reqS wrC s r = (s4, { Rq.zero with k := 2, key := y1, id := y2, o := y3, n := y4 }) := by
    unfold reqS reqK
    rw [h0]
    simp only [h1, h2, h3, h4]
    rfl
  have H0 := hide h0
  have H1 := hide h1
  have H2 := hide h2
  have H3 := hide h3
  have H4 := hide h4
  have HS := hide hS
  rw [HS.out]
  clear hS h0 h1 h2 h3 h4
  obtain ⟨T0, hT0, hK0, hsz, hfc, hsrc, ht2⟩ := box3 w (.iface 58 (.pointer (some ⟨b, 0, none⟩))) r
  have HT0 := hide hT0
  clear hT0
  have hA0 : AtW (fun x => O x ∨ x = w.heap.size ∨ x = w.heap.size + 1 ∨ x = w.heap.size + 2) b 0 T0 s := ⟨h.1.more hK0 (fun x hx => by
    rcases hx with hx | hx
    · exact .inl hx
    · exact .inr (by rw [hsz]; omega)), h.2⟩
  have HLt : Hid (∀ x, O x → x < w.heap.size) := h.1.lt
  have HC := hide (wkind r.k (by omega) hA0)
  rw [H0.out] at HC
  have HK0 := hide hK0
  have HZ := hide hsz
  have HFc := hide hfc
  have HSrc := hide hsrc
  have HT2 := hide ht2
  have hck : T0.cell? ⟨w.heap.size + 1, 0, none⟩ = some (.int .i64 r.k) := hsrc 0 (.int .i64 r.k) rfl
  clear hK0 hsz hsrc ht2 hA0 h
  generalize hfb : w.heap.size = fb at *
  go_enter Try.func24, Try.ntmps24
  go_wp2_with fail
  have HFb := hide hfb
  clear hfb
  rw [← HT0.out]
  clear HT0
  generalize T0 = w0 at *
  refine HC.out.mono ?_
  rintro e w1 ⟨rfl, hA, hK⟩
  have hz := HZ.out
  have hz1 := hK.size
  have b1 := hK.block fb (by omega) (.inr (.inl rfl))
  have b2 := hK.block (fb + 1) (by omega) (.inr (.inr (.inl rfl)))
  have b3 := hK.block (fb + 2) (by omega) (.inr (.inr (.inr rfl)))
  have hKa : Keep (fun _ => True) w1 (w1.alloc (.cells #[.int .i64 0, .string { data := #[] }, .int .i64 0, .int .i64 0, .int .i64 0, .int .i64 0, .string { data := #[] }, .string { data := #[] }, .string { data := #[] }, .int .i64 0, .int .i64 0, .int .i64 0, .int .i64 0, .int .i64 0, .int .i64 0, .int .i64 0, .int .i64 0, .int .i64 0] 25)) := (Keep.refl _ w1).alloc _
  have hqsz : (w1.alloc (.cells #[.int .i64 0, .string { data := #[] }, .int .i64 0, .int .i64 0, .int .i64 0, .int .i64 0, .string { data := #[] }, .string { data := #[] }, .string { data := #[] }, .int .i64 0, .int .i64 0, .int .i64 0, .int .i64 0, .int .i64 0, .int .i64 0, .int .i64 0, .int .i64 0, .int .i64 0] 25)).heap.size = w1.heap.size + 1 := by simp
  have hthq : (w1.alloc (.cells #[.int .i64 0, .string { data := #[] }, .int .i64 0, .int .i64 0, .int .i64 0, .int .i64 0, .string { data := #[] }, .string { data := #[] }, .string { data := #[] }, .int .i64 0, .int .i64 0, .int .i64 0, .int .i64 0, .int .i64 0, .int .i64 0, .int .i64 0, .int .i64 0, .int .i64 0] 25)).there w1.heap.size 0 18 := there_new2 w1 #[.int .i64 0, .string { data := #[] }, .int .i64 0, .int .i64 0, .int .i64 0, .int .i64 0, .string { data := #[] }, .string { data := #[] }, .string { data := #[] }, .int .i64 0, .int .i64 0, .int .i64 0, .int .i64 0, .int .i64 0, .int .i64 0, .int .i64 0, .int .i64 0, .int .i64 0] 25
  have hrq : (w1.alloc (.cells #[.int .i64 0, .string { data := #[] }, .int .i64 0, .int .i64 0, .int .i64 0, .int .i64 0, .string { data := #[] }, .string { data := #[] }, .string { data := #[] }, .int .i64 0, .int .i64 0, .int .i64 0, .int .i64 0, .int .i64 0, .int .i64 0, .int .i64 0, .int .i64 0, .int .i64 0] 25)).rangeAt w1.heap.size 0 [.int .i64 0, .string { data := #[] }, .int .i64 0, .int .i64 0, .int .i64 0, .int .i64 0, .string { data := #[] }, .string { data := #[] }, .string { data := #[] }, .int .i64 0, .int .i64 0, .int .i64 0, .int .i64 0, .int .i64 0, .int .i64 0, .int .i64 0, .int .i64 0, .int .i64 0] := rng_new w1 _ #[.int .i64 0, .string { data := #[] }, .int .i64 0, .int .i64 0, .int .i64 0, .int .i64 0, .string { data := #[] }, .string { data := #[] }, .string { data := #[] }, .int .i64 0, .int .i64 0, .int .i64 0, .int .i64 0, .int .i64 0, .int .i64 0, .int .i64 0, .int .i64 0, .int .i64 0] 25 rfl
  have hA1 : AtW (fun x => O x ∨ x = fb ∨ x = fb + 1 ∨ x = fb + 2 ∨ x = w1.heap.size) b 1 (w1.alloc (.cells #[.int .i64 0, .string { data := #[] }, .int .i64 0, .int .i64 0, .int .i64 0, .int .i64 0, .string { data := #[] }, .string { data := #[] }, .string { data := #[] }, .int .i64 0, .int .i64 0, .int .i64 0, .int .i64 0, .int .i64 0, .int .i64 0, .int .i64 0, .int .i64 0, .int .i64 0] 25)) s0 := ⟨hA.1.more hKa (fun x hx => by
    rcases hx with hx | hx | hx | hx | hx
    · exact .inl (.inl hx)
    · exact .inl (.inr (.inl hx))
    · exact .inl (.inr (.inr (.inl hx)))
    · exact .inl (.inr (.inr (.inr hx)))
    · exact .inr (by rw [hqsz]; omega)), hA.2⟩
  have hF0 : Fs O (AtW (fun x => O x ∨ x = fb ∨ x = fb + 1 ∨ x = fb + 2 ∨ x = w1.heap.size) b) w (w1.alloc (.cells #[.int .i64 0, .string { data := #[] }, .int .i64 0, .int .i64 0, .int .i64 0, .int .i64 0, .string { data := #[] }, .string { data := #[] }, .string { data := #[] }, .int .i64 0, .int .i64 0, .int .i64 0, .int .i64 0, .int .i64 0, .int .i64 0, .int .i64 0, .int .i64 0, .int .i64 0] 25)) 1 s0 fb (fb + 1) (fb + 2) w1.heap.size (.iface 58 (.pointer (some ⟨b, 0, none⟩))) (rqC r) [.int .i64 0, .string { data := #[] }, .int .i64 0, .int .i64 0, .int .i64 0, .int .i64 0, .string { data := #[] }, .string { data := #[] }, .string { data := #[] }, .int .i64 0, .int .i64 0, .int .i64 0, .int .i64 0, .int .i64 0, .int .i64 0, .int .i64 0, .int .i64 0, .int .i64 0] :=
    ⟨hA1, hrq, hthq, rangeAt_keep (rangeAt_keep HSrc.out b2) (hKa.block _ (by omega) trivial), (World.cell?_of_block (a := ⟨fb, 0, none⟩) ((hKa.block fb (by omega) trivial).trans b1)).trans HFc.out, there_blk (there_blk HT2.out b3) (hKa.block _ (by omega) trivial), ((HK0.out.less (fun _ _ _ => trivial)).trans (hK.less (fun x _ hx => .inl hx))).trans (hKa.less (fun _ _ _ => trivial)), ⟨by omega, by omega, by omega, (fun k => by have := HLt.out _ k; omega)⟩, ⟨by omega, by omega, by omega, by omega⟩, AtW.far (.inr (.inr (.inr (.inr rfl))))⟩
  have HF0 := hide (hF0.puts 0 [.int .i64 2, .string { data := #[] }, .int .i64 0, .int .i64 0, .int .i64 0, .int .i64 0, .string { data := #[] }, .string { data := #[] }, .string { data := #[] }, .int .i64 0, .int .i64 0, .int .i64 0, .int .i64 0, .int .i64 0, .int .i64 0, .int .i64 0, .int .i64 0, .int .i64 0] (by decide))
  have hlz : ([.int .i64 2, .string { data := #[] }, .int .i64 0, .int .i64 0, .int .i64 0, .int .i64 0, .string { data := #[] }, .string { data := #[] }, .string { data := #[] }, .int .i64 0, .int .i64 0, .int .i64 0, .int .i64 0, .int .i64 0, .int .i64 0, .int .i64 0, .int .i64 0, .int .i64 0] : List Value).length = 18 := rfl
  have hone : ∀ v ∈ ([.int .i64 2, .string { data := #[] }, .int .i64 0, .int .i64 0, .int .i64 0, .int .i64 0, .string { data := #[] }, .string { data := #[] }, .string { data := #[] }, .int .i64 0, .int .i64 0, .int .i64 0, .int .i64 0, .int .i64 0, .int .i64 0, .int .i64 0, .int .i64 0, .int .i64 0] : List Value), v.oneCell' = true := by
    intro v hv
    simp only [List.mem_cons, List.not_mem_nil, or_false] at hv
    rcases hv with rfl | rfl | rfl | rfl | rfl | rfl | rfl | rfl | rfl | rfl | rfl | rfl | rfl | rfl | rfl | rfl | rfl | rfl <;> rfl
  have HThq := hide hthq
  have HOne := hide hone
  have HKw : Hid (Keep (fun x => O x ∨ x = fb ∨ x = fb + 1 ∨ x = fb + 2) w w1) := (HK0.out.less (fun _ _ _ => trivial)).trans hK
  clear hthq hone hrq hA1 hF0 b1 b2 b3 hA hK hck hfc HC
  go_upto_region 2 with (first | ((with_reducible refine store_sz 25 18 sz25 _ _ w1.heap.size 0 [.int .i64 2, .string { data := #[] }, .int .i64 0, .int .i64 0, .int .i64 0, .int .i64 0, .string { data := #[] }, .string { data := #[] }, .string { data := #[] }, .int .i64 0, .int .i64 0, .int .i64 0, .int .i64 0, .int .i64 0, .int .i64 0, .int .i64 0, .int .i64 0, .int .i64 0] hlz HOne.out ?_ ?_ HThq.out ?_); rfl; rfl) | fail)
  generalize hq : w1.heap.size = q at *
  have HFa : Hid (Fs O (AtW (fun x => O x ∨ x = fb ∨ x = fb + 1 ∨ x = fb + 2 ∨ x = q) b) w ((w1.alloc (.cells #[.int .i64 0, .string { data := #[] }, .int .i64 0, .int .i64 0, .int .i64 0, .int .i64 0, .string { data := #[] }, .string { data := #[] }, .string { data := #[] }, .int .i64 0, .int .i64 0, .int .i64 0, .int .i64 0, .int .i64 0, .int .i64 0, .int .i64 0, .int .i64 0, .int .i64 0] 25)).setCells q 0 [.int .i64 2, .string { data := #[] }, .int .i64 0, .int .i64 0, .int .i64 0, .int .i64 0, .string { data := #[] }, .string { data := #[] }, .string { data := #[] }, .int .i64 0, .int .i64 0, .int .i64 0, .int .i64 0, .int .i64 0, .int .i64 0, .int .i64 0, .int .i64 0, .int .i64 0]) 1 s0 fb (fb + 1) (fb + 2) q (.iface 58 (.pointer (some ⟨b, 0, none⟩))) (rqC r) [.int .i64 2, .string { data := #[] }, .int .i64 0, .int .i64 0, .int .i64 0, .int .i64 0, .string { data := #[] }, .string { data := #[] }, .string { data := #[] }, .int .i64 0, .int .i64 0, .int .i64 0, .int .i64 0, .int .i64 0, .int .i64 0, .int .i64 0, .int .i64 0, .int .i64 0]) := HF0.out
  have HQ : Hid (q < ((w1.alloc (.cells #[.int .i64 0, .string { data := #[] }, .int .i64 0, .int .i64 0, .int .i64 0, .int .i64 0, .string { data := #[] }, .string { data := #[] }, .string { data := #[] }, .int .i64 0, .int .i64 0, .int .i64 0, .int .i64 0, .int .i64 0, .int .i64 0, .int .i64 0, .int .i64 0, .int .i64 0] 25)).setCells q 0 [.int .i64 2, .string { data := #[] }, .int .i64 0, .int .i64 0, .int .i64 0, .int .i64 0, .string { data := #[] }, .string { data := #[] }, .string { data := #[] }, .int .i64 0, .int .i64 0, .int .i64 0, .int .i64 0, .int .i64 0, .int .i64 0, .int .i64 0, .int .i64 0, .int .i64 0]).heap.size) := HF0.out.lt.2.2.2
  clear HF0 hKa hqsz HThq HOne hlz
  generalize (w1.alloc (.cells #[.int .i64 0, .string { data := #[] }, .int .i64 0, .int .i64 0, .int .i64 0, .int .i64 0, .string { data := #[] }, .string { data := #[] }, .string { data := #[] }, .int .i64 0, .int .i64 0, .int .i64 0, .int .i64 0, .int .i64 0, .int .i64 0, .int .i64 0, .int .i64 0, .int .i64 0] 25)).setCells q 0 [.int .i64 2, .string { data := #[] }, .int .i64 0, .int .i64 0, .int .i64 0, .int .i64 0, .string { data := #[] }, .string { data := #[] }, .string { data := #[] }, .int .i64 0, .int .i64 0, .int .i64 0, .int .i64 0, .int .i64 0, .int .i64 0, .int .i64 0, .int .i64 0, .int .i64 0] = v0 at *
  have ck := HFa.out.cell (j := 0) rfl
  have hfc := HFa.out.fc
  have hsc := HFa.out.scell (j := 1) (v := .string r.key) rfl
  go_wp2_with (first | (go_at_call 40; refine (fof2 _).mono ?_; rintro e w' ⟨rfl, rfl⟩) | fail)
  refine (wtextc r.key hr1 (by omega) HFa.out.st).mono ?_
  rintro e u1 ⟨rfl, hA, hK⟩
  rw [H1.out] at hA ⊢
  have hF := HFa.out.call hK (fun x hx => by rcases hx with h | h | h | h | h <;> simp [h]) hA
  have hc1 := hF.cell (j := 1) rfl
  have hf1 := hF.fz (j := 1) (by simp)
  have HF1 : Hid (Fs O (AtW (fun x => O x ∨ x = fb ∨ x = fb + 1 ∨ x = fb + 2 ∨ x = q) b) w (u1.setCell ⟨q, 1, none⟩ (.string y1)) 2 s1 fb (fb + 1) (fb + 2) q (.iface 58 (.pointer (some ⟨b, 0, none⟩))) (rqC r) [.int .i64 2, .string y1, .int .i64 0, .int .i64 0, .int .i64 0, .int .i64 0, .string { data := #[] }, .string { data := #[] }, .string { data := #[] }, .int .i64 0, .int .i64 0, .int .i64 0, .int .i64 0, .int .i64 0, .int .i64 0, .int .i64 0, .int .i64 0, .int .i64 0]) := hF.put1 1 (.string y1) (by simp)
  clear hF hA hK hfc hsc
  have hfc := HF1.out.fc
  have hsc := HF1.out.scell (j := 2) (v := .int .i64 r.id) rfl
  dsimp only
  go_wp2_with fail
  generalize u1.setCell ⟨q, 1, none⟩ (.string y1) = v1 at *
  clear hc1 hf1
  refine (wnumc r.id (by omega) HF1.out.st).mono ?_
  rintro e u2 ⟨rfl, hA, hK⟩
  rw [H2.out] at hA ⊢
  have hF := HF1.out.call hK (fun x hx => by rcases hx with h | h | h | h | h <;> simp [h]) hA
  have hc2 := hF.cell (j := 2) rfl
  have hf2 := hF.fz (j := 2) (by simp)
  have HF2 : Hid (Fs O (AtW (fun x => O x ∨ x = fb ∨ x = fb + 1 ∨ x = fb + 2 ∨ x = q) b) w (u2.setCell ⟨q, 2, none⟩ (.int .i64 y2)) 3 s2 fb (fb + 1) (fb + 2) q (.iface 58 (.pointer (some ⟨b, 0, none⟩))) (rqC r) [.int .i64 2, .string y1, .int .i64 y2, .int .i64 0, .int .i64 0, .int .i64 0, .string { data := #[] }, .string { data := #[] }, .string { data := #[] }, .int .i64 0, .int .i64 0, .int .i64 0, .int .i64 0, .int .i64 0, .int .i64 0, .int .i64 0, .int .i64 0, .int .i64 0]) := hF.put1 2 (.int .i64 y2) (by simp)
  clear hF hA hK hfc hsc
  have hfc := HF2.out.fc
  have hsc := HF2.out.scell (j := 5) (v := .int .i64 r.o) rfl
  dsimp only
  go_wp2_with fail
  generalize u2.setCell ⟨q, 2, none⟩ (.int .i64 y2) = v2 at *
  clear hc2 hf2
  refine (wnumc r.o (by omega) HF2.out.st).mono ?_
  rintro e u3 ⟨rfl, hA, hK⟩
  rw [H3.out] at hA ⊢
  have hF := HF2.out.call hK (fun x hx => by rcases hx with h | h | h | h | h <;> simp [h]) hA
  have hc3 := hF.cell (j := 5) rfl
  have hf3 := hF.fz (j := 5) (by simp)
  have HF3 : Hid (Fs O (AtW (fun x => O x ∨ x = fb ∨ x = fb + 1 ∨ x = fb + 2 ∨ x = q) b) w (u3.setCell ⟨q, 5, none⟩ (.int .i64 y3)) 4 s3 fb (fb + 1) (fb + 2) q (.iface 58 (.pointer (some ⟨b, 0, none⟩))) (rqC r) [.int .i64 2, .string y1, .int .i64 y2, .int .i64 0, .int .i64 0, .int .i64 y3, .string { data := #[] }, .string { data := #[] }, .string { data := #[] }, .int .i64 0, .int .i64 0, .int .i64 0, .int .i64 0, .int .i64 0, .int .i64 0, .int .i64 0, .int .i64 0, .int .i64 0]) := hF.put1 5 (.int .i64 y3) (by simp)
  clear hF hA hK hfc hsc
  have hfc := HF3.out.fc
  have hsc := HF3.out.scell (j := 3) (v := .int .i64 r.n) rfl
  dsimp only
  go_wp2_with fail
  generalize u3.setCell ⟨q, 5, none⟩ (.int .i64 y3) = v3 at *
  clear hc3 hf3
  refine (wnumc r.n (by omega) HF3.out.st).mono ?_
  rintro e u4 ⟨rfl, hA, hK⟩
  rw [H4.out] at hA ⊢
  have hF := HF3.out.call hK (fun x hx => by rcases hx with h | h | h | h | h <;> simp [h]) hA
  have hc4 := hF.cell (j := 3) rfl
  have hf4 := hF.fz (j := 3) (by simp)
  have HF4 : Hid (Fs O (AtW (fun x => O x ∨ x = fb ∨ x = fb + 1 ∨ x = fb + 2 ∨ x = q) b) w (u4.setCell ⟨q, 3, none⟩ (.int .i64 y4)) 5 s4 fb (fb + 1) (fb + 2) q (.iface 58 (.pointer (some ⟨b, 0, none⟩))) (rqC r) [.int .i64 2, .string y1, .int .i64 y2, .int .i64 y4, .int .i64 0, .int .i64 y3, .string { data := #[] }, .string { data := #[] }, .string { data := #[] }, .int .i64 0, .int .i64 0, .int .i64 0, .int .i64 0, .int .i64 0, .int .i64 0, .int .i64 0, .int .i64 0, .int .i64 0]) := hF.put1 3 (.int .i64 y4) (by simp)
  clear hF hA hK hfc hsc
  have hfc := HF4.out.fc
  have hsc : True := trivial
  dsimp only
  go_upto_region 24 with fail
  generalize u4.setCell ⟨q, 3, none⟩ (.int .i64 y4) = v4 at *
  clear hc4 hf4
  have HR : Hid (v4.rangeAt q 0 [.int .i64 2, .string y1, .int .i64 y2, .int .i64 y4, .int .i64 0, .int .i64 y3, .string { data := #[] }, .string { data := #[] }, .string { data := #[] }, .int .i64 0, .int .i64 0, .int .i64 0, .int .i64 0, .int .i64 0, .int .i64 0, .int .i64 0, .int .i64 0, .int .i64 0]) := HF4.out.fl
  have HTq : Hid (v4.there (fb + 2) 0 18) := HF4.out.t2
  have hl18 : ([.int .i64 2, .string y1, .int .i64 y2, .int .i64 y4, .int .i64 0, .int .i64 y3, .string { data := #[] }, .string { data := #[] }, .string { data := #[] }, .int .i64 0, .int .i64 0, .int .i64 0, .int .i64 0, .int .i64 0, .int .i64 0, .int .i64 0, .int .i64 0, .int .i64 0] : List Value).length = 18 := rfl
  have HOn : Hid (∀ v ∈ ([.int .i64 2, .string y1, .int .i64 y2, .int .i64 y4, .int .i64 0, .int .i64 y3, .string { data := #[] }, .string { data := #[] }, .string { data := #[] }, .int .i64 0, .int .i64 0, .int .i64 0, .int .i64 0, .int .i64 0, .int .i64 0, .int .i64 0, .int .i64 0, .int .i64 0] : List Value), v.oneCell' = true) := by
    intro v hv
    simp only [List.mem_cons, List.not_mem_nil, or_false] at hv
    rcases hv with rfl | rfl | rfl | rfl | rfl | rfl | rfl | rfl | rfl | rfl | rfl | rfl | rfl | rfl | rfl | rfl | rfl | rfl <;> rfl
  have HR6 := hide (World.rangeAt_setCells_same v4 (fb + 2) 0 [.int .i64 2, .string y1, .int .i64 y2, .int .i64 y4, .int .i64 0, .int .i64 y3, .string { data := #[] }, .string { data := #[] }, .string { data := #[] }, .int .i64 0, .int .i64 0, .int .i64 0, .int .i64 0, .int .i64 0, .int .i64 0, .int .i64 0, .int .i64 0, .int .i64 0] HTq.out)
  have HFin : Hid (AtW O b 99 (v4.setCells (fb + 2) 0 [.int .i64 2, .string y1, .int .i64 y2, .int .i64 y4, .int .i64 0, .int .i64 y3, .string { data := #[] }, .string { data := #[] }, .string { data := #[] }, .int .i64 0, .int .i64 0, .int .i64 0, .int .i64 0, .int .i64 0, .int .i64 0, .int .i64 0, .int .i64 0, .int .i64 0]) s4 ∧ Keep O w (v4.setCells (fb + 2) 0 [.int .i64 2, .string y1, .int .i64 y2, .int .i64 y4, .int .i64 0, .int .i64 y3, .string { data := #[] }, .string { data := #[] }, .string { data := #[] }, .int .i64 0, .int .i64 0, .int .i64 0, .int .i64 0, .int .i64 0, .int .i64 0, .int .i64 0, .int .i64 0, .int .i64 0])) := by
    have h1 := HF4.out.st
    exact ⟨⟨(h1.1.far (.inr (.inr (.inr (.inl rfl)))) 0 _).less (fun x hx => .inl hx), by have := h1.2; omega⟩, HF4.out.kp.setCells (.inr (by have := HFb.out; omega)) 0 _⟩
  clear HF4
  generalize hcs : ([.int .i64 2, .string y1, .int .i64 y2, .int .i64 y4, .int .i64 0, .int .i64 y3, .string { data := #[] }, .string { data := #[] }, .string { data := #[] }, .int .i64 0, .int .i64 0, .int .i64 0, .int .i64 0, .int .i64 0, .int .i64 0, .int .i64 0, .int .i64 0, .int .i64 0] : List Value) = cs at *
  go_wp2_with (first | ((with_reducible refine load_sz 25 18 sz25 _ q 0 cs hl18 ?_ HR.out ?_); rfl) | ((with_reducible refine store_sz 25 18 sz25 _ _ (fb + 2) 0 cs hl18 HOn.out ?_ ?_ HTq.out ?_); rfl; rfl) | fail)
  refine bodyPost_ret (v := .agg cs.toArray) (results_sz sz25 Try.results24 hl18 rfl HR6.out) rfl ⟨?_, HFin.out⟩
  rw [← hcs]
  rfl

end Go.Proofs.Ytkbboingeacgjaa
