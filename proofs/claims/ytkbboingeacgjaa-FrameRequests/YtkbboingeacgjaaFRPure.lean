/-
  FrameRequests, by itself: what is kept of a request; what was written is read as it was; what can be read was written so.
-/
import Derived.Test.YtkbboingeacgjaaFRq
import Derived.Test.YtkbboingeacgjaaFLaw1
import Derived.Test.YtkbboingeacgjaaFFrame
namespace Go.Proofs.Ytkbboingeacgjaa
open Go.RowKit

/-- What of a request its bytes name. -/
def keptR (r : Rq) : Rq := (reqS kpC ⟨[], 0⟩ r).2
theorem kept_s (s : Sx) (r : Rq) : (reqS kpC s r).2 = keptR r := by
  by_cases hk : isK r.k
  · obtain ⟨k, key, id, n, ttl, o, nm, sec, pn, p1, p2, p3, p4, p5, p6, p7, p8, p9⟩ := r
    dsimp only at hk
    unfold keptR reqS reqK kpC
    dsimp only
    rcases hk with rfl | rfl | rfl | rfl | rfl | rfl | rfl | rfl | rfl | rfl <;> simp
  · unfold isK at hk
    simp only [not_or] at hk
    obtain ⟨a1, a2, a3, a4, a5, a6, a7, a8, a9, a10⟩ := hk
    unfold keptR reqS reqK kpC
    dsimp only
    simp [a1, a2, a3, a4, a5, a6, a7, a8, a9, a10]
theorem kept_no {r : Rq} (hk : ¬ isK r.k) : keptR r = { Rq.zero with k := r.k } := by
  unfold isK at hk
  simp only [not_or] at hk
  obtain ⟨a1, a2, a3, a4, a5, a6, a7, a8, a9, a10⟩ := hk
  unfold keptR reqS reqK kpC
  dsimp only
  simp [a1, a2, a3, a4, a5, a6, a7, a8, a9, a10]
theorem kept_k (r : Rq) : (keptR r).k = r.k := by
  by_cases hk : isK r.k
  · obtain ⟨k, key, id, n, ttl, o, nm, sec, pn, p1, p2, p3, p4, p5, p6, p7, p8, p9⟩ := r
    dsimp only at hk
    unfold keptR reqS reqK kpC
    dsimp only
    rcases hk with rfl | rfl | rfl | rfl | rfl | rfl | rfl | rfl | rfl | rfl <;> simp [Rq.setP]
  · rw [kept_no hk]
theorem kept_kept (r : Rq) : keptR (keptR r) = keptR r := by
  by_cases hk : isK r.k
  · obtain ⟨k, key, id, n, ttl, o, nm, sec, pn, p1, p2, p3, p4, p5, p6, p7, p8, p9⟩ := r
    dsimp only at hk
    unfold keptR reqS reqK kpC
    dsimp only
    rcases hk with rfl | rfl | rfl | rfl | rfl | rfl | rfl | rfl | rfl | rfl <;> simp [Rq.setP, Rq.px]
  · rw [kept_no hk, kept_no]
    exact hk

theorem text_front (t z : ByteArray) (r : List Nat) : textS .pr ⟨txB t ++ r, 0⟩ z = (⟨r, 0⟩, t) := textS_back t r z
/-- What was written is read as it was. -/
theorem req_back (r : Rq) (hk : isK r.k) (hn : r.Nums) : reqS prC ⟨reqB r, 0⟩ Rq.zero = (⟨[], 0⟩, keptR r) := by
  obtain ⟨k, key, id, n, ttl, o, nm, sec, pn, p1, p2, p3, p4, p5, p6, p7, p8, p9⟩ := r
  unfold Rq.Nums at hn
  dsimp only at hk hn
  have i1 : I64 id := hn _ (by simp)
  have i2 : I64 n := hn _ (by simp)
  have i3 : I64 ttl := hn _ (by simp)
  have i4 : I64 o := hn _ (by simp)
  have i5 : I64 p1 := hn _ (by simp)
  have hki : prC.kind ⟨reqB ⟨k, key, id, n, ttl, o, nm, sec, pn, p1, p2, p3, p4, p5, p6, p7, p8, p9⟩, 0⟩ Rq.zero.k = (⟨txB key ++ bodyB ⟨k, key, id, n, ttl, o, nm, sec, pn, p1, p2, p3, p4, p5, p6, p7, p8, p9⟩, 0⟩, k) := by
    have := takeS_front [k.toNat] (txB key ++ bodyB ⟨k, key, id, n, ttl, o, nm, sec, pn, p1, p2, p3, p4, p5, p6, p7, p8, p9⟩) 1 rfl
    unfold reqB prC
    dsimp only
    rw [List.append_assoc, this]
    show (_, ((k.toNat : Nat) : Int)) = _
    rcases hk with rfl | rfl | rfl | rfl | rfl | rfl | rfl | rfl | rfl | rfl <;> rfl
  unfold reqS
  rw [hki]
  show reqK prC ⟨txB key ++ bodyB ⟨k, key, id, n, ttl, o, nm, sec, pn, p1, p2, p3, p4, p5, p6, p7, p8, p9⟩, 0⟩ Rq.zero k = _
  have ht : prC.text = fun s (_ : ByteArray) => textS .pr s ByteArray.empty := rfl
  have hm : prC.num = fun s (_ : Int) => numS .pr s 0 := rfl
  have e8 : ∀ x, I64 x → numS .pr ⟨be8 x, 0⟩ 0 = (⟨[], 0⟩, x) := fun x hx => by
    have := num_front x hx []
    rwa [List.append_nil] at this
  have et : ∀ t, textS .pr ⟨txB t, 0⟩ ByteArray.empty = (⟨[], 0⟩, t) := fun t => by
    have := text_front t ByteArray.empty []
    rwa [List.append_nil] at this
  unfold keptR reqS reqK kpC bodyB
  rw [ht, hm]
  dsimp only
  rcases hk with rfl | rfl | rfl | rfl | rfl | rfl | rfl | rfl | rfl | rfl
  · simp [text_front, List.append_assoc, num_front, i1, i2, i3, e8]
  · simp [text_front, List.append_assoc, num_front, i1, i2, i3, e8]
  · simp [text_front, List.append_assoc, num_front, i1, i2, i4, e8]
  · simp [text_front, num_front, i1, i4, e8]
  · simp [et]
  · have hrec : recS ⟨tiB pn [p1, p2, p3, p4, p5, p6, p7, p8, p9], 0⟩ 73 = (⟨[], 0⟩, tiB pn [p1, p2, p3, p4, p5, p6, p7, p8, p9]) := by
      unfold recS
      have h1 := takeS_front (tiB pn [p1, p2, p3, p4, p5, p6, p7, p8, p9]) [] (73 + (tiB pn [p1, p2, p3, p4, p5, p6, p7, p8, p9]).headD 0) (by
        show _ = 73 + pn.size
        unfold tiB
        rw [List.length_append, List.length_append, natBytes_length, flat8_length, List.length_singleton]
        show 1 + pn.size + 8 * 9 = _
        omega)
      rw [List.append_nil] at h1
      exact h1
    have hpb := parsed_back pn [p1, p2, p3, p4, p5, p6, p7, p8, p9] 9 rfl (fun x hx => hn x (by simp only [List.mem_cons, List.not_mem_nil, or_false] at hx ⊢; rcases hx with h | h | h | h | h | h | h | h | h <;> simp [h]))
    have hp : prC.plan = fun s (_ : ByteArray) (_ : List Int) => ((recS s 73).1, (parsedTi 9 (recS s 73).2).2.1, (parsedTi 9 (recS s 73).2).2.2) := rfl
    rw [hp]
    simp [text_front, Rq.px, hrec, hpb]
  · simp [text_front, List.append_assoc, i5, e8]
  · simp [text_front, List.append_assoc, i5, e8]
  · simp [text_front, i2, e8]
  · simp [text_front, i2, e8]

theorem byt_num (s : Sx) (h : Byt s.l) : Byt (numS .pr s 0).1.l := takeS_rest _ _ h
theorem byt_text (s : Sx) (h : Byt s.l) : Byt (textS .pr s ByteArray.empty).1.l := text_byt h _
theorem ti_len (s : Sx) : (tiS .pr s ByteArray.empty (List.replicate 9 0)).2.2.length = 9 := by
  show (numsS .pr (textS .pr s ByteArray.empty).1 (List.replicate 9 0)).2.length = 9
  rw [numsS_length]
  rfl

theorem wbk_1 (s : Sx) (hb : Byt s.l) (he : (reqK rfC s Rq.zero 1).1.e = 0) (hl : (reqK rfC s Rq.zero 1).1.l = []) : s.e = 0 ∧ Fit (txts (reqK rfC s Rq.zero 1).2) ∧ reqB (reqK rfC s Rq.zero 1).2 = [1] ++ s.l := by
  obtain ⟨⟨s0, v0⟩, h0⟩ : ∃ T, textS .pr s ByteArray.empty = T := ⟨_, rfl⟩
  have b0 : Byt s0.l := by
    have := byt_text s hb
    rw [h0] at this
    exact this
  obtain ⟨⟨s1, v1⟩, h1⟩ : ∃ T, numS .pr s0 0 = T := ⟨_, rfl⟩
  have b1 : Byt s1.l := by
    have := byt_num s0 b0
    rw [h1] at this
    exact this
  obtain ⟨⟨s2, v2⟩, h2⟩ : ∃ T, numS .pr s1 0 = T := ⟨_, rfl⟩
  have b2 : Byt s2.l := by
    have := byt_num s1 b1
    rw [h2] at this
    exact this
  obtain ⟨⟨s3, v3⟩, h3⟩ : ∃ T, numS .pr s2 0 = T := ⟨_, rfl⟩
  have e : reqK rfC s Rq.zero 1 = (s3, ({ Rq.zero with k := 1, key := v0, id := v1, n := v2, ttl := v3 } : Rq)) := by
    unfold reqK rfC
    simp only [h0, h1, h2, h3]
    rfl
  rw [e] at he hl ⊢
  dsimp only at he hl ⊢
  have w3 := wb_num s2 b2 (by first | exact (by rw [h3]; exact he) | (dsimp only; rw [h3]; exact he))
  (try dsimp only at w3)
  rw [h3] at w3
  obtain ⟨z3, l3, q3⟩ := w3
  (try dsimp only at l3 q3)
  have w2 := wb_num s1 b1 (by first | exact (by rw [h2]; exact z3) | (dsimp only; rw [h2]; exact z3))
  (try dsimp only at w2)
  rw [h2] at w2
  obtain ⟨z2, l2, q2⟩ := w2
  (try dsimp only at l2 q2)
  have w1 := wb_num s0 b0 (by first | exact (by rw [h1]; exact z2) | (dsimp only; rw [h1]; exact z2))
  (try dsimp only at w1)
  rw [h1] at w1
  obtain ⟨z1, l1, q1⟩ := w1
  (try dsimp only at l1 q1)
  have w0 := wb_text ByteArray.empty s hb (by first | exact (by rw [h0]; exact z1) | (dsimp only; rw [h0]; exact z1))
  (try dsimp only at w0)
  rw [h0] at w0
  obtain ⟨z0, l0, q0⟩ := w0
  (try dsimp only at l0 q0)
  refine ⟨z0, fun t ht => ?_, ?_⟩
  · unfold txts at ht
    simp at ht
    rw [ht]
    exact q0
  · rw [l0, l1, l2, l3, hl]
    unfold reqB bodyB
    simp [txB, textB]

theorem wbk_4 (s : Sx) (hb : Byt s.l) (he : (reqK rfC s Rq.zero 4).1.e = 0) (hl : (reqK rfC s Rq.zero 4).1.l = []) : s.e = 0 ∧ Fit (txts (reqK rfC s Rq.zero 4).2) ∧ reqB (reqK rfC s Rq.zero 4).2 = [4] ++ s.l := by
  obtain ⟨⟨s0, v0⟩, h0⟩ : ∃ T, textS .pr s ByteArray.empty = T := ⟨_, rfl⟩
  have b0 : Byt s0.l := by
    have := byt_text s hb
    rw [h0] at this
    exact this
  obtain ⟨⟨s1, v1⟩, h1⟩ : ∃ T, numS .pr s0 0 = T := ⟨_, rfl⟩
  have b1 : Byt s1.l := by
    have := byt_num s0 b0
    rw [h1] at this
    exact this
  obtain ⟨⟨s2, v2⟩, h2⟩ : ∃ T, numS .pr s1 0 = T := ⟨_, rfl⟩
  have b2 : Byt s2.l := by
    have := byt_num s1 b1
    rw [h2] at this
    exact this
  obtain ⟨⟨s3, v3⟩, h3⟩ : ∃ T, numS .pr s2 0 = T := ⟨_, rfl⟩
  have e : reqK rfC s Rq.zero 4 = (s3, ({ Rq.zero with k := 4, key := v0, id := v1, n := v2, ttl := v3 } : Rq)) := by
    unfold reqK rfC
    simp only [h0, h1, h2, h3]
    rfl
  rw [e] at he hl ⊢
  dsimp only at he hl ⊢
  have w3 := wb_num s2 b2 (by first | exact (by rw [h3]; exact he) | (dsimp only; rw [h3]; exact he))
  (try dsimp only at w3)
  rw [h3] at w3
  obtain ⟨z3, l3, q3⟩ := w3
  (try dsimp only at l3 q3)
  have w2 := wb_num s1 b1 (by first | exact (by rw [h2]; exact z3) | (dsimp only; rw [h2]; exact z3))
  (try dsimp only at w2)
  rw [h2] at w2
  obtain ⟨z2, l2, q2⟩ := w2
  (try dsimp only at l2 q2)
  have w1 := wb_num s0 b0 (by first | exact (by rw [h1]; exact z2) | (dsimp only; rw [h1]; exact z2))
  (try dsimp only at w1)
  rw [h1] at w1
  obtain ⟨z1, l1, q1⟩ := w1
  (try dsimp only at l1 q1)
  have w0 := wb_text ByteArray.empty s hb (by first | exact (by rw [h0]; exact z1) | (dsimp only; rw [h0]; exact z1))
  (try dsimp only at w0)
  rw [h0] at w0
  obtain ⟨z0, l0, q0⟩ := w0
  (try dsimp only at l0 q0)
  refine ⟨z0, fun t ht => ?_, ?_⟩
  · unfold txts at ht
    simp at ht
    rw [ht]
    exact q0
  · rw [l0, l1, l2, l3, hl]
    unfold reqB bodyB
    simp [txB, textB]

theorem wbk_2 (s : Sx) (hb : Byt s.l) (he : (reqK rfC s Rq.zero 2).1.e = 0) (hl : (reqK rfC s Rq.zero 2).1.l = []) : s.e = 0 ∧ Fit (txts (reqK rfC s Rq.zero 2).2) ∧ reqB (reqK rfC s Rq.zero 2).2 = [2] ++ s.l := by
  obtain ⟨⟨s0, v0⟩, h0⟩ : ∃ T, textS .pr s ByteArray.empty = T := ⟨_, rfl⟩
  have b0 : Byt s0.l := by
    have := byt_text s hb
    rw [h0] at this
    exact this
  obtain ⟨⟨s1, v1⟩, h1⟩ : ∃ T, numS .pr s0 0 = T := ⟨_, rfl⟩
  have b1 : Byt s1.l := by
    have := byt_num s0 b0
    rw [h1] at this
    exact this
  obtain ⟨⟨s2, v2⟩, h2⟩ : ∃ T, numS .pr s1 0 = T := ⟨_, rfl⟩
  have b2 : Byt s2.l := by
    have := byt_num s1 b1
    rw [h2] at this
    exact this
  obtain ⟨⟨s3, v3⟩, h3⟩ : ∃ T, numS .pr s2 0 = T := ⟨_, rfl⟩
  have e : reqK rfC s Rq.zero 2 = (s3, ({ Rq.zero with k := 2, key := v0, id := v1, o := v2, n := v3 } : Rq)) := by
    unfold reqK rfC
    simp only [h0, h1, h2, h3]
    rfl
  rw [e] at he hl ⊢
  dsimp only at he hl ⊢
  have w3 := wb_num s2 b2 (by first | exact (by rw [h3]; exact he) | (dsimp only; rw [h3]; exact he))
  (try dsimp only at w3)
  rw [h3] at w3
  obtain ⟨z3, l3, q3⟩ := w3
  (try dsimp only at l3 q3)
  have w2 := wb_num s1 b1 (by first | exact (by rw [h2]; exact z3) | (dsimp only; rw [h2]; exact z3))
  (try dsimp only at w2)
  rw [h2] at w2
  obtain ⟨z2, l2, q2⟩ := w2
  (try dsimp only at l2 q2)
  have w1 := wb_num s0 b0 (by first | exact (by rw [h1]; exact z2) | (dsimp only; rw [h1]; exact z2))
  (try dsimp only at w1)
  rw [h1] at w1
  obtain ⟨z1, l1, q1⟩ := w1
  (try dsimp only at l1 q1)
  have w0 := wb_text ByteArray.empty s hb (by first | exact (by rw [h0]; exact z1) | (dsimp only; rw [h0]; exact z1))
  (try dsimp only at w0)
  rw [h0] at w0
  obtain ⟨z0, l0, q0⟩ := w0
  (try dsimp only at l0 q0)
  refine ⟨z0, fun t ht => ?_, ?_⟩
  · unfold txts at ht
    simp at ht
    rw [ht]
    exact q0
  · rw [l0, l1, l2, l3, hl]
    unfold reqB bodyB
    simp [txB, textB]

theorem wbk_3 (s : Sx) (hb : Byt s.l) (he : (reqK rfC s Rq.zero 3).1.e = 0) (hl : (reqK rfC s Rq.zero 3).1.l = []) : s.e = 0 ∧ Fit (txts (reqK rfC s Rq.zero 3).2) ∧ reqB (reqK rfC s Rq.zero 3).2 = [3] ++ s.l := by
  obtain ⟨⟨s0, v0⟩, h0⟩ : ∃ T, textS .pr s ByteArray.empty = T := ⟨_, rfl⟩
  have b0 : Byt s0.l := by
    have := byt_text s hb
    rw [h0] at this
    exact this
  obtain ⟨⟨s1, v1⟩, h1⟩ : ∃ T, numS .pr s0 0 = T := ⟨_, rfl⟩
  have b1 : Byt s1.l := by
    have := byt_num s0 b0
    rw [h1] at this
    exact this
  obtain ⟨⟨s2, v2⟩, h2⟩ : ∃ T, numS .pr s1 0 = T := ⟨_, rfl⟩
  have e : reqK rfC s Rq.zero 3 = (s2, ({ Rq.zero with k := 3, key := v0, id := v1, o := v2 } : Rq)) := by
    unfold reqK rfC
    simp only [h0, h1, h2]
    rfl
  rw [e] at he hl ⊢
  dsimp only at he hl ⊢
  have w2 := wb_num s1 b1 (by first | exact (by rw [h2]; exact he) | (dsimp only; rw [h2]; exact he))
  (try dsimp only at w2)
  rw [h2] at w2
  obtain ⟨z2, l2, q2⟩ := w2
  (try dsimp only at l2 q2)
  have w1 := wb_num s0 b0 (by first | exact (by rw [h1]; exact z2) | (dsimp only; rw [h1]; exact z2))
  (try dsimp only at w1)
  rw [h1] at w1
  obtain ⟨z1, l1, q1⟩ := w1
  (try dsimp only at l1 q1)
  have w0 := wb_text ByteArray.empty s hb (by first | exact (by rw [h0]; exact z1) | (dsimp only; rw [h0]; exact z1))
  (try dsimp only at w0)
  rw [h0] at w0
  obtain ⟨z0, l0, q0⟩ := w0
  (try dsimp only at l0 q0)
  refine ⟨z0, fun t ht => ?_, ?_⟩
  · unfold txts at ht
    simp at ht
    rw [ht]
    exact q0
  · rw [l0, l1, l2, hl]
    unfold reqB bodyB
    simp [txB, textB]

theorem wbk_5 (s : Sx) (hb : Byt s.l) (he : (reqK rfC s Rq.zero 5).1.e = 0) (hl : (reqK rfC s Rq.zero 5).1.l = []) : s.e = 0 ∧ Fit (txts (reqK rfC s Rq.zero 5).2) ∧ reqB (reqK rfC s Rq.zero 5).2 = [5] ++ s.l := by
  obtain ⟨⟨s0, v0⟩, h0⟩ : ∃ T, textS .pr s ByteArray.empty = T := ⟨_, rfl⟩
  have e : reqK rfC s Rq.zero 5 = (s0, ({ Rq.zero with k := 5, key := v0 } : Rq)) := by
    unfold reqK rfC
    simp only [h0]
    rfl
  rw [e] at he hl ⊢
  dsimp only at he hl ⊢
  have w0 := wb_text ByteArray.empty s hb (by first | exact (by rw [h0]; exact he) | (dsimp only; rw [h0]; exact he))
  (try dsimp only at w0)
  rw [h0] at w0
  obtain ⟨z0, l0, q0⟩ := w0
  (try dsimp only at l0 q0)
  refine ⟨z0, fun t ht => ?_, ?_⟩
  · unfold txts at ht
    simp at ht
    rw [ht]
    exact q0
  · rw [l0, hl]
    unfold reqB bodyB
    simp [txB, textB]

theorem wbk_16 (s : Sx) (hb : Byt s.l) (he : (reqK rfC s Rq.zero 16).1.e = 0) (hl : (reqK rfC s Rq.zero 16).1.l = []) : s.e = 0 ∧ Fit (txts (reqK rfC s Rq.zero 16).2) ∧ reqB (reqK rfC s Rq.zero 16).2 = [16] ++ s.l := by
  obtain ⟨⟨s0, v0⟩, h0⟩ : ∃ T, textS .pr s ByteArray.empty = T := ⟨_, rfl⟩
  have b0 : Byt s0.l := by
    have := byt_text s hb
    rw [h0] at this
    exact this
  obtain ⟨⟨s1, v1, xs⟩, h1⟩ : ∃ T, tiS .pr s0 ByteArray.empty (List.replicate 9 0) = T := ⟨_, rfl⟩
  have e : reqK rfC s Rq.zero 16 = (s1, Rq.setP ({ Rq.zero with k := 16, key := v0 } : Rq) v1 xs) := by
    unfold reqK rfC
    simp only [h0, h1]
    rfl
  rw [e] at he hl ⊢
  dsimp only at he hl ⊢
  have w1 := wb_ti 9 s0 b0 (by first | exact (by rw [h1]; exact he) | (dsimp only; rw [h1]; exact he))
  have lx := ti_len s0
  rw [h1] at lx
  (try dsimp only at w1)
  rw [h1] at w1
  obtain ⟨z1, l1, q1⟩ := w1
  (try dsimp only at l1 q1)
  have w0 := wb_text ByteArray.empty s hb (by first | exact (by rw [h0]; exact z1) | (dsimp only; rw [h0]; exact z1))
  (try dsimp only at w0)
  rw [h0] at w0
  obtain ⟨z0, l0, q0⟩ := w0
  (try dsimp only at l0 q0)
  (try dsimp only at lx)
  match xs, lx with
  | [x1, x2, x3, x4, x5, x6, x7, x8, x9], _ =>
    refine ⟨z0, fun t ht => ?_, ?_⟩
    · unfold txts at ht
      simp [Rq.setP] at ht
      rcases ht with rfl | rfl
      · exact q0
      · exact q1
    · rw [l0, l1, hl]
      unfold reqB bodyB
      simp [txB, textB, Rq.setP, Rq.px, tiB]

theorem wbk_17 (s : Sx) (hb : Byt s.l) (he : (reqK rfC s Rq.zero 17).1.e = 0) (hl : (reqK rfC s Rq.zero 17).1.l = []) : s.e = 0 ∧ Fit (txts (reqK rfC s Rq.zero 17).2) ∧ reqB (reqK rfC s Rq.zero 17).2 = [17] ++ s.l := by
  obtain ⟨⟨s0, v0⟩, h0⟩ : ∃ T, textS .pr s ByteArray.empty = T := ⟨_, rfl⟩
  have b0 : Byt s0.l := by
    have := byt_text s hb
    rw [h0] at this
    exact this
  obtain ⟨⟨s1, v1⟩, h1⟩ : ∃ T, textS .pr s0 ByteArray.empty = T := ⟨_, rfl⟩
  have b1 : Byt s1.l := by
    have := byt_text s0 b0
    rw [h1] at this
    exact this
  obtain ⟨⟨s2, v2⟩, h2⟩ : ∃ T, textS .pr s1 ByteArray.empty = T := ⟨_, rfl⟩
  have b2 : Byt s2.l := by
    have := byt_text s1 b1
    rw [h2] at this
    exact this
  obtain ⟨⟨s3, v3⟩, h3⟩ : ∃ T, textS .pr s2 ByteArray.empty = T := ⟨_, rfl⟩
  have b3 : Byt s3.l := by
    have := byt_text s2 b2
    rw [h3] at this
    exact this
  obtain ⟨⟨s4, v4⟩, h4⟩ : ∃ T, numS .pr s3 0 = T := ⟨_, rfl⟩
  have e : reqK rfC s Rq.zero 17 = (s4, ({ Rq.zero with k := 17, key := v0, nm := v1, sec := v2, pn := v3, p1 := v4 } : Rq)) := by
    unfold reqK rfC
    simp only [h0, h1, h2, h3, h4]
    rfl
  rw [e] at he hl ⊢
  dsimp only at he hl ⊢
  have w4 := wb_num s3 b3 (by first | exact (by rw [h4]; exact he) | (dsimp only; rw [h4]; exact he))
  (try dsimp only at w4)
  rw [h4] at w4
  obtain ⟨z4, l4, q4⟩ := w4
  (try dsimp only at l4 q4)
  have w3 := wb_text ByteArray.empty s2 b2 (by first | exact (by rw [h3]; exact z4) | (dsimp only; rw [h3]; exact z4))
  (try dsimp only at w3)
  rw [h3] at w3
  obtain ⟨z3, l3, q3⟩ := w3
  (try dsimp only at l3 q3)
  have w2 := wb_text ByteArray.empty s1 b1 (by first | exact (by rw [h2]; exact z3) | (dsimp only; rw [h2]; exact z3))
  (try dsimp only at w2)
  rw [h2] at w2
  obtain ⟨z2, l2, q2⟩ := w2
  (try dsimp only at l2 q2)
  have w1 := wb_text ByteArray.empty s0 b0 (by first | exact (by rw [h1]; exact z2) | (dsimp only; rw [h1]; exact z2))
  (try dsimp only at w1)
  rw [h1] at w1
  obtain ⟨z1, l1, q1⟩ := w1
  (try dsimp only at l1 q1)
  have w0 := wb_text ByteArray.empty s hb (by first | exact (by rw [h0]; exact z1) | (dsimp only; rw [h0]; exact z1))
  (try dsimp only at w0)
  rw [h0] at w0
  obtain ⟨z0, l0, q0⟩ := w0
  (try dsimp only at l0 q0)
  refine ⟨z0, fun t ht => ?_, ?_⟩
  · unfold txts at ht
    simp at ht
    rcases ht with rfl | rfl | rfl | rfl
    · exact q0
    · exact q1
    · exact q2
    · exact q3
  · rw [l0, l1, l2, l3, l4, hl]
    unfold reqB bodyB
    simp [txB, textB]

theorem wbk_18 (s : Sx) (hb : Byt s.l) (he : (reqK rfC s Rq.zero 18).1.e = 0) (hl : (reqK rfC s Rq.zero 18).1.l = []) : s.e = 0 ∧ Fit (txts (reqK rfC s Rq.zero 18).2) ∧ reqB (reqK rfC s Rq.zero 18).2 = [18] ++ s.l := by
  obtain ⟨⟨s0, v0⟩, h0⟩ : ∃ T, textS .pr s ByteArray.empty = T := ⟨_, rfl⟩
  have b0 : Byt s0.l := by
    have := byt_text s hb
    rw [h0] at this
    exact this
  obtain ⟨⟨s1, v1⟩, h1⟩ : ∃ T, textS .pr s0 ByteArray.empty = T := ⟨_, rfl⟩
  have b1 : Byt s1.l := by
    have := byt_text s0 b0
    rw [h1] at this
    exact this
  obtain ⟨⟨s2, v2⟩, h2⟩ : ∃ T, textS .pr s1 ByteArray.empty = T := ⟨_, rfl⟩
  have b2 : Byt s2.l := by
    have := byt_text s1 b1
    rw [h2] at this
    exact this
  obtain ⟨⟨s3, v3⟩, h3⟩ : ∃ T, numS .pr s2 0 = T := ⟨_, rfl⟩
  have e : reqK rfC s Rq.zero 18 = (s3, ({ Rq.zero with k := 18, key := v0, nm := v1, pn := v2, p1 := v3 } : Rq)) := by
    unfold reqK rfC
    simp only [h0, h1, h2, h3]
    rfl
  rw [e] at he hl ⊢
  dsimp only at he hl ⊢
  have w3 := wb_num s2 b2 (by first | exact (by rw [h3]; exact he) | (dsimp only; rw [h3]; exact he))
  (try dsimp only at w3)
  rw [h3] at w3
  obtain ⟨z3, l3, q3⟩ := w3
  (try dsimp only at l3 q3)
  have w2 := wb_text ByteArray.empty s1 b1 (by first | exact (by rw [h2]; exact z3) | (dsimp only; rw [h2]; exact z3))
  (try dsimp only at w2)
  rw [h2] at w2
  obtain ⟨z2, l2, q2⟩ := w2
  (try dsimp only at l2 q2)
  have w1 := wb_text ByteArray.empty s0 b0 (by first | exact (by rw [h1]; exact z2) | (dsimp only; rw [h1]; exact z2))
  (try dsimp only at w1)
  rw [h1] at w1
  obtain ⟨z1, l1, q1⟩ := w1
  (try dsimp only at l1 q1)
  have w0 := wb_text ByteArray.empty s hb (by first | exact (by rw [h0]; exact z1) | (dsimp only; rw [h0]; exact z1))
  (try dsimp only at w0)
  rw [h0] at w0
  obtain ⟨z0, l0, q0⟩ := w0
  (try dsimp only at l0 q0)
  refine ⟨z0, fun t ht => ?_, ?_⟩
  · unfold txts at ht
    simp at ht
    rcases ht with rfl | rfl | rfl
    · exact q0
    · exact q1
    · exact q2
  · rw [l0, l1, l2, l3, hl]
    unfold reqB bodyB
    simp [txB, textB]

theorem wbk_19 (s : Sx) (hb : Byt s.l) (he : (reqK rfC s Rq.zero 19).1.e = 0) (hl : (reqK rfC s Rq.zero 19).1.l = []) : s.e = 0 ∧ Fit (txts (reqK rfC s Rq.zero 19).2) ∧ reqB (reqK rfC s Rq.zero 19).2 = [19] ++ s.l := by
  obtain ⟨⟨s0, v0⟩, h0⟩ : ∃ T, textS .pr s ByteArray.empty = T := ⟨_, rfl⟩
  have b0 : Byt s0.l := by
    have := byt_text s hb
    rw [h0] at this
    exact this
  obtain ⟨⟨s1, v1⟩, h1⟩ : ∃ T, numS .pr s0 0 = T := ⟨_, rfl⟩
  have e : reqK rfC s Rq.zero 19 = (s1, ({ Rq.zero with k := 19, key := v0, n := v1 } : Rq)) := by
    unfold reqK rfC
    simp only [h0, h1]
    rfl
  rw [e] at he hl ⊢
  dsimp only at he hl ⊢
  have w1 := wb_num s0 b0 (by first | exact (by rw [h1]; exact he) | (dsimp only; rw [h1]; exact he))
  (try dsimp only at w1)
  rw [h1] at w1
  obtain ⟨z1, l1, q1⟩ := w1
  (try dsimp only at l1 q1)
  have w0 := wb_text ByteArray.empty s hb (by first | exact (by rw [h0]; exact z1) | (dsimp only; rw [h0]; exact z1))
  (try dsimp only at w0)
  rw [h0] at w0
  obtain ⟨z0, l0, q0⟩ := w0
  (try dsimp only at l0 q0)
  refine ⟨z0, fun t ht => ?_, ?_⟩
  · unfold txts at ht
    simp at ht
    rw [ht]
    exact q0
  · rw [l0, l1, hl]
    unfold reqB bodyB
    simp [txB, textB]

theorem wbk_20 (s : Sx) (hb : Byt s.l) (he : (reqK rfC s Rq.zero 20).1.e = 0) (hl : (reqK rfC s Rq.zero 20).1.l = []) : s.e = 0 ∧ Fit (txts (reqK rfC s Rq.zero 20).2) ∧ reqB (reqK rfC s Rq.zero 20).2 = [20] ++ s.l := by
  obtain ⟨⟨s0, v0⟩, h0⟩ : ∃ T, textS .pr s ByteArray.empty = T := ⟨_, rfl⟩
  have b0 : Byt s0.l := by
    have := byt_text s hb
    rw [h0] at this
    exact this
  obtain ⟨⟨s1, v1⟩, h1⟩ : ∃ T, textS .pr s0 ByteArray.empty = T := ⟨_, rfl⟩
  have b1 : Byt s1.l := by
    have := byt_text s0 b0
    rw [h1] at this
    exact this
  obtain ⟨⟨s2, v2⟩, h2⟩ : ∃ T, numS .pr s1 0 = T := ⟨_, rfl⟩
  have e : reqK rfC s Rq.zero 20 = (s2, ({ Rq.zero with k := 20, key := v0, nm := v1, n := v2 } : Rq)) := by
    unfold reqK rfC
    simp only [h0, h1, h2]
    rfl
  rw [e] at he hl ⊢
  dsimp only at he hl ⊢
  have w2 := wb_num s1 b1 (by first | exact (by rw [h2]; exact he) | (dsimp only; rw [h2]; exact he))
  (try dsimp only at w2)
  rw [h2] at w2
  obtain ⟨z2, l2, q2⟩ := w2
  (try dsimp only at l2 q2)
  have w1 := wb_text ByteArray.empty s0 b0 (by first | exact (by rw [h1]; exact z2) | (dsimp only; rw [h1]; exact z2))
  (try dsimp only at w1)
  rw [h1] at w1
  obtain ⟨z1, l1, q1⟩ := w1
  (try dsimp only at l1 q1)
  have w0 := wb_text ByteArray.empty s hb (by first | exact (by rw [h0]; exact z1) | (dsimp only; rw [h0]; exact z1))
  (try dsimp only at w0)
  rw [h0] at w0
  obtain ⟨z0, l0, q0⟩ := w0
  (try dsimp only at l0 q0)
  refine ⟨z0, fun t ht => ?_, ?_⟩
  · unfold txts at ht
    simp at ht
    rcases ht with rfl | rfl
    · exact q0
    · exact q1
  · rw [l0, l1, l2, hl]
    unfold reqB bodyB
    simp [txB, textB]

/-- What can be read was written so. -/
theorem wb_req (l : List Nat) (hb : Byt l) (h : endS (reqS prC ⟨l, 0⟩ Rq.zero).1 = 0) : isK (reqS prC ⟨l, 0⟩ Rq.zero).2.k ∧ Fit (txts (reqS prC ⟨l, 0⟩ Rq.zero).2) ∧ reqB (reqS prC ⟨l, 0⟩ Rq.zero).2 = l := by
  have hS : reqS prC ⟨l, 0⟩ Rq.zero = reqK prC (countS .pr ⟨l, 0⟩ 0).1 Rq.zero ((countS .pr ⟨l, 0⟩ 0).2 : Nat) := rfl
  rw [hS] at h ⊢
  have hw := wb_count ⟨l, 0⟩ hb
  have hb1 : Byt (countS .pr ⟨l, 0⟩ 0).1.l := takeS_rest ⟨l, 0⟩ 1 hb
  dsimp only at hw
  generalize (countS .pr ⟨l, 0⟩ 0).1 = s1 at *
  generalize (countS .pr ⟨l, 0⟩ 0).2 = k at *
  by_cases hK : isK (k : Nat)
  · obtain ⟨q1, q2⟩ := prq_eq s1 hb1 (k : Nat) hK
    rw [q1] at h
    rw [q2 h]
    obtain ⟨he, hl⟩ := end_el h
    have hkk : (reqK rfC s1 Rq.zero ((k : Nat) : Int)).2.k = (k : Nat) := by
      rcases hK with h | h | h | h | h | h | h | h | h | h <;> rw [h] <;> rfl
    have hkK := hK
    rw [← hkk] at hkK
    refine ⟨hkK, ?_⟩
    clear q1 q2 h hS hkk hkK
    rcases hK with h | h | h | h | h | h | h | h | h | h <;> rw [h] at he hl ⊢
    · obtain ⟨z, f, e⟩ := wbk_1 s1 hb1 he hl
      obtain ⟨_, hl2, _⟩ := hw z
      refine ⟨f, ?_⟩
      rw [e, hl2, show k = 1 by omega]
    · obtain ⟨z, f, e⟩ := wbk_4 s1 hb1 he hl
      obtain ⟨_, hl2, _⟩ := hw z
      refine ⟨f, ?_⟩
      rw [e, hl2, show k = 4 by omega]
    · obtain ⟨z, f, e⟩ := wbk_2 s1 hb1 he hl
      obtain ⟨_, hl2, _⟩ := hw z
      refine ⟨f, ?_⟩
      rw [e, hl2, show k = 2 by omega]
    · obtain ⟨z, f, e⟩ := wbk_3 s1 hb1 he hl
      obtain ⟨_, hl2, _⟩ := hw z
      refine ⟨f, ?_⟩
      rw [e, hl2, show k = 3 by omega]
    · obtain ⟨z, f, e⟩ := wbk_5 s1 hb1 he hl
      obtain ⟨_, hl2, _⟩ := hw z
      refine ⟨f, ?_⟩
      rw [e, hl2, show k = 5 by omega]
    · obtain ⟨z, f, e⟩ := wbk_16 s1 hb1 he hl
      obtain ⟨_, hl2, _⟩ := hw z
      refine ⟨f, ?_⟩
      rw [e, hl2, show k = 16 by omega]
    · obtain ⟨z, f, e⟩ := wbk_17 s1 hb1 he hl
      obtain ⟨_, hl2, _⟩ := hw z
      refine ⟨f, ?_⟩
      rw [e, hl2, show k = 17 by omega]
    · obtain ⟨z, f, e⟩ := wbk_18 s1 hb1 he hl
      obtain ⟨_, hl2, _⟩ := hw z
      refine ⟨f, ?_⟩
      rw [e, hl2, show k = 18 by omega]
    · obtain ⟨z, f, e⟩ := wbk_19 s1 hb1 he hl
      obtain ⟨_, hl2, _⟩ := hw z
      refine ⟨f, ?_⟩
      rw [e, hl2, show k = 19 by omega]
    · obtain ⟨z, f, e⟩ := wbk_20 s1 hb1 he hl
      obtain ⟨_, hl2, _⟩ := hw z
      refine ⟨f, ?_⟩
      rw [e, hl2, show k = 20 by omega]
  · exfalso
    obtain ⟨he, _⟩ := end_el h
    unfold isK at hK
    simp only [not_or] at hK
    obtain ⟨a1, a2, a3, a4, a5, a6, a7, a8, a9, a10⟩ := hK
    unfold reqK at he
    dsimp only at he
    simp only [a1, a2, a3, a4, a5, a6, a7, a8, a9, a10, or_self, if_false] at he
    exact refuse_e he (by decide)

end Go.Proofs.Ytkbboingeacgjaa
