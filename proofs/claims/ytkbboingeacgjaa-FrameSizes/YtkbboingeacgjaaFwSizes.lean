/-
  FrameSizes, walked.
-/
import Derived.Test.YtkbboingeacgjaaFwFrames
import Derived.Test.YtkbboingeacgjaaFFrame
namespace Go.Proofs.Ytkbboingeacgjaa
open Go.RowKit

theorem reqB_len (r : Rq) (hk : isK r.k) : (reqB r).length = if r.k = 1 ∨ r.k = 4 ∨ r.k = 2 then 2 + r.key.size + 24 else if r.k = 3 then 2 + r.key.size + 16 else if r.k = 5 then 2 + r.key.size else if r.k = 16 then 2 + r.key.size + 1 + r.pn.size + 72 else if r.k = 17 then 2 + r.key.size + 3 + r.nm.size + r.sec.size + r.pn.size + 8 else if r.k = 18 then 2 + r.key.size + 2 + r.nm.size + r.pn.size + 8 else if r.k = 19 then 2 + r.key.size + 8 else 2 + r.key.size + 1 + r.nm.size + 8 := by
  unfold reqB bodyB
  rcases hk with h | h | h | h | h | h | h | h | h | h <;> simp [h, txB_len, be8_length, tiB, natBytes_length, Rq.px] <;> omega

set_option maxRecDepth 100000 in
set_option maxHeartbeats 1600000 in
theorem sizes_out (r : Rq) (hr : r.Fits) (h : ¬ (r.sum < 2000 ∧ r.key.size ≤ 255 ∧ r.nm.size ≤ 255 ∧ r.sec.size ≤ 255 ∧ r.pn.size ≤ 255)) (w : World) : Calls Try.prog 6 #[.agg (rqC r).toArray] w fun e w' => e = .returned (.bool true) ∧ Turn [] w w' := by
  have hR := rng_new w (rqC r) (rqC r).toArray 25 rfl
  have HR : Hid (∀ W : World, Turn [] (w.alloc (.cells (rqC r).toArray 25)) W → W.rangeAt w.heap.size 0 (rqC r)) := fun W hT => rangeAt_keep hR (hT.block _ (by simp) (by simp))
  have HT0 : Hid (Turn [] w (w.alloc (.cells (rqC r).toArray 25))) := (Turn.refl [] w).alloc _
  have hlr := rqC_len r
  have HFew := hide (few_any r hr)
  have HC : Hid (∀ W : World, W.rangeAt w.heap.size 0 (rqC r) → W.cell? ⟨w.heap.size, 1, none⟩ = some (.string r.key) ∧ W.cell? ⟨w.heap.size, 6, none⟩ = some (.string r.nm) ∧ W.cell? ⟨w.heap.size, 7, none⟩ = some (.string r.sec) ∧ W.cell? ⟨w.heap.size, 8, none⟩ = some (.string r.pn)) := fun W hW => ⟨hW 1 _ rfl, hW 6 _ rfl, hW 7 _ rfl, hW 8 _ rfl⟩
  clear hR
  generalize rqC r = cs at *
  generalize r.sum = sm at *
  obtain ⟨g1, g2, g3, g4⟩ := hr
  generalize r.key = tkey at *
  generalize r.nm = tnm at *
  generalize r.sec = tsec at *
  generalize r.pn = tpn at *
  generalize hq : w.heap.size = q at *
  go_enter Try.func6, Try.ntmps6
  go_wp2_with fail
  clear hq
  generalize w.alloc (.cells cs.toArray 25) = w0 at *
  refine (known_any w0).mono ?_
  rintro e w1 ⟨rfl, hT⟩
  have HT1 := hide hT
  have HR1 := hide (HR.out w1 hT)
  clear hT
  go_wp2_with (first | ((with_reducible refine load_sz 25 18 sz25 _ q 0 cs hlr ?_ HR1.out ?_); rfl) | fail)
  refine (HFew.out _).mono ?_
  rintro e w2 ⟨rfl, hT⟩
  have HT2 := hide (HT1.out.trans hT)
  have HR2 := hide (HR.out w2 (HT1.out.trans hT))
  clear hT HT1 HR1
  obtain ⟨c1, c6, c7, c8⟩ := HC.out w2 HR2.out
  clear HFew HC HR
  by_cases a0 : sm < 2000
  · have d0 : decide (sm < 2000) = true := by simp [a0]
    rw [d0]
    by_cases a1 : tkey.size ≤ 255
    · have d1 : decide (255 < (tkey.size : Int)) = false := by simp; omega
      by_cases a2 : tnm.size ≤ 255
      · have d2 : decide (255 < (tnm.size : Int)) = false := by simp; omega
        by_cases a3 : tsec.size ≤ 255
        · have d3 : decide (255 < (tsec.size : Int)) = false := by simp; omega
          have d4 : decide (255 < (tpn.size : Int)) = true := by simp; omega
          go_wp2_with fail
          go_ret
          exact ⟨rfl, HT0.out.trans HT2.out⟩
        · have d3 : decide (255 < (tsec.size : Int)) = true := by simp; omega
          go_wp2_with fail
          go_ret
          exact ⟨rfl, HT0.out.trans HT2.out⟩
      · have d2 : decide (255 < (tnm.size : Int)) = true := by simp; omega
        go_wp2_with fail
        go_ret
        exact ⟨rfl, HT0.out.trans HT2.out⟩
    · have d1 : decide (255 < (tkey.size : Int)) = true := by simp; omega
      go_wp2_with fail
      go_ret
      exact ⟨rfl, HT0.out.trans HT2.out⟩
  · have d0 : decide (sm < 2000) = false := by simp [a0]
    rw [d0]
    go_wp2_with fail
    go_ret
    exact ⟨rfl, HT0.out.trans HT2.out⟩

set_option maxRecDepth 100000 in
set_option maxHeartbeats 3200000 in
theorem sizes1 (r : Rq) (hr : r.Fits) (hk : r.k = 1) (h0 : r.sum < 2000) (h1 : r.key.size ≤ 255) (h2 : r.nm.size ≤ 255) (h3 : r.sec.size ≤ 255) (h4 : r.pn.size ≤ 255) (w : World) : Calls Try.prog 6 #[.agg (rqC r).toArray] w fun e w' => e = .returned (.bool true) ∧ Turn [] w w' := by
  have hR := rng_new w (rqC r) (rqC r).toArray 25 rfl
  have HR : Hid (∀ W : World, Turn [] (w.alloc (.cells (rqC r).toArray 25)) W → W.rangeAt w.heap.size 0 (rqC r)) := fun W hT => rangeAt_keep hR (hT.block _ (by simp) (by simp))
  have HT0 : Hid (Turn [] w (w.alloc (.cells (rqC r).toArray 25))) := (Turn.refl [] w).alloc _
  have hlr := rqC_len r
  have HFew := hide (few_any r hr)
  have hK : isK r.k := by rw [hk]; unfold isK; omega
  have hs := enc_ok r hK (by
    unfold Fit txts
    rw [hk]
    simp [h1])
  have hlen := reqB_len r hK
  rw [hk] at hlen
  have hlen : (reqB r).length = 2 + r.key.size + 24 := by simpa using hlen
  have hhd : (reqB r).head? = some 1 := by unfold reqB; rw [hk]; rfl
  have HEn := hide (fun w => encreq w r hr.ok)
  rw [hs] at HEn
  have HC : Hid (∀ W : World, W.rangeAt w.heap.size 0 (rqC r) → W.cell? ⟨w.heap.size, 0, none⟩ = some (.int .i64 1) ∧ W.cell? ⟨w.heap.size, 1, none⟩ = some (.string r.key) ∧ W.cell? ⟨w.heap.size, 6, none⟩ = some (.string r.nm) ∧ W.cell? ⟨w.heap.size, 7, none⟩ = some (.string r.sec) ∧ W.cell? ⟨w.heap.size, 8, none⟩ = some (.string r.pn)) := fun W hW => ⟨by rw [← hk]; exact hW 0 _ rfl, hW 1 _ rfl, hW 6 _ rfl, hW 7 _ rfl, hW 8 _ rfl⟩
  have d0 : decide (r.sum < 2000) = true := by simp [h0]
  rw [d0] at HFew
  clear hR d0 hs hK
  generalize hB : reqB r = B at *
  clear hB
  generalize rqC r = cs at *
  clear h0
  generalize r.key = tkey at *
  generalize r.nm = tnm at *
  generalize r.sec = tsec at *
  generalize r.pn = tpn at *
  have d1 : decide (255 < (tkey.size : Int)) = false := by simp; omega
  have d2 : decide (255 < (tnm.size : Int)) = false := by simp; omega
  have d3 : decide (255 < (tsec.size : Int)) = false := by simp; omega
  have d4 : decide (255 < (tpn.size : Int)) = false := by simp; omega
  have HH := hide hhd
  have HLn := hide hlen
  clear hhd hlen hk hr
  generalize hq : w.heap.size = q at *
  go_enter Try.func6, Try.ntmps6
  go_wp2_with fail
  clear hq
  generalize w.alloc (.cells cs.toArray 25) = w0 at *
  refine (known_any w0).mono ?_
  rintro e w1 ⟨rfl, hT⟩
  have HT1 := hide hT
  have HR1 := hide (HR.out w1 hT)
  clear hT
  go_wp2_with (first | ((with_reducible refine load_sz 25 18 sz25 _ q 0 cs hlr ?_ HR1.out ?_); rfl) | fail)
  refine (HFew.out _).mono ?_
  rintro e w2 ⟨rfl, hT⟩
  have HT2 := hide (HT1.out.trans hT)
  have HR2 := hide (HR.out w2 (HT1.out.trans hT))
  clear hT HT1 HR1
  obtain ⟨c0, c1, c6, c7, c8⟩ := HC.out w2 HR2.out
  clear HFew
  go_wp2_with (first | ((with_reducible refine load_sz 25 18 sz25 _ q 0 cs hlr ?_ HR2.out ?_); rfl) | fail)
  refine (HEn.out _).mono ?_
  rintro e w3 ⟨v, rfl, hP⟩
  have HT3 := hide (HT0.out.trans (HT2.out.trans hP.old))
  obtain ⟨c0', c1', c6', c7', c8'⟩ := HC.out w3 (HR.out w3 (HT2.out.trans hP.old))
  have hln := HLn.out
  obtain ⟨g, cap, rfl, hxx, hxg, hxl, hB, hxf⟩ := own_bytes (hP.own rfl) (by show 0 < B.length; omega)
  have hg0 : w3.cell? ⟨g, 0, none⟩ = some (.int .u8 1) := by
    have hp : 0 < B.length := by omega
    have h5 := hB.cell0 (i := 0) hp
    rw [h5]
    have h6 := HH.out
    match B, hp, h6 with
    | x :: _, _, h6 => simp at h6; subst h6; rfl
  clear hP HR HC HEn HR2 c0 c1 c6 c7 c8 hB hxx hxg hxl hxf
  have hL : ((B.length : Nat) : Int) = 2 + (tkey.size : Int) + 24 := by omega
  have hL0 : (0 : Int) < 2 + (tkey.size : Int) + 24 := by omega
  clear hln HLn
  dsimp only
  generalize B.length = L at *
  go_wp2_with fail
  go_quiet (fail)
  go_wp2_with fail
  go_ret
  exact ⟨rfl, HT3.out.drewNr _⟩

set_option maxRecDepth 100000 in
set_option maxHeartbeats 3200000 in
theorem sizes4 (r : Rq) (hr : r.Fits) (hk : r.k = 4) (h0 : r.sum < 2000) (h1 : r.key.size ≤ 255) (h2 : r.nm.size ≤ 255) (h3 : r.sec.size ≤ 255) (h4 : r.pn.size ≤ 255) (w : World) : Calls Try.prog 6 #[.agg (rqC r).toArray] w fun e w' => e = .returned (.bool true) ∧ Turn [] w w' := by
  have hR := rng_new w (rqC r) (rqC r).toArray 25 rfl
  have HR : Hid (∀ W : World, Turn [] (w.alloc (.cells (rqC r).toArray 25)) W → W.rangeAt w.heap.size 0 (rqC r)) := fun W hT => rangeAt_keep hR (hT.block _ (by simp) (by simp))
  have HT0 : Hid (Turn [] w (w.alloc (.cells (rqC r).toArray 25))) := (Turn.refl [] w).alloc _
  have hlr := rqC_len r
  have HFew := hide (few_any r hr)
  have hK : isK r.k := by rw [hk]; unfold isK; omega
  have hs := enc_ok r hK (by
    unfold Fit txts
    rw [hk]
    simp [h1])
  have hlen := reqB_len r hK
  rw [hk] at hlen
  have hlen : (reqB r).length = 2 + r.key.size + 24 := by simpa using hlen
  have hhd : (reqB r).head? = some 4 := by unfold reqB; rw [hk]; rfl
  have HEn := hide (fun w => encreq w r hr.ok)
  rw [hs] at HEn
  have HC : Hid (∀ W : World, W.rangeAt w.heap.size 0 (rqC r) → W.cell? ⟨w.heap.size, 0, none⟩ = some (.int .i64 4) ∧ W.cell? ⟨w.heap.size, 1, none⟩ = some (.string r.key) ∧ W.cell? ⟨w.heap.size, 6, none⟩ = some (.string r.nm) ∧ W.cell? ⟨w.heap.size, 7, none⟩ = some (.string r.sec) ∧ W.cell? ⟨w.heap.size, 8, none⟩ = some (.string r.pn)) := fun W hW => ⟨by rw [← hk]; exact hW 0 _ rfl, hW 1 _ rfl, hW 6 _ rfl, hW 7 _ rfl, hW 8 _ rfl⟩
  have d0 : decide (r.sum < 2000) = true := by simp [h0]
  rw [d0] at HFew
  clear hR d0 hs hK
  generalize hB : reqB r = B at *
  clear hB
  generalize rqC r = cs at *
  clear h0
  generalize r.key = tkey at *
  generalize r.nm = tnm at *
  generalize r.sec = tsec at *
  generalize r.pn = tpn at *
  have d1 : decide (255 < (tkey.size : Int)) = false := by simp; omega
  have d2 : decide (255 < (tnm.size : Int)) = false := by simp; omega
  have d3 : decide (255 < (tsec.size : Int)) = false := by simp; omega
  have d4 : decide (255 < (tpn.size : Int)) = false := by simp; omega
  have HH := hide hhd
  have HLn := hide hlen
  clear hhd hlen hk hr
  generalize hq : w.heap.size = q at *
  go_enter Try.func6, Try.ntmps6
  go_wp2_with fail
  clear hq
  generalize w.alloc (.cells cs.toArray 25) = w0 at *
  refine (known_any w0).mono ?_
  rintro e w1 ⟨rfl, hT⟩
  have HT1 := hide hT
  have HR1 := hide (HR.out w1 hT)
  clear hT
  go_wp2_with (first | ((with_reducible refine load_sz 25 18 sz25 _ q 0 cs hlr ?_ HR1.out ?_); rfl) | fail)
  refine (HFew.out _).mono ?_
  rintro e w2 ⟨rfl, hT⟩
  have HT2 := hide (HT1.out.trans hT)
  have HR2 := hide (HR.out w2 (HT1.out.trans hT))
  clear hT HT1 HR1
  obtain ⟨c0, c1, c6, c7, c8⟩ := HC.out w2 HR2.out
  clear HFew
  go_wp2_with (first | ((with_reducible refine load_sz 25 18 sz25 _ q 0 cs hlr ?_ HR2.out ?_); rfl) | fail)
  refine (HEn.out _).mono ?_
  rintro e w3 ⟨v, rfl, hP⟩
  have HT3 := hide (HT0.out.trans (HT2.out.trans hP.old))
  obtain ⟨c0', c1', c6', c7', c8'⟩ := HC.out w3 (HR.out w3 (HT2.out.trans hP.old))
  have hln := HLn.out
  obtain ⟨g, cap, rfl, hxx, hxg, hxl, hB, hxf⟩ := own_bytes (hP.own rfl) (by show 0 < B.length; omega)
  have hg0 : w3.cell? ⟨g, 0, none⟩ = some (.int .u8 4) := by
    have hp : 0 < B.length := by omega
    have h5 := hB.cell0 (i := 0) hp
    rw [h5]
    have h6 := HH.out
    match B, hp, h6 with
    | x :: _, _, h6 => simp at h6; subst h6; rfl
  clear hP HR HC HEn HR2 c0 c1 c6 c7 c8 hB hxx hxg hxl hxf
  have hL : ((B.length : Nat) : Int) = 2 + (tkey.size : Int) + 24 := by omega
  have hL0 : (0 : Int) < 2 + (tkey.size : Int) + 24 := by omega
  clear hln HLn
  dsimp only
  generalize B.length = L at *
  go_wp2_with fail
  go_quiet (fail)
  go_wp2_with fail
  go_ret
  exact ⟨rfl, HT3.out.drewNr _⟩

set_option maxRecDepth 100000 in
set_option maxHeartbeats 3200000 in
theorem sizes2 (r : Rq) (hr : r.Fits) (hk : r.k = 2) (h0 : r.sum < 2000) (h1 : r.key.size ≤ 255) (h2 : r.nm.size ≤ 255) (h3 : r.sec.size ≤ 255) (h4 : r.pn.size ≤ 255) (w : World) : Calls Try.prog 6 #[.agg (rqC r).toArray] w fun e w' => e = .returned (.bool true) ∧ Turn [] w w' := by
  have hR := rng_new w (rqC r) (rqC r).toArray 25 rfl
  have HR : Hid (∀ W : World, Turn [] (w.alloc (.cells (rqC r).toArray 25)) W → W.rangeAt w.heap.size 0 (rqC r)) := fun W hT => rangeAt_keep hR (hT.block _ (by simp) (by simp))
  have HT0 : Hid (Turn [] w (w.alloc (.cells (rqC r).toArray 25))) := (Turn.refl [] w).alloc _
  have hlr := rqC_len r
  have HFew := hide (few_any r hr)
  have hK : isK r.k := by rw [hk]; unfold isK; omega
  have hs := enc_ok r hK (by
    unfold Fit txts
    rw [hk]
    simp [h1])
  have hlen := reqB_len r hK
  rw [hk] at hlen
  have hlen : (reqB r).length = 2 + r.key.size + 24 := by simpa using hlen
  have hhd : (reqB r).head? = some 2 := by unfold reqB; rw [hk]; rfl
  have HEn := hide (fun w => encreq w r hr.ok)
  rw [hs] at HEn
  have HC : Hid (∀ W : World, W.rangeAt w.heap.size 0 (rqC r) → W.cell? ⟨w.heap.size, 0, none⟩ = some (.int .i64 2) ∧ W.cell? ⟨w.heap.size, 1, none⟩ = some (.string r.key) ∧ W.cell? ⟨w.heap.size, 6, none⟩ = some (.string r.nm) ∧ W.cell? ⟨w.heap.size, 7, none⟩ = some (.string r.sec) ∧ W.cell? ⟨w.heap.size, 8, none⟩ = some (.string r.pn)) := fun W hW => ⟨by rw [← hk]; exact hW 0 _ rfl, hW 1 _ rfl, hW 6 _ rfl, hW 7 _ rfl, hW 8 _ rfl⟩
  have d0 : decide (r.sum < 2000) = true := by simp [h0]
  rw [d0] at HFew
  clear hR d0 hs hK
  generalize hB : reqB r = B at *
  clear hB
  generalize rqC r = cs at *
  clear h0
  generalize r.key = tkey at *
  generalize r.nm = tnm at *
  generalize r.sec = tsec at *
  generalize r.pn = tpn at *
  have d1 : decide (255 < (tkey.size : Int)) = false := by simp; omega
  have d2 : decide (255 < (tnm.size : Int)) = false := by simp; omega
  have d3 : decide (255 < (tsec.size : Int)) = false := by simp; omega
  have d4 : decide (255 < (tpn.size : Int)) = false := by simp; omega
  have HH := hide hhd
  have HLn := hide hlen
  clear hhd hlen hk hr
  generalize hq : w.heap.size = q at *
  go_enter Try.func6, Try.ntmps6
  go_wp2_with fail
  clear hq
  generalize w.alloc (.cells cs.toArray 25) = w0 at *
  refine (known_any w0).mono ?_
  rintro e w1 ⟨rfl, hT⟩
  have HT1 := hide hT
  have HR1 := hide (HR.out w1 hT)
  clear hT
  go_wp2_with (first | ((with_reducible refine load_sz 25 18 sz25 _ q 0 cs hlr ?_ HR1.out ?_); rfl) | fail)
  refine (HFew.out _).mono ?_
  rintro e w2 ⟨rfl, hT⟩
  have HT2 := hide (HT1.out.trans hT)
  have HR2 := hide (HR.out w2 (HT1.out.trans hT))
  clear hT HT1 HR1
  obtain ⟨c0, c1, c6, c7, c8⟩ := HC.out w2 HR2.out
  clear HFew
  go_wp2_with (first | ((with_reducible refine load_sz 25 18 sz25 _ q 0 cs hlr ?_ HR2.out ?_); rfl) | fail)
  refine (HEn.out _).mono ?_
  rintro e w3 ⟨v, rfl, hP⟩
  have HT3 := hide (HT0.out.trans (HT2.out.trans hP.old))
  obtain ⟨c0', c1', c6', c7', c8'⟩ := HC.out w3 (HR.out w3 (HT2.out.trans hP.old))
  have hln := HLn.out
  obtain ⟨g, cap, rfl, hxx, hxg, hxl, hB, hxf⟩ := own_bytes (hP.own rfl) (by show 0 < B.length; omega)
  have hg0 : w3.cell? ⟨g, 0, none⟩ = some (.int .u8 2) := by
    have hp : 0 < B.length := by omega
    have h5 := hB.cell0 (i := 0) hp
    rw [h5]
    have h6 := HH.out
    match B, hp, h6 with
    | x :: _, _, h6 => simp at h6; subst h6; rfl
  clear hP HR HC HEn HR2 c0 c1 c6 c7 c8 hB hxx hxg hxl hxf
  have hL : ((B.length : Nat) : Int) = 2 + (tkey.size : Int) + 24 := by omega
  have hL0 : (0 : Int) < 2 + (tkey.size : Int) + 24 := by omega
  clear hln HLn
  dsimp only
  generalize B.length = L at *
  go_wp2_with fail
  go_quiet (fail)
  go_wp2_with fail
  go_ret
  exact ⟨rfl, HT3.out.drewNr _⟩

set_option maxRecDepth 100000 in
set_option maxHeartbeats 3200000 in
theorem sizes3 (r : Rq) (hr : r.Fits) (hk : r.k = 3) (h0 : r.sum < 2000) (h1 : r.key.size ≤ 255) (h2 : r.nm.size ≤ 255) (h3 : r.sec.size ≤ 255) (h4 : r.pn.size ≤ 255) (w : World) : Calls Try.prog 6 #[.agg (rqC r).toArray] w fun e w' => e = .returned (.bool true) ∧ Turn [] w w' := by
  have hR := rng_new w (rqC r) (rqC r).toArray 25 rfl
  have HR : Hid (∀ W : World, Turn [] (w.alloc (.cells (rqC r).toArray 25)) W → W.rangeAt w.heap.size 0 (rqC r)) := fun W hT => rangeAt_keep hR (hT.block _ (by simp) (by simp))
  have HT0 : Hid (Turn [] w (w.alloc (.cells (rqC r).toArray 25))) := (Turn.refl [] w).alloc _
  have hlr := rqC_len r
  have HFew := hide (few_any r hr)
  have hK : isK r.k := by rw [hk]; unfold isK; omega
  have hs := enc_ok r hK (by
    unfold Fit txts
    rw [hk]
    simp [h1])
  have hlen := reqB_len r hK
  rw [hk] at hlen
  have hlen : (reqB r).length = 2 + r.key.size + 16 := by simpa using hlen
  have hhd : (reqB r).head? = some 3 := by unfold reqB; rw [hk]; rfl
  have HEn := hide (fun w => encreq w r hr.ok)
  rw [hs] at HEn
  have HC : Hid (∀ W : World, W.rangeAt w.heap.size 0 (rqC r) → W.cell? ⟨w.heap.size, 0, none⟩ = some (.int .i64 3) ∧ W.cell? ⟨w.heap.size, 1, none⟩ = some (.string r.key) ∧ W.cell? ⟨w.heap.size, 6, none⟩ = some (.string r.nm) ∧ W.cell? ⟨w.heap.size, 7, none⟩ = some (.string r.sec) ∧ W.cell? ⟨w.heap.size, 8, none⟩ = some (.string r.pn)) := fun W hW => ⟨by rw [← hk]; exact hW 0 _ rfl, hW 1 _ rfl, hW 6 _ rfl, hW 7 _ rfl, hW 8 _ rfl⟩
  have d0 : decide (r.sum < 2000) = true := by simp [h0]
  rw [d0] at HFew
  clear hR d0 hs hK
  generalize hB : reqB r = B at *
  clear hB
  generalize rqC r = cs at *
  clear h0
  generalize r.key = tkey at *
  generalize r.nm = tnm at *
  generalize r.sec = tsec at *
  generalize r.pn = tpn at *
  have d1 : decide (255 < (tkey.size : Int)) = false := by simp; omega
  have d2 : decide (255 < (tnm.size : Int)) = false := by simp; omega
  have d3 : decide (255 < (tsec.size : Int)) = false := by simp; omega
  have d4 : decide (255 < (tpn.size : Int)) = false := by simp; omega
  have HH := hide hhd
  have HLn := hide hlen
  clear hhd hlen hk hr
  generalize hq : w.heap.size = q at *
  go_enter Try.func6, Try.ntmps6
  go_wp2_with fail
  clear hq
  generalize w.alloc (.cells cs.toArray 25) = w0 at *
  refine (known_any w0).mono ?_
  rintro e w1 ⟨rfl, hT⟩
  have HT1 := hide hT
  have HR1 := hide (HR.out w1 hT)
  clear hT
  go_wp2_with (first | ((with_reducible refine load_sz 25 18 sz25 _ q 0 cs hlr ?_ HR1.out ?_); rfl) | fail)
  refine (HFew.out _).mono ?_
  rintro e w2 ⟨rfl, hT⟩
  have HT2 := hide (HT1.out.trans hT)
  have HR2 := hide (HR.out w2 (HT1.out.trans hT))
  clear hT HT1 HR1
  obtain ⟨c0, c1, c6, c7, c8⟩ := HC.out w2 HR2.out
  clear HFew
  go_wp2_with (first | ((with_reducible refine load_sz 25 18 sz25 _ q 0 cs hlr ?_ HR2.out ?_); rfl) | fail)
  refine (HEn.out _).mono ?_
  rintro e w3 ⟨v, rfl, hP⟩
  have HT3 := hide (HT0.out.trans (HT2.out.trans hP.old))
  obtain ⟨c0', c1', c6', c7', c8'⟩ := HC.out w3 (HR.out w3 (HT2.out.trans hP.old))
  have hln := HLn.out
  obtain ⟨g, cap, rfl, hxx, hxg, hxl, hB, hxf⟩ := own_bytes (hP.own rfl) (by show 0 < B.length; omega)
  have hg0 : w3.cell? ⟨g, 0, none⟩ = some (.int .u8 3) := by
    have hp : 0 < B.length := by omega
    have h5 := hB.cell0 (i := 0) hp
    rw [h5]
    have h6 := HH.out
    match B, hp, h6 with
    | x :: _, _, h6 => simp at h6; subst h6; rfl
  clear hP HR HC HEn HR2 c0 c1 c6 c7 c8 hB hxx hxg hxl hxf
  have hL : ((B.length : Nat) : Int) = 2 + (tkey.size : Int) + 16 := by omega
  have hL0 : (0 : Int) < 2 + (tkey.size : Int) + 16 := by omega
  clear hln HLn
  dsimp only
  generalize B.length = L at *
  go_wp2_with fail
  go_quiet (fail)
  go_wp2_with fail
  go_ret
  exact ⟨rfl, HT3.out.drewNr _⟩

set_option maxRecDepth 100000 in
set_option maxHeartbeats 3200000 in
theorem sizes5 (r : Rq) (hr : r.Fits) (hk : r.k = 5) (h0 : r.sum < 2000) (h1 : r.key.size ≤ 255) (h2 : r.nm.size ≤ 255) (h3 : r.sec.size ≤ 255) (h4 : r.pn.size ≤ 255) (w : World) : Calls Try.prog 6 #[.agg (rqC r).toArray] w fun e w' => e = .returned (.bool true) ∧ Turn [] w w' := by
  have hR := rng_new w (rqC r) (rqC r).toArray 25 rfl
  have HR : Hid (∀ W : World, Turn [] (w.alloc (.cells (rqC r).toArray 25)) W → W.rangeAt w.heap.size 0 (rqC r)) := fun W hT => rangeAt_keep hR (hT.block _ (by simp) (by simp))
  have HT0 : Hid (Turn [] w (w.alloc (.cells (rqC r).toArray 25))) := (Turn.refl [] w).alloc _
  have hlr := rqC_len r
  have HFew := hide (few_any r hr)
  have hK : isK r.k := by rw [hk]; unfold isK; omega
  have hs := enc_ok r hK (by
    unfold Fit txts
    rw [hk]
    simp [h1])
  have hlen := reqB_len r hK
  rw [hk] at hlen
  have hlen : (reqB r).length = 2 + r.key.size := by simpa using hlen
  have hhd : (reqB r).head? = some 5 := by unfold reqB; rw [hk]; rfl
  have HEn := hide (fun w => encreq w r hr.ok)
  rw [hs] at HEn
  have HC : Hid (∀ W : World, W.rangeAt w.heap.size 0 (rqC r) → W.cell? ⟨w.heap.size, 0, none⟩ = some (.int .i64 5) ∧ W.cell? ⟨w.heap.size, 1, none⟩ = some (.string r.key) ∧ W.cell? ⟨w.heap.size, 6, none⟩ = some (.string r.nm) ∧ W.cell? ⟨w.heap.size, 7, none⟩ = some (.string r.sec) ∧ W.cell? ⟨w.heap.size, 8, none⟩ = some (.string r.pn)) := fun W hW => ⟨by rw [← hk]; exact hW 0 _ rfl, hW 1 _ rfl, hW 6 _ rfl, hW 7 _ rfl, hW 8 _ rfl⟩
  have d0 : decide (r.sum < 2000) = true := by simp [h0]
  rw [d0] at HFew
  clear hR d0 hs hK
  generalize hB : reqB r = B at *
  clear hB
  generalize rqC r = cs at *
  clear h0
  generalize r.key = tkey at *
  generalize r.nm = tnm at *
  generalize r.sec = tsec at *
  generalize r.pn = tpn at *
  have d1 : decide (255 < (tkey.size : Int)) = false := by simp; omega
  have d2 : decide (255 < (tnm.size : Int)) = false := by simp; omega
  have d3 : decide (255 < (tsec.size : Int)) = false := by simp; omega
  have d4 : decide (255 < (tpn.size : Int)) = false := by simp; omega
  have HH := hide hhd
  have HLn := hide hlen
  clear hhd hlen hk hr
  generalize hq : w.heap.size = q at *
  go_enter Try.func6, Try.ntmps6
  go_wp2_with fail
  clear hq
  generalize w.alloc (.cells cs.toArray 25) = w0 at *
  refine (known_any w0).mono ?_
  rintro e w1 ⟨rfl, hT⟩
  have HT1 := hide hT
  have HR1 := hide (HR.out w1 hT)
  clear hT
  go_wp2_with (first | ((with_reducible refine load_sz 25 18 sz25 _ q 0 cs hlr ?_ HR1.out ?_); rfl) | fail)
  refine (HFew.out _).mono ?_
  rintro e w2 ⟨rfl, hT⟩
  have HT2 := hide (HT1.out.trans hT)
  have HR2 := hide (HR.out w2 (HT1.out.trans hT))
  clear hT HT1 HR1
  obtain ⟨c0, c1, c6, c7, c8⟩ := HC.out w2 HR2.out
  clear HFew
  go_wp2_with (first | ((with_reducible refine load_sz 25 18 sz25 _ q 0 cs hlr ?_ HR2.out ?_); rfl) | fail)
  refine (HEn.out _).mono ?_
  rintro e w3 ⟨v, rfl, hP⟩
  have HT3 := hide (HT0.out.trans (HT2.out.trans hP.old))
  obtain ⟨c0', c1', c6', c7', c8'⟩ := HC.out w3 (HR.out w3 (HT2.out.trans hP.old))
  have hln := HLn.out
  obtain ⟨g, cap, rfl, hxx, hxg, hxl, hB, hxf⟩ := own_bytes (hP.own rfl) (by show 0 < B.length; omega)
  have hg0 : w3.cell? ⟨g, 0, none⟩ = some (.int .u8 5) := by
    have hp : 0 < B.length := by omega
    have h5 := hB.cell0 (i := 0) hp
    rw [h5]
    have h6 := HH.out
    match B, hp, h6 with
    | x :: _, _, h6 => simp at h6; subst h6; rfl
  clear hP HR HC HEn HR2 c0 c1 c6 c7 c8 hB hxx hxg hxl hxf
  have hL : ((B.length : Nat) : Int) = 2 + (tkey.size : Int) := by omega
  have hL0 : (0 : Int) < 2 + (tkey.size : Int) := by omega
  clear hln HLn
  dsimp only
  generalize B.length = L at *
  go_wp2_with fail
  go_quiet (fail)
  go_wp2_with fail
  go_ret
  exact ⟨rfl, HT3.out.drewNr _⟩

set_option maxRecDepth 100000 in
set_option maxHeartbeats 3200000 in
theorem sizes16 (r : Rq) (hr : r.Fits) (hk : r.k = 16) (h0 : r.sum < 2000) (h1 : r.key.size ≤ 255) (h2 : r.nm.size ≤ 255) (h3 : r.sec.size ≤ 255) (h4 : r.pn.size ≤ 255) (w : World) : Calls Try.prog 6 #[.agg (rqC r).toArray] w fun e w' => e = .returned (.bool true) ∧ Turn [] w w' := by
  have hR := rng_new w (rqC r) (rqC r).toArray 25 rfl
  have HR : Hid (∀ W : World, Turn [] (w.alloc (.cells (rqC r).toArray 25)) W → W.rangeAt w.heap.size 0 (rqC r)) := fun W hT => rangeAt_keep hR (hT.block _ (by simp) (by simp))
  have HT0 : Hid (Turn [] w (w.alloc (.cells (rqC r).toArray 25))) := (Turn.refl [] w).alloc _
  have hlr := rqC_len r
  have HFew := hide (few_any r hr)
  have hK : isK r.k := by rw [hk]; unfold isK; omega
  have hs := enc_ok r hK (by
    unfold Fit txts
    rw [hk]
    simp [h1, h4])
  have hlen := reqB_len r hK
  rw [hk] at hlen
  have hlen : (reqB r).length = 2 + r.key.size + 1 + r.pn.size + 72 := by simpa using hlen
  have hhd : (reqB r).head? = some 16 := by unfold reqB; rw [hk]; rfl
  have HEn := hide (fun w => encreq w r hr.ok)
  rw [hs] at HEn
  have HC : Hid (∀ W : World, W.rangeAt w.heap.size 0 (rqC r) → W.cell? ⟨w.heap.size, 0, none⟩ = some (.int .i64 16) ∧ W.cell? ⟨w.heap.size, 1, none⟩ = some (.string r.key) ∧ W.cell? ⟨w.heap.size, 6, none⟩ = some (.string r.nm) ∧ W.cell? ⟨w.heap.size, 7, none⟩ = some (.string r.sec) ∧ W.cell? ⟨w.heap.size, 8, none⟩ = some (.string r.pn)) := fun W hW => ⟨by rw [← hk]; exact hW 0 _ rfl, hW 1 _ rfl, hW 6 _ rfl, hW 7 _ rfl, hW 8 _ rfl⟩
  have d0 : decide (r.sum < 2000) = true := by simp [h0]
  rw [d0] at HFew
  clear hR d0 hs hK
  generalize hB : reqB r = B at *
  clear hB
  generalize rqC r = cs at *
  clear h0
  generalize r.key = tkey at *
  generalize r.nm = tnm at *
  generalize r.sec = tsec at *
  generalize r.pn = tpn at *
  have d1 : decide (255 < (tkey.size : Int)) = false := by simp; omega
  have d2 : decide (255 < (tnm.size : Int)) = false := by simp; omega
  have d3 : decide (255 < (tsec.size : Int)) = false := by simp; omega
  have d4 : decide (255 < (tpn.size : Int)) = false := by simp; omega
  have HH := hide hhd
  have HLn := hide hlen
  clear hhd hlen hk hr
  generalize hq : w.heap.size = q at *
  go_enter Try.func6, Try.ntmps6
  go_wp2_with fail
  clear hq
  generalize w.alloc (.cells cs.toArray 25) = w0 at *
  refine (known_any w0).mono ?_
  rintro e w1 ⟨rfl, hT⟩
  have HT1 := hide hT
  have HR1 := hide (HR.out w1 hT)
  clear hT
  go_wp2_with (first | ((with_reducible refine load_sz 25 18 sz25 _ q 0 cs hlr ?_ HR1.out ?_); rfl) | fail)
  refine (HFew.out _).mono ?_
  rintro e w2 ⟨rfl, hT⟩
  have HT2 := hide (HT1.out.trans hT)
  have HR2 := hide (HR.out w2 (HT1.out.trans hT))
  clear hT HT1 HR1
  obtain ⟨c0, c1, c6, c7, c8⟩ := HC.out w2 HR2.out
  clear HFew
  go_wp2_with (first | ((with_reducible refine load_sz 25 18 sz25 _ q 0 cs hlr ?_ HR2.out ?_); rfl) | fail)
  refine (HEn.out _).mono ?_
  rintro e w3 ⟨v, rfl, hP⟩
  have HT3 := hide (HT0.out.trans (HT2.out.trans hP.old))
  obtain ⟨c0', c1', c6', c7', c8'⟩ := HC.out w3 (HR.out w3 (HT2.out.trans hP.old))
  have hln := HLn.out
  obtain ⟨g, cap, rfl, hxx, hxg, hxl, hB, hxf⟩ := own_bytes (hP.own rfl) (by show 0 < B.length; omega)
  have hg0 : w3.cell? ⟨g, 0, none⟩ = some (.int .u8 16) := by
    have hp : 0 < B.length := by omega
    have h5 := hB.cell0 (i := 0) hp
    rw [h5]
    have h6 := HH.out
    match B, hp, h6 with
    | x :: _, _, h6 => simp at h6; subst h6; rfl
  clear hP HR HC HEn HR2 c0 c1 c6 c7 c8 hB hxx hxg hxl hxf
  have hL : ((B.length : Nat) : Int) = 2 + (tkey.size : Int) + 1 + (tpn.size : Int) + 72 := by omega
  have hL0 : (0 : Int) < 2 + (tkey.size : Int) + 1 + (tpn.size : Int) + 72 := by omega
  clear hln HLn
  dsimp only
  generalize B.length = L at *
  go_wp2_with fail
  go_quiet (fail)
  go_wp2_with fail
  go_ret
  exact ⟨rfl, HT3.out.drewNr _⟩

set_option maxRecDepth 100000 in
set_option maxHeartbeats 3200000 in
theorem sizes17 (r : Rq) (hr : r.Fits) (hk : r.k = 17) (h0 : r.sum < 2000) (h1 : r.key.size ≤ 255) (h2 : r.nm.size ≤ 255) (h3 : r.sec.size ≤ 255) (h4 : r.pn.size ≤ 255) (w : World) : Calls Try.prog 6 #[.agg (rqC r).toArray] w fun e w' => e = .returned (.bool true) ∧ Turn [] w w' := by
  have hR := rng_new w (rqC r) (rqC r).toArray 25 rfl
  have HR : Hid (∀ W : World, Turn [] (w.alloc (.cells (rqC r).toArray 25)) W → W.rangeAt w.heap.size 0 (rqC r)) := fun W hT => rangeAt_keep hR (hT.block _ (by simp) (by simp))
  have HT0 : Hid (Turn [] w (w.alloc (.cells (rqC r).toArray 25))) := (Turn.refl [] w).alloc _
  have hlr := rqC_len r
  have HFew := hide (few_any r hr)
  have hK : isK r.k := by rw [hk]; unfold isK; omega
  have hs := enc_ok r hK (by
    unfold Fit txts
    rw [hk]
    simp [h1, h2, h3, h4])
  have hlen := reqB_len r hK
  rw [hk] at hlen
  have hlen : (reqB r).length = 2 + r.key.size + 3 + r.nm.size + r.sec.size + r.pn.size + 8 := by simpa using hlen
  have hhd : (reqB r).head? = some 17 := by unfold reqB; rw [hk]; rfl
  have HEn := hide (fun w => encreq w r hr.ok)
  rw [hs] at HEn
  have HC : Hid (∀ W : World, W.rangeAt w.heap.size 0 (rqC r) → W.cell? ⟨w.heap.size, 0, none⟩ = some (.int .i64 17) ∧ W.cell? ⟨w.heap.size, 1, none⟩ = some (.string r.key) ∧ W.cell? ⟨w.heap.size, 6, none⟩ = some (.string r.nm) ∧ W.cell? ⟨w.heap.size, 7, none⟩ = some (.string r.sec) ∧ W.cell? ⟨w.heap.size, 8, none⟩ = some (.string r.pn)) := fun W hW => ⟨by rw [← hk]; exact hW 0 _ rfl, hW 1 _ rfl, hW 6 _ rfl, hW 7 _ rfl, hW 8 _ rfl⟩
  have d0 : decide (r.sum < 2000) = true := by simp [h0]
  rw [d0] at HFew
  clear hR d0 hs hK
  generalize hB : reqB r = B at *
  clear hB
  generalize rqC r = cs at *
  clear h0
  generalize r.key = tkey at *
  generalize r.nm = tnm at *
  generalize r.sec = tsec at *
  generalize r.pn = tpn at *
  have d1 : decide (255 < (tkey.size : Int)) = false := by simp; omega
  have d2 : decide (255 < (tnm.size : Int)) = false := by simp; omega
  have d3 : decide (255 < (tsec.size : Int)) = false := by simp; omega
  have d4 : decide (255 < (tpn.size : Int)) = false := by simp; omega
  have HH := hide hhd
  have HLn := hide hlen
  clear hhd hlen hk hr
  generalize hq : w.heap.size = q at *
  go_enter Try.func6, Try.ntmps6
  go_wp2_with fail
  clear hq
  generalize w.alloc (.cells cs.toArray 25) = w0 at *
  refine (known_any w0).mono ?_
  rintro e w1 ⟨rfl, hT⟩
  have HT1 := hide hT
  have HR1 := hide (HR.out w1 hT)
  clear hT
  go_wp2_with (first | ((with_reducible refine load_sz 25 18 sz25 _ q 0 cs hlr ?_ HR1.out ?_); rfl) | fail)
  refine (HFew.out _).mono ?_
  rintro e w2 ⟨rfl, hT⟩
  have HT2 := hide (HT1.out.trans hT)
  have HR2 := hide (HR.out w2 (HT1.out.trans hT))
  clear hT HT1 HR1
  obtain ⟨c0, c1, c6, c7, c8⟩ := HC.out w2 HR2.out
  clear HFew
  go_wp2_with (first | ((with_reducible refine load_sz 25 18 sz25 _ q 0 cs hlr ?_ HR2.out ?_); rfl) | fail)
  refine (HEn.out _).mono ?_
  rintro e w3 ⟨v, rfl, hP⟩
  have HT3 := hide (HT0.out.trans (HT2.out.trans hP.old))
  obtain ⟨c0', c1', c6', c7', c8'⟩ := HC.out w3 (HR.out w3 (HT2.out.trans hP.old))
  have hln := HLn.out
  obtain ⟨g, cap, rfl, hxx, hxg, hxl, hB, hxf⟩ := own_bytes (hP.own rfl) (by show 0 < B.length; omega)
  have hg0 : w3.cell? ⟨g, 0, none⟩ = some (.int .u8 17) := by
    have hp : 0 < B.length := by omega
    have h5 := hB.cell0 (i := 0) hp
    rw [h5]
    have h6 := HH.out
    match B, hp, h6 with
    | x :: _, _, h6 => simp at h6; subst h6; rfl
  clear hP HR HC HEn HR2 c0 c1 c6 c7 c8 hB hxx hxg hxl hxf
  have hL : ((B.length : Nat) : Int) = 2 + (tkey.size : Int) + 3 + (tnm.size : Int) + (tsec.size : Int) + (tpn.size : Int) + 8 := by omega
  have hL0 : (0 : Int) < 2 + (tkey.size : Int) + 3 + (tnm.size : Int) + (tsec.size : Int) + (tpn.size : Int) + 8 := by omega
  clear hln HLn
  dsimp only
  generalize B.length = L at *
  go_wp2_with fail
  go_quiet (fail)
  go_wp2_with fail
  go_ret
  exact ⟨rfl, HT3.out.drewNr _⟩

set_option maxRecDepth 100000 in
set_option maxHeartbeats 3200000 in
theorem sizes18 (r : Rq) (hr : r.Fits) (hk : r.k = 18) (h0 : r.sum < 2000) (h1 : r.key.size ≤ 255) (h2 : r.nm.size ≤ 255) (h3 : r.sec.size ≤ 255) (h4 : r.pn.size ≤ 255) (w : World) : Calls Try.prog 6 #[.agg (rqC r).toArray] w fun e w' => e = .returned (.bool true) ∧ Turn [] w w' := by
  have hR := rng_new w (rqC r) (rqC r).toArray 25 rfl
  have HR : Hid (∀ W : World, Turn [] (w.alloc (.cells (rqC r).toArray 25)) W → W.rangeAt w.heap.size 0 (rqC r)) := fun W hT => rangeAt_keep hR (hT.block _ (by simp) (by simp))
  have HT0 : Hid (Turn [] w (w.alloc (.cells (rqC r).toArray 25))) := (Turn.refl [] w).alloc _
  have hlr := rqC_len r
  have HFew := hide (few_any r hr)
  have hK : isK r.k := by rw [hk]; unfold isK; omega
  have hs := enc_ok r hK (by
    unfold Fit txts
    rw [hk]
    simp [h1, h2, h4])
  have hlen := reqB_len r hK
  rw [hk] at hlen
  have hlen : (reqB r).length = 2 + r.key.size + 2 + r.nm.size + r.pn.size + 8 := by simpa using hlen
  have hhd : (reqB r).head? = some 18 := by unfold reqB; rw [hk]; rfl
  have HEn := hide (fun w => encreq w r hr.ok)
  rw [hs] at HEn
  have HC : Hid (∀ W : World, W.rangeAt w.heap.size 0 (rqC r) → W.cell? ⟨w.heap.size, 0, none⟩ = some (.int .i64 18) ∧ W.cell? ⟨w.heap.size, 1, none⟩ = some (.string r.key) ∧ W.cell? ⟨w.heap.size, 6, none⟩ = some (.string r.nm) ∧ W.cell? ⟨w.heap.size, 7, none⟩ = some (.string r.sec) ∧ W.cell? ⟨w.heap.size, 8, none⟩ = some (.string r.pn)) := fun W hW => ⟨by rw [← hk]; exact hW 0 _ rfl, hW 1 _ rfl, hW 6 _ rfl, hW 7 _ rfl, hW 8 _ rfl⟩
  have d0 : decide (r.sum < 2000) = true := by simp [h0]
  rw [d0] at HFew
  clear hR d0 hs hK
  generalize hB : reqB r = B at *
  clear hB
  generalize rqC r = cs at *
  clear h0
  generalize r.key = tkey at *
  generalize r.nm = tnm at *
  generalize r.sec = tsec at *
  generalize r.pn = tpn at *
  have d1 : decide (255 < (tkey.size : Int)) = false := by simp; omega
  have d2 : decide (255 < (tnm.size : Int)) = false := by simp; omega
  have d3 : decide (255 < (tsec.size : Int)) = false := by simp; omega
  have d4 : decide (255 < (tpn.size : Int)) = false := by simp; omega
  have HH := hide hhd
  have HLn := hide hlen
  clear hhd hlen hk hr
  generalize hq : w.heap.size = q at *
  go_enter Try.func6, Try.ntmps6
  go_wp2_with fail
  clear hq
  generalize w.alloc (.cells cs.toArray 25) = w0 at *
  refine (known_any w0).mono ?_
  rintro e w1 ⟨rfl, hT⟩
  have HT1 := hide hT
  have HR1 := hide (HR.out w1 hT)
  clear hT
  go_wp2_with (first | ((with_reducible refine load_sz 25 18 sz25 _ q 0 cs hlr ?_ HR1.out ?_); rfl) | fail)
  refine (HFew.out _).mono ?_
  rintro e w2 ⟨rfl, hT⟩
  have HT2 := hide (HT1.out.trans hT)
  have HR2 := hide (HR.out w2 (HT1.out.trans hT))
  clear hT HT1 HR1
  obtain ⟨c0, c1, c6, c7, c8⟩ := HC.out w2 HR2.out
  clear HFew
  go_wp2_with (first | ((with_reducible refine load_sz 25 18 sz25 _ q 0 cs hlr ?_ HR2.out ?_); rfl) | fail)
  refine (HEn.out _).mono ?_
  rintro e w3 ⟨v, rfl, hP⟩
  have HT3 := hide (HT0.out.trans (HT2.out.trans hP.old))
  obtain ⟨c0', c1', c6', c7', c8'⟩ := HC.out w3 (HR.out w3 (HT2.out.trans hP.old))
  have hln := HLn.out
  obtain ⟨g, cap, rfl, hxx, hxg, hxl, hB, hxf⟩ := own_bytes (hP.own rfl) (by show 0 < B.length; omega)
  have hg0 : w3.cell? ⟨g, 0, none⟩ = some (.int .u8 18) := by
    have hp : 0 < B.length := by omega
    have h5 := hB.cell0 (i := 0) hp
    rw [h5]
    have h6 := HH.out
    match B, hp, h6 with
    | x :: _, _, h6 => simp at h6; subst h6; rfl
  clear hP HR HC HEn HR2 c0 c1 c6 c7 c8 hB hxx hxg hxl hxf
  have hL : ((B.length : Nat) : Int) = 2 + (tkey.size : Int) + 2 + (tnm.size : Int) + (tpn.size : Int) + 8 := by omega
  have hL0 : (0 : Int) < 2 + (tkey.size : Int) + 2 + (tnm.size : Int) + (tpn.size : Int) + 8 := by omega
  clear hln HLn
  dsimp only
  generalize B.length = L at *
  go_wp2_with fail
  go_quiet (fail)
  go_wp2_with fail
  go_ret
  exact ⟨rfl, HT3.out.drewNr _⟩

set_option maxRecDepth 100000 in
set_option maxHeartbeats 3200000 in
theorem sizes19 (r : Rq) (hr : r.Fits) (hk : r.k = 19) (h0 : r.sum < 2000) (h1 : r.key.size ≤ 255) (h2 : r.nm.size ≤ 255) (h3 : r.sec.size ≤ 255) (h4 : r.pn.size ≤ 255) (w : World) : Calls Try.prog 6 #[.agg (rqC r).toArray] w fun e w' => e = .returned (.bool true) ∧ Turn [] w w' := by
  have hR := rng_new w (rqC r) (rqC r).toArray 25 rfl
  have HR : Hid (∀ W : World, Turn [] (w.alloc (.cells (rqC r).toArray 25)) W → W.rangeAt w.heap.size 0 (rqC r)) := fun W hT => rangeAt_keep hR (hT.block _ (by simp) (by simp))
  have HT0 : Hid (Turn [] w (w.alloc (.cells (rqC r).toArray 25))) := (Turn.refl [] w).alloc _
  have hlr := rqC_len r
  have HFew := hide (few_any r hr)
  have hK : isK r.k := by rw [hk]; unfold isK; omega
  have hs := enc_ok r hK (by
    unfold Fit txts
    rw [hk]
    simp [h1])
  have hlen := reqB_len r hK
  rw [hk] at hlen
  have hlen : (reqB r).length = 2 + r.key.size + 8 := by simpa using hlen
  have hhd : (reqB r).head? = some 19 := by unfold reqB; rw [hk]; rfl
  have HEn := hide (fun w => encreq w r hr.ok)
  rw [hs] at HEn
  have HC : Hid (∀ W : World, W.rangeAt w.heap.size 0 (rqC r) → W.cell? ⟨w.heap.size, 0, none⟩ = some (.int .i64 19) ∧ W.cell? ⟨w.heap.size, 1, none⟩ = some (.string r.key) ∧ W.cell? ⟨w.heap.size, 6, none⟩ = some (.string r.nm) ∧ W.cell? ⟨w.heap.size, 7, none⟩ = some (.string r.sec) ∧ W.cell? ⟨w.heap.size, 8, none⟩ = some (.string r.pn)) := fun W hW => ⟨by rw [← hk]; exact hW 0 _ rfl, hW 1 _ rfl, hW 6 _ rfl, hW 7 _ rfl, hW 8 _ rfl⟩
  have d0 : decide (r.sum < 2000) = true := by simp [h0]
  rw [d0] at HFew
  clear hR d0 hs hK
  generalize hB : reqB r = B at *
  clear hB
  generalize rqC r = cs at *
  clear h0
  generalize r.key = tkey at *
  generalize r.nm = tnm at *
  generalize r.sec = tsec at *
  generalize r.pn = tpn at *
  have d1 : decide (255 < (tkey.size : Int)) = false := by simp; omega
  have d2 : decide (255 < (tnm.size : Int)) = false := by simp; omega
  have d3 : decide (255 < (tsec.size : Int)) = false := by simp; omega
  have d4 : decide (255 < (tpn.size : Int)) = false := by simp; omega
  have HH := hide hhd
  have HLn := hide hlen
  clear hhd hlen hk hr
  generalize hq : w.heap.size = q at *
  go_enter Try.func6, Try.ntmps6
  go_wp2_with fail
  clear hq
  generalize w.alloc (.cells cs.toArray 25) = w0 at *
  refine (known_any w0).mono ?_
  rintro e w1 ⟨rfl, hT⟩
  have HT1 := hide hT
  have HR1 := hide (HR.out w1 hT)
  clear hT
  go_wp2_with (first | ((with_reducible refine load_sz 25 18 sz25 _ q 0 cs hlr ?_ HR1.out ?_); rfl) | fail)
  refine (HFew.out _).mono ?_
  rintro e w2 ⟨rfl, hT⟩
  have HT2 := hide (HT1.out.trans hT)
  have HR2 := hide (HR.out w2 (HT1.out.trans hT))
  clear hT HT1 HR1
  obtain ⟨c0, c1, c6, c7, c8⟩ := HC.out w2 HR2.out
  clear HFew
  go_wp2_with (first | ((with_reducible refine load_sz 25 18 sz25 _ q 0 cs hlr ?_ HR2.out ?_); rfl) | fail)
  refine (HEn.out _).mono ?_
  rintro e w3 ⟨v, rfl, hP⟩
  have HT3 := hide (HT0.out.trans (HT2.out.trans hP.old))
  obtain ⟨c0', c1', c6', c7', c8'⟩ := HC.out w3 (HR.out w3 (HT2.out.trans hP.old))
  have hln := HLn.out
  obtain ⟨g, cap, rfl, hxx, hxg, hxl, hB, hxf⟩ := own_bytes (hP.own rfl) (by show 0 < B.length; omega)
  have hg0 : w3.cell? ⟨g, 0, none⟩ = some (.int .u8 19) := by
    have hp : 0 < B.length := by omega
    have h5 := hB.cell0 (i := 0) hp
    rw [h5]
    have h6 := HH.out
    match B, hp, h6 with
    | x :: _, _, h6 => simp at h6; subst h6; rfl
  clear hP HR HC HEn HR2 c0 c1 c6 c7 c8 hB hxx hxg hxl hxf
  have hL : ((B.length : Nat) : Int) = 2 + (tkey.size : Int) + 8 := by omega
  have hL0 : (0 : Int) < 2 + (tkey.size : Int) + 8 := by omega
  clear hln HLn
  dsimp only
  generalize B.length = L at *
  go_wp2_with fail
  go_quiet (fail)
  go_wp2_with fail
  go_ret
  exact ⟨rfl, HT3.out.drewNr _⟩

set_option maxRecDepth 100000 in
set_option maxHeartbeats 3200000 in
theorem sizes20 (r : Rq) (hr : r.Fits) (hk : r.k = 20) (h0 : r.sum < 2000) (h1 : r.key.size ≤ 255) (h2 : r.nm.size ≤ 255) (h3 : r.sec.size ≤ 255) (h4 : r.pn.size ≤ 255) (w : World) : Calls Try.prog 6 #[.agg (rqC r).toArray] w fun e w' => e = .returned (.bool true) ∧ Turn [] w w' := by
  have hR := rng_new w (rqC r) (rqC r).toArray 25 rfl
  have HR : Hid (∀ W : World, Turn [] (w.alloc (.cells (rqC r).toArray 25)) W → W.rangeAt w.heap.size 0 (rqC r)) := fun W hT => rangeAt_keep hR (hT.block _ (by simp) (by simp))
  have HT0 : Hid (Turn [] w (w.alloc (.cells (rqC r).toArray 25))) := (Turn.refl [] w).alloc _
  have hlr := rqC_len r
  have HFew := hide (few_any r hr)
  have hK : isK r.k := by rw [hk]; unfold isK; omega
  have hs := enc_ok r hK (by
    unfold Fit txts
    rw [hk]
    simp [h1, h2])
  have hlen := reqB_len r hK
  rw [hk] at hlen
  have hlen : (reqB r).length = 2 + r.key.size + 1 + r.nm.size + 8 := by simpa using hlen
  have hhd : (reqB r).head? = some 20 := by unfold reqB; rw [hk]; rfl
  have HEn := hide (fun w => encreq w r hr.ok)
  rw [hs] at HEn
  have HC : Hid (∀ W : World, W.rangeAt w.heap.size 0 (rqC r) → W.cell? ⟨w.heap.size, 0, none⟩ = some (.int .i64 20) ∧ W.cell? ⟨w.heap.size, 1, none⟩ = some (.string r.key) ∧ W.cell? ⟨w.heap.size, 6, none⟩ = some (.string r.nm) ∧ W.cell? ⟨w.heap.size, 7, none⟩ = some (.string r.sec) ∧ W.cell? ⟨w.heap.size, 8, none⟩ = some (.string r.pn)) := fun W hW => ⟨by rw [← hk]; exact hW 0 _ rfl, hW 1 _ rfl, hW 6 _ rfl, hW 7 _ rfl, hW 8 _ rfl⟩
  have d0 : decide (r.sum < 2000) = true := by simp [h0]
  rw [d0] at HFew
  clear hR d0 hs hK
  generalize hB : reqB r = B at *
  clear hB
  generalize rqC r = cs at *
  clear h0
  generalize r.key = tkey at *
  generalize r.nm = tnm at *
  generalize r.sec = tsec at *
  generalize r.pn = tpn at *
  have d1 : decide (255 < (tkey.size : Int)) = false := by simp; omega
  have d2 : decide (255 < (tnm.size : Int)) = false := by simp; omega
  have d3 : decide (255 < (tsec.size : Int)) = false := by simp; omega
  have d4 : decide (255 < (tpn.size : Int)) = false := by simp; omega
  have HH := hide hhd
  have HLn := hide hlen
  clear hhd hlen hk hr
  generalize hq : w.heap.size = q at *
  go_enter Try.func6, Try.ntmps6
  go_wp2_with fail
  clear hq
  generalize w.alloc (.cells cs.toArray 25) = w0 at *
  refine (known_any w0).mono ?_
  rintro e w1 ⟨rfl, hT⟩
  have HT1 := hide hT
  have HR1 := hide (HR.out w1 hT)
  clear hT
  go_wp2_with (first | ((with_reducible refine load_sz 25 18 sz25 _ q 0 cs hlr ?_ HR1.out ?_); rfl) | fail)
  refine (HFew.out _).mono ?_
  rintro e w2 ⟨rfl, hT⟩
  have HT2 := hide (HT1.out.trans hT)
  have HR2 := hide (HR.out w2 (HT1.out.trans hT))
  clear hT HT1 HR1
  obtain ⟨c0, c1, c6, c7, c8⟩ := HC.out w2 HR2.out
  clear HFew
  go_wp2_with (first | ((with_reducible refine load_sz 25 18 sz25 _ q 0 cs hlr ?_ HR2.out ?_); rfl) | fail)
  refine (HEn.out _).mono ?_
  rintro e w3 ⟨v, rfl, hP⟩
  have HT3 := hide (HT0.out.trans (HT2.out.trans hP.old))
  obtain ⟨c0', c1', c6', c7', c8'⟩ := HC.out w3 (HR.out w3 (HT2.out.trans hP.old))
  have hln := HLn.out
  obtain ⟨g, cap, rfl, hxx, hxg, hxl, hB, hxf⟩ := own_bytes (hP.own rfl) (by show 0 < B.length; omega)
  have hg0 : w3.cell? ⟨g, 0, none⟩ = some (.int .u8 20) := by
    have hp : 0 < B.length := by omega
    have h5 := hB.cell0 (i := 0) hp
    rw [h5]
    have h6 := HH.out
    match B, hp, h6 with
    | x :: _, _, h6 => simp at h6; subst h6; rfl
  clear hP HR HC HEn HR2 c0 c1 c6 c7 c8 hB hxx hxg hxl hxf
  have hL : ((B.length : Nat) : Int) = 2 + (tkey.size : Int) + 1 + (tnm.size : Int) + 8 := by omega
  have hL0 : (0 : Int) < 2 + (tkey.size : Int) + 1 + (tnm.size : Int) + 8 := by omega
  clear hln HLn
  dsimp only
  generalize B.length = L at *
  go_wp2_with fail
  go_quiet (fail)
  go_wp2_with fail
  go_ret
  exact ⟨rfl, HT3.out.drewNr _⟩

set_option maxRecDepth 100000 in
set_option maxHeartbeats 3200000 in
theorem sizesno (r : Rq) (hr : r.Fits) (hk : ¬ isK r.k) (h0 : r.sum < 2000) (h1 : r.key.size ≤ 255) (h2 : r.nm.size ≤ 255) (h3 : r.sec.size ≤ 255) (h4 : r.pn.size ≤ 255) (w : World) : Calls Try.prog 6 #[.agg (rqC r).toArray] w fun e w' => e = .returned (.bool true) ∧ Turn [] w w' := by
  have hR := rng_new w (rqC r) (rqC r).toArray 25 rfl
  have HR : Hid (∀ W : World, Turn [] (w.alloc (.cells (rqC r).toArray 25)) W → W.rangeAt w.heap.size 0 (rqC r)) := fun W hT => rangeAt_keep hR (hT.block _ (by simp) (by simp))
  have HT0 : Hid (Turn [] w (w.alloc (.cells (rqC r).toArray 25))) := (Turn.refl [] w).alloc _
  have hlr := rqC_len r
  have HFew := hide (few_any r hr)
  have hs := enc_no r hk
  have HEn := hide (fun w => encreq w r hr.ok)
  generalize (reqS wrC ⟨[], 0⟩ r).1 = S at *
  obtain ⟨sl, se⟩ := S
  obtain rfl : se = 3 := hs
  have HC : Hid (∀ W : World, W.rangeAt w.heap.size 0 (rqC r) → W.cell? ⟨w.heap.size, 0, none⟩ = some (.int .i64 r.k) ∧ W.cell? ⟨w.heap.size, 1, none⟩ = some (.string r.key) ∧ W.cell? ⟨w.heap.size, 6, none⟩ = some (.string r.nm) ∧ W.cell? ⟨w.heap.size, 7, none⟩ = some (.string r.sec) ∧ W.cell? ⟨w.heap.size, 8, none⟩ = some (.string r.pn)) := fun W hW => ⟨hW 0 _ rfl, hW 1 _ rfl, hW 6 _ rfl, hW 7 _ rfl, hW 8 _ rfl⟩
  have d0 : decide (r.sum < 2000) = true := by simp [h0]
  rw [d0] at HFew
  clear hR d0
  have hkk : ¬ r.k = 1 ∧ ¬ r.k = 4 ∧ ¬ r.k = 2 ∧ ¬ r.k = 3 ∧ ¬ r.k = 5 ∧ ¬ r.k = 16 ∧ ¬ r.k = 17 ∧ ¬ r.k = 18 ∧ ¬ r.k = 19 ∧ ¬ r.k = 20 := by
    unfold isK at hk
    simpa only [not_or] using hk
  generalize r.k = kk at *
  clear hk
  generalize rqC r = cs at *
  clear h0
  generalize r.key = tkey at *
  generalize r.nm = tnm at *
  generalize r.sec = tsec at *
  generalize r.pn = tpn at *
  have d1 : decide (255 < (tkey.size : Int)) = false := by simp; omega
  have d2 : decide (255 < (tnm.size : Int)) = false := by simp; omega
  have d3 : decide (255 < (tsec.size : Int)) = false := by simp; omega
  have d4 : decide (255 < (tpn.size : Int)) = false := by simp; omega
  clear hr
  generalize hq : w.heap.size = q at *
  go_enter Try.func6, Try.ntmps6
  go_wp2_with fail
  clear hq
  generalize w.alloc (.cells cs.toArray 25) = w0 at *
  refine (known_any w0).mono ?_
  rintro e w1 ⟨rfl, hT⟩
  have HT1 := hide hT
  have HR1 := hide (HR.out w1 hT)
  clear hT
  go_wp2_with (first | ((with_reducible refine load_sz 25 18 sz25 _ q 0 cs hlr ?_ HR1.out ?_); rfl) | fail)
  refine (HFew.out _).mono ?_
  rintro e w2 ⟨rfl, hT⟩
  have HT2 := hide (HT1.out.trans hT)
  have HR2 := hide (HR.out w2 (HT1.out.trans hT))
  clear hT HT1 HR1
  obtain ⟨c0, c1, c6, c7, c8⟩ := HC.out w2 HR2.out
  clear HFew
  go_wp2_with (first | ((with_reducible refine load_sz 25 18 sz25 _ q 0 cs hlr ?_ HR2.out ?_); rfl) | fail)
  refine (HEn.out _).mono ?_
  rintro e w3 ⟨v, rfl, hP⟩
  have HT3 := hide (HT0.out.trans (HT2.out.trans hP.old))
  obtain ⟨c0', c1', c6', c7', c8'⟩ := HC.out w3 (HR.out w3 (HT2.out.trans hP.old))
  obtain rfl := hP.no (by simp)
  obtain ⟨b1, b2, b3, b4, b5, b6, b7, b8, b9, b10⟩ := hkk
  clear hP HR HC HEn HR2 c0 c1 c6 c7 c8
  dsimp only
  go_wp2_with fail
  go_ret
  exact ⟨rfl, HT3.out⟩

theorem sizes_any (r : Rq) (w : World) (_hn : r.Nums) (hr : r.Fits) : Calls Try.prog 6 #[.agg (rqC r).toArray] w fun e w' => e = .returned (.bool true) ∧ Turn [] w w' := by
  by_cases h : r.sum < 2000 ∧ r.key.size ≤ 255 ∧ r.nm.size ≤ 255 ∧ r.sec.size ≤ 255 ∧ r.pn.size ≤ 255
  · obtain ⟨h0, h1, h2, h3, h4⟩ := h
    by_cases hk : isK r.k
    · rcases hk with hk | hk | hk | hk | hk | hk | hk | hk | hk | hk
      · exact sizes1 r hr hk h0 h1 h2 h3 h4 w
      · exact sizes4 r hr hk h0 h1 h2 h3 h4 w
      · exact sizes2 r hr hk h0 h1 h2 h3 h4 w
      · exact sizes3 r hr hk h0 h1 h2 h3 h4 w
      · exact sizes5 r hr hk h0 h1 h2 h3 h4 w
      · exact sizes16 r hr hk h0 h1 h2 h3 h4 w
      · exact sizes17 r hr hk h0 h1 h2 h3 h4 w
      · exact sizes18 r hr hk h0 h1 h2 h3 h4 w
      · exact sizes19 r hr hk h0 h1 h2 h3 h4 w
      · exact sizes20 r hr hk h0 h1 h2 h3 h4 w
    · exact sizesno r hr hk h0 h1 h2 h3 h4 w
  · exact sizes_out r hr h w

end Go.Proofs.Ytkbboingeacgjaa
