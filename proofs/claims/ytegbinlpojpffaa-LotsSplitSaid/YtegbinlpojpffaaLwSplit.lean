/-
  LotsSplit, walked.
-/
import Derived.Test.YtegbinlpojpffaaLHead
import Derived.Test.YtegbinlpojpffaaLSplitP
namespace Go.Proofs.Ytegbinlpojpffaa
open Go.RowKit Go.Maps Lo

set_option maxRecDepth 100000 in
set_option maxHeartbeats 4000000 in
theorem split_any (a : Option Addr) (cap : Nat) (l : List Lt) (n m now : Int) (w : World) (hlen : l.length ≤ 9223372036854775807) (hL : LotsAt w a l) :
    Calls Try.prog 8 #[.slice a l.length cap, .int .i64 n, .int .i64 m, .int .i64 now] w fun e w' => e = .returned (.bool true) ∧ Turn [] w w' := by
  have HL := hide hL
  clear hL
  go_enter Try.func8, Try.ntmps8
  go_wp2_with fail
  refine (known_any w).mono ?_
  rintro e w1 ⟨rfl, hT1⟩
  have HT1 := hide hT1
  clear hT1
  go_wp2_with fail
  refine (within_any _ _ _ (by omega) (by omega)).mono ?_
  rintro e w1 ⟨rfl, rfl⟩
  obtain ⟨t, ht⟩ : ∃ t, t = now % 100000 := ⟨_, rfl⟩
  rw [← ht]
  have ht1 : 0 ≤ t ∧ t < 100000 := by omega
  clear ht
  go_wp2_with fail
  refine (goodAt_any a cap l t w1 hlen (HL.out.turn0 HT1.out) (by omega) (by omega)).mono ?_
  rintro e w2 ⟨ga, gc, G, rfl, hG, hT2⟩
  have HG := hide hG
  have HT2 := hide (HT1.out.trans hT2)
  have hGl := hG.good.len
  have hGc := hG.cap
  clear hG hT2 HT1 HL
  go_wp2_with (go_at_call 14; refine (within_any _ _ _ (by omega) (by omega)).mono ?_; rintro e w2 ⟨rfl, rfl⟩)
  obtain ⟨p, hp⟩ : ∃ p, p = n % 3000 := ⟨_, rfl⟩
  obtain ⟨q, hq⟩ : ∃ q, q = m % 3000 := ⟨_, rfl⟩
  rw [← hp, ← hq]
  have hp1 : 0 ≤ p ∧ p < 3000 := by omega
  have hq1 : 0 ≤ q ∧ q < 3000 := by omega
  clear hp hq
  refine (take_any ga gc G p t w2 HG.out.good.rises (by omega) (HG.out.good.bh (by omega) (by omega)) HG.out.lots HG.out.nil (by omega) (by omega)).mono ?_
  rintro e w3 ⟨is, g1, A, P1, x, pa1, pc1, hTd1, htk1, rfl, hA1, hA2, hA3, hA4, _, _, _, hpc11, hpc12, _, hT3⟩
  have HTd1 := hide hTd1
  have HA : Hid ((tk G is p []).1 = A ∧ (tk G is p []).2.2 = x) := by rw [Hid, htk1]; exact ⟨rfl, rfl⟩
  have HRA : Hid (Rises A) := by rw [← HA.out.1]; exact tk_rises is G p hTd1.lt HG.out.good.rises
  have HA4 := hide hA4
  have HA2 := hide hA2
  have HT3 := hide (HT2.out.trans hT3)
  have HG3 := hide (HG.out.turn0 hT3)
  have hxb : 0 ≤ x ∧ x ≤ p := by rw [← HA.out.2]; exact tk_lack_bd is G p hp1.1 (fun i hi => can_rest ((hTd1.mem i).1 hi).2) (turned_nodup hTd1)
  clear hTd1 htk1 hA4 hT3 HT2 HG hA2
  have HAl : Hid (A.length = G.length) := hA1
  clear hA1 hA3
  have HC2 := hide (take_any (some ⟨g1, 0, none⟩) A.length A q t w3 HRA.out (by rw [HAl.out]; omega) HA2.out HA4.out.at (fun h => by cases h) (by omega) (by omega))
  rw [HAl.out] at HC2
  go_wp2_with fail
  refine HC2.out.mono ?_
  rintro e w4 ⟨js, g2, B, P2, y, pa2, pc2, hTd2, htk2, rfl, hB1, hB2, hB3, hB4, _, _, _, hpc21, hpc22, _, hT4⟩
  have HTd2 := hide hTd2
  have HB : Hid ((tk A js q []).1 = B ∧ (tk A js q []).2.2 = y) := by rw [Hid, htk2]; exact ⟨rfl, rfl⟩
  have HB4 := hide hB4
  have HT4 := hide (HT3.out.trans hT4)
  have HG4 := hide (HG3.out.turn0 hT4)
  have hyb : 0 ≤ y ∧ y ≤ q := by rw [← HB.out.2]; exact tk_lack_bd js A q hq1.1 (fun i hi => can_rest ((hTd2.mem i).1 hi).2) (turned_nodup hTd2)
  have HBl : Hid (B.length = G.length) := hB1.trans HAl.out
  clear hTd2 htk2 hB4 hT4 HT3 HG3 HA4 hB2 hB3 hB1 HC2
  rw [HAl.out]
  go_wp2_with fail
  refine (take_any ga gc G (p + q) t w4 HG4.out.good.rises (by omega) (HG4.out.good.bh (by omega) (by omega)) HG4.out.lots HG4.out.nil (by omega) (by omega)).mono ?_
  rintro e w5 ⟨is', g3, C, P3, z, pa3, pc3, hTd3, htk3, rfl, hC1, hC2, hC3, hC4, _, _, _, hpc31, hpc32, _, hT5⟩
  have his : is' = is := hTd3.unique HTd1.out
  subst his
  have HSp : Hid (B = C ∧ z = x + y) := by
    have h := split_tk is' G p q js t HTd1.out hp1.1 hq1.1 (by rw [HA.out.1]; exact HTd2.out)
    rw [HA.out.1, HB.out.1, HA.out.2, HB.out.2, htk3] at h
    exact ⟨h.1, h.2⟩
  have HBC : Hid (OwnL w5 g3 B) := by rw [HSp.out.1]; exact hC4
  have HB5 := hide (HB4.out.turn hT5 (by simp))
  have HT5 := hide (HT4.out.trans hT5)
  have hz : z = x + y := HSp.out.2
  clear hTd3 htk3 hC4 hT5 HT4 HSp HB4 hC2 hC3 hC1 HTd1 HTd2 HA HB HRA HG4
  subst hz
  have HSame := hide (sameLots_any (some ⟨g2, 0, none⟩) (some ⟨g3, 0, none⟩) G.length G.length B w5 (by rw [HBl.out]; omega) HB5.out.at HBC.out.at)
  rw [HBl.out] at HSame
  go_wp2_with fail
  refine HSame.out.mono ?_
  rintro e w6 ⟨rfl, hT6⟩
  have HT6 := hide (HT5.out.trans hT6)
  clear hT6 HSame
  go_wp2_with fail
  go_ret
  exact ⟨rfl, HT6.out⟩

end Go.Proofs.Ytegbinlpojpffaa
