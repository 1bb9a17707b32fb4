/-
  LotsNone, walked.
-/
import Derived.Test.YtegbinlpojpffabLHead
import Derived.Test.YtegbinlpojpffabLUse
namespace Go.Proofs.Ytegbinlpojpffab
open Go.RowKit Go.Maps Lo

theorem turned_nil {now : Int} {is : List Nat} (h : Turned [] now is) : is = [] := by
  cases is with
  | nil => rfl
  | cons i is => exact absurd ((h.mem i).1 (List.mem_cons_self ..)).1 (by simp)

set_option maxRecDepth 100000 in
set_option maxHeartbeats 4000000 in
theorem none_any (a : Option Addr) (cap : Nat) (l : List Lt) (n now : Int) (w : World) (hlen : l.length ≤ 9223372036854775807) (hL : LotsAt w a l) :
    Calls Try.prog 3 #[.slice a l.length cap, .int .i64 n, .int .i64 now] w fun e w' => e = .returned (.bool true) ∧ Turn [] w w' := by
  have HL := hide hL
  clear hL
  go_enter Try.func3, Try.ntmps3
  go_wp2_with fail
  refine (known_any w).mono ?_
  rintro e w1 ⟨rfl, hT1⟩
  have HT1 := hide hT1
  clear hT1
  go_wp2_with fail
  refine (within_any _ _ _ (by omega) (by omega)).mono ?_
  rintro e w1 ⟨rfl, rfl⟩
  obtain ⟨t, ht⟩ : ∃ t, t = now % 100000 := ⟨_, rfl⟩
  rw [← ht]
  have ht1 : 0 ≤ t ∧ t < 100000 := by omega
  clear ht
  go_wp2_with fail
  refine (goodAt_any a cap l t w1 hlen (HL.out.turn0 HT1.out) (by omega) (by omega)).mono ?_
  rintro e w2 ⟨ga, gc, G, rfl, hG, hT2⟩
  have HG := hide hG
  have HT2 := hide (HT1.out.trans hT2)
  have hGl := hG.good.len
  have hGc := hG.cap
  clear hG hT2 HT1 HL
  go_wp2_with fail
  refine (within_any _ _ _ (by omega) (by omega)).mono ?_
  rintro e w2 ⟨rfl, rfl⟩
  obtain ⟨p, hp⟩ : ∃ p, p = n % 1000 := ⟨_, rfl⟩
  rw [← hp]
  have hp1 : 0 ≤ p ∧ p < 1000 := by omega
  clear hp
  go_wp2_with fail
  refine (take_any ga gc G 0 t w2 HG.out.good.rises (by omega) (HG.out.good.bh (by omega) (by omega)) HG.out.lots HG.out.nil (by omega) (by omega)).mono ?_
  rintro e w3 ⟨is, g1, A, P1, x, pa1, pc1, _, htk1, rfl, _, _, _, hA4, _, _, _, hpc11, hpc12, _, hT3⟩
  rw [tk_stop _ _ _ _ (Int.le_refl 0)] at htk1
  obtain ⟨rfl, rfl, rfl⟩ : A = G ∧ P1 = [] ∧ x = 0 := by
    simp only [Prod.mk.injEq] at htk1
    exact ⟨htk1.1.symm, htk1.2.1.symm, htk1.2.2.symm⟩
  have HA4 := hide hA4
  have HT3 := hide (HT2.out.trans hT3)
  have HG3 := hide (HG.out.turn0 hT3)
  clear htk1 hA4 hT3 HT2 HG
  go_wp2_with fail
  refine (use_any ga gc A none 0 [] p t w3 (by omega) ((HG3.out.good.bd (by omega) (by omega)).mono (by omega)) HG3.out.lots HG3.out.nil (.inl rfl) (by simp) (fun y hy => by simp at hy) (by omega) (by omega)).mono ?_
  rintro e w4 ⟨g4, B, y, hus, rfl, _, _, hB4, hT4⟩
  obtain ⟨rfl, rfl⟩ : B = A ∧ y = p := by
    simp only [us, Prod.mk.injEq] at hus
    exact ⟨hus.1.symm, hus.2.symm⟩
  have HB4 := hide hB4
  have HT4 := hide (HT3.out.trans hT4)
  have HG4 := hide (HG3.out.turn0 hT4)
  have HA5 := hide (HA4.out.turn hT4 (by simp))
  clear hus hB4 hT4 HT3 HG3 HA4
  go_wp2_with fail
  refine (take_any none 0 [] y t w4 (fun i j _ hj => by simp at hj) (by simp) (fun z hz => by simp at hz) (.inl rfl) (fun _ => rfl) (by omega) (by omega)).mono ?_
  rintro e w5 ⟨js, g5, C, P5, z, pa5, pc5, hTd5, htk5, rfl, hC1, _, _, hC4, _, _, _, hpc51, hpc52, _, hT5⟩
  rw [turned_nil hTd5] at htk5
  obtain ⟨rfl, rfl, rfl⟩ : C = [] ∧ P5 = [] ∧ z = y := by
    simp only [tk, Prod.mk.injEq] at htk5
    exact ⟨htk5.1.symm, htk5.2.1.symm, htk5.2.2.symm⟩
  have HT5 := hide (HT4.out.trans hT5)
  have HG5 := hide (HG4.out.turn0 hT5)
  have HA6 := hide (HA5.out.turn hT5 (by simp))
  have HB5 := hide (HB4.out.turn hT5 (by simp))
  clear hTd5 htk5 hC4 hT5 HT4 HG4 HA5 HB4 hC1
  go_wp2_with fail
  refine (sameLots_any (some ⟨g1, 0, none⟩) ga B.length gc B w5 (by omega) HA6.out.at HG5.out.lots).mono ?_
  rintro e w6 ⟨rfl, hT6⟩
  have HT6 := hide (HT5.out.trans hT6)
  have HG6 := hide (HG5.out.turn0 hT6)
  have HB6 := hide (HB5.out.turn hT6 (by simp))
  clear hT6 HT5 HG5 HA6 HB5
  go_wp2_with fail
  refine (sameLots_any (some ⟨g4, 0, none⟩) ga B.length gc B w6 (by omega) HB6.out.at HG6.out.lots).mono ?_
  rintro e w7 ⟨rfl, hT7⟩
  have HT7 := hide (HT6.out.trans hT7)
  clear hT7
  go_wp2_with fail
  go_ret
  exact ⟨rfl, HT7.out⟩

end Go.Proofs.Ytegbinlpojpffab
