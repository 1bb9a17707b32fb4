/-
  WindowErrors, walked.
-/
import Derived.Test.YtbkphdemmnjhcaaWKnown
import Derived.Test.YtbkphdemmnjhcaaWSame
import Derived.Test.YtbkphdemmnjhcaaWFrame
namespace Go.Proofs.Ytbkphdemmnjhcaa.Wi
open Go.RowKit Go.Maps

/-- The errors' entries. -/
def ef (l : List Int) (i : Nat) : Ent := ⟨(i : Int) + 1, eAn (l.getD i 0 % 25)⟩
theorem ef_up (l : List Int) : Rising (ef l) := fun i j h => by unfold ef; simp; omega

set_option maxRecDepth 100000 in
set_option maxHeartbeats 4000000 in
theorem errors_any (a : Option Addr) (c : Nat) (l : List Int) (ask : Int) (w : World) (_hlen : l.length ≤ 9223372036854775807) (hL : NumsAt w a l) :
    Calls Try.prog 5 #[.slice a l.length c, .int .i64 ask] w fun e w' => e = .returned (.bool true) ∧ Turn [] w w' := by
  have HL := hide hL
  clear hL
  go_enter Try.func5, Try.ntmps5
  go_wp2_with fail
  refine (known_any w).mono ?_
  rintro e w1 ⟨rfl, hT1⟩
  have HT1 := hide hT1
  clear hT1
  go_wp2_with fail
  go_loopw [5, 6] (fun u i wr => ∃ (j : Nat) (wa : Option Addr) (wc : Nat) (x : List Ent), j ≤ 12 ∧ j ≤ l.length ∧ u = .slice wa x.length wc ∧ i = .int .i64 (j : Int) ∧ Hid (x = seqL (ef l) j) ∧ Hid (WinAt wr wa wc x) ∧ Turn [] w wr) (fun _ i _ => 13 - (intOf i).toNat)
  case atStart => exact ⟨0, none, 0, [], by omega, Nat.zero_le _, rfl, rfl, rfl, WinAt.nil _, HT1.out⟩
  case round =>
    obtain ⟨j, wa, wc, x, hj, hjl, rfl, rfl, HX, HW, hT⟩ := hrel
    have HT := hide hT
    clear hT
    have HXl : Hid (x.length = j) := by unfold Hid; rw [HX.out, seqL_length]
    have hxl : x.length ≤ 12 := by rw [HXl.out]; exact hj
    by_cases hgo : j < l.length ∧ j < 12
    · obtain ⟨h1, h2⟩ := hgo
      obtain ⟨b, off, rfl, c0⟩ := (HL.out.turn0 HT.out).at h1
      have hb := lt_of_cell c0
      have HN : Hid (note x ⟨(j : Int) + 1, eAn (l.getD j 0 % 25)⟩ = seqL (ef l) (j + 1)) := by unfold Hid; rw [HX.out]; exact note_seq (ef_up l) h2
      clear HX
      generalize l.getD j 0 = z at *
      go_wp2_with fail
      refine (within_any z 25 _ (by omega) (by omega)).mono ?_
      rintro e w2 ⟨rfl, rfl⟩
      have HC := hide (note_any wa wc x ((j : Int) + 1) (eAn (z % 25)) w2 (by omega) HW.out)
      rw [HN.out] at HC
      go_wp2_with fail
      refine HC.out.mono ?_
      rintro e w3 ⟨a1, c1, rfl, hW1, hT1⟩
      have HT2 := hide (HT.out.trans hT1)
      have HW1 := hide hW1
      clear hT1 hW1 HC
      go_wp2_with fail
      go_roundw
      case rel => exact ⟨j + 1, a1, c1, _, by omega, by omega, rfl, by go_num, rfl, HW1, HT2.out⟩
      case measure => simp [intOf]; omega
    · by_cases h0 : j = 0
      · subst h0
        have HXn : Hid (x = []) := by unfold Hid; rw [HX.out]; rfl
        have HA1 := hide (ask_any wa wc x 5 wr (by omega) HW.out.1)
        unfold askV at HA1
        have HK : Hid (kindOf x 5 = 0) := by unfold Hid; rw [HXn.out]; rfl
        rw [HK.out] at HA1
        rw [HXl.out] at HA1 ⊢
        have hl0 : ¬ 0 < l.length := fun h => hgo ⟨h, by omega⟩
        clear HX HXn HK hgo
        go_wp2_with fail
        refine HA1.out.mono ?_
        rintro e w2 ⟨rfl, hT2⟩
        have HT2 := hide (HT.out.trans hT2)
        clear hT2 HA1
        generalize ansOf x 5 = x1 at *
        go_wp2_with (first | ((with_reducible refine keep_answer _ _ x1 ?_ ?_ ?_); rfl; rfl; intro w3 _ hT3 _ _; have HT3 := hide (HT2.out.trans hT3); clear hT3) | fail)
        go_ret
        exact ⟨rfl, HT3.out⟩
      · have hm1 := Int.emod_nonneg ask (show (j : Int) ≠ 0 by omega)
        have hm2 := Int.emod_lt_of_pos ask (show (0 : Int) < j by omega)
        obtain ⟨k, hk⟩ := Int.eq_ofNat_of_zero_le hm1
        have hkj : k < j := by omega
        have hkl : k < l.length := by omega
        have HC := hide (within_any ask (j : Int) wr (by omega) (by omega))
        rw [hk] at HC
        clear hm1 hm2 hk
        have HKS := hide (kind_seq (ef_up l) hkj (i := (k : Int) + 1) rfl)
        rw [← HX.out] at HKS
        have HA1 := hide (ask_any wa wc x ((k : Int) + 1) wr (by omega) HW.out.1)
        unfold askV at HA1
        rw [HKS.out.1, HKS.out.2] at HA1
        obtain ⟨b, off, rfl, c0⟩ := HL.out.at hkl
        have HC0 := hide c0
        have heq := eq_an (eAn (l.getD k 0 % 25))
        change Hid (Calls _ _ _ _ fun e w' => e = .returned (.tuple #[.int .i64 1, anV (eAn (l.getD k 0 % 25))]) ∧ Turn [] wr w') at HA1
        rw [HXl.out] at HA1 ⊢
        clear HX HKS c0
        generalize l.getD k 0 = z at *
        by_cases hjl2 : j < l.length
        · have h12 : 12 ≤ j := by omega
          clear hgo
          go_wp2_with fail
          refine HC.out.mono ?_
          rintro e w2 ⟨rfl, rfl⟩
          go_wp2_with fail
          refine HA1.out.mono ?_
          rintro e w2 ⟨rfl, hT2⟩
          have HT2 := hide (HT.out.trans hT2)
          clear hT2 HA1 HC
          go_wp2_with (first | ((with_reducible refine keep_answer _ _ (eAn (z % 25)) ?_ ?_ ?_); rfl; rfl; intro w3 hr3 hT3 _ _; have HT3 := hide (HT2.out.trans hT3); have HR3 := hide hr3; clear hT3 hr3) | fail)
          have c3 := (HT3.out.cell (p := ⟨b, off + k, none⟩) (lt_of_cell HC0.out) (by simp)).trans HC0.out
          have hb3 := lt_of_cell c3
          obtain ⟨k0, k1, k2, k3, k4, k5, k6, k7, k8, k9, k10, k11, k12⟩ := an_cells HR3.out
          simp only [eAn, Nat.zero_add] at k0 k1 k2 k3 k4 k5 k6 k7 k8 k9 k10 k11 k12
          have hg3 := lt_of_cell k0
          simp only [eAn] at heq
          simp only [Act.put]
          go_quiet ((go_at_call 8; exact Calls.quiet_of_same (within_any z 25 _ (by omega) (by omega))))
          clear k0 k1 k2 k3 k4 k5 k6 k7 k8 k9 k10 k11 k12 c3
          go_wp2_with fail
          go_ret
          exact ⟨rfl, HT3.out.drewN _⟩
        · clear hgo
          go_wp2_with fail
          refine HC.out.mono ?_
          rintro e w2 ⟨rfl, rfl⟩
          go_wp2_with fail
          refine HA1.out.mono ?_
          rintro e w2 ⟨rfl, hT2⟩
          have HT2 := hide (HT.out.trans hT2)
          clear hT2 HA1 HC
          go_wp2_with (first | ((with_reducible refine keep_answer _ _ (eAn (z % 25)) ?_ ?_ ?_); rfl; rfl; intro w3 hr3 hT3 _ _; have HT3 := hide (HT2.out.trans hT3); have HR3 := hide hr3; clear hT3 hr3) | fail)
          have c3 := (HT3.out.cell (p := ⟨b, off + k, none⟩) (lt_of_cell HC0.out) (by simp)).trans HC0.out
          have hb3 := lt_of_cell c3
          obtain ⟨k0, k1, k2, k3, k4, k5, k6, k7, k8, k9, k10, k11, k12⟩ := an_cells HR3.out
          simp only [eAn, Nat.zero_add] at k0 k1 k2 k3 k4 k5 k6 k7 k8 k9 k10 k11 k12
          have hg3 := lt_of_cell k0
          simp only [eAn] at heq
          simp only [Act.put]
          go_quiet ((go_at_call 8; exact Calls.quiet_of_same (within_any z 25 _ (by omega) (by omega))))
          clear k0 k1 k2 k3 k4 k5 k6 k7 k8 k9 k10 k11 k12 c3
          go_wp2_with fail
          go_ret
          exact ⟨rfl, HT3.out.drewN _⟩

end Go.Proofs.Ytbkphdemmnjhcaa.Wi
