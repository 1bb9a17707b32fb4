/-
  Lists, parsed, walked.
-/
import Derived.Test.YtghgkjollafeiaaPB
namespace Go.Proofs.Ytghgkjollafeiaa
open Go.RowKit

theorem info_lot : (Try.prog.info? 82).map (fun i => (i.zero, i.size, i.bytes)) = some (some (.agg #[.int .i64 0, .int .i64 0, .int .i64 0, .int .i64 0, .int .i64 0, .int .i64 0, .int .i64 0, .int .i64 0, .int .i64 0]), 9, 72) := by kernel_rfl
def zlot : List Value := [.int .i64 0, .int .i64 0, .int .i64 0, .int .i64 0, .int .i64 0, .int .i64 0, .int .i64 0, .int .i64 0, .int .i64 0]
theorem zlot_one : ∀ u ∈ zlot, u.oneCell' = true := by decide

set_option maxRecDepth 100000 in
set_option maxHeartbeats 3200000 in
/-- A list, parsed: how many, and each. -/
theorem plist_lot {D : Type} {w : World} {b g : Nat} {s : Sx} (rb o : Nat) (F : Sx → Sx × D) (good : World → List Value → D → Prop) (hG : Stays good) (hC : Carries 54 9 b g F good zlot) (h : Ps w b g s) (hnb : rb ≠ b) (hng : rb ≠ g) (hgl : g < w.heap.size) (hc : w.cell? ⟨rb, o, none⟩ = some (.slice none 0 0)) (hf : ∀ o, w.frozen? ⟨rb, o, none⟩ = false) :
    Calls Try.prog 53 #[.agg #[ifc .pr b], .pointer (some ⟨rb, o, none⟩), .func (.func 54) #[] #[]] w fun r w' => r = .returned (.tuple #[]) ∧ Ps w' b g (listS F s).1 ∧ PStep b rb o 1 w w' ∧ ∃ v ps, w'.cell? ⟨rb, o, none⟩ = some v ∧ ps.map Prod.snd = (listS F s).2 ∧ RowP w.heap.size w' 82 9 good v ps := by
  have hrbl : rb < w.heap.size := lt_of_cell hc
  have hbl : b < w.heap.size := h.lt
  have hK0 : Keep (fun _ => True) w (w.alloc (.cells #[ifc .pr b] 77)) := (Keep.refl _ w).alloc _
  have hs0 : (w.alloc (.cells #[ifc .pr b] 77)).heap.size = w.heap.size + 1 := by simp
  have hk0 : (w.alloc (.cells #[ifc .pr b] 77)).cell? ⟨w.heap.size, 0, none⟩ = some (ifc .pr b) := World.cell?_alloc_at _ _ _ _ rfl
  have hp0 : Ps (w.alloc (.cells #[ifc .pr b] 77)) b g s := h.keep (hK0.less (fun _ _ _ => trivial))
  have hc0 : (w.alloc (.cells #[ifc .pr b] 77)).cell? ⟨rb, o, none⟩ = some (.slice none 0 0) := (hK0.cell hrbl trivial).trans hc
  have hf0 : ∀ o, (w.alloc (.cells #[ifc .pr b] 77)).frozen? ⟨rb, o, none⟩ = false := fun o => (hK0.fz hrbl trivial).trans (hf o)
  obtain ⟨n, hn⟩ : ∃ n, (countS .pr s 0).2 = n := ⟨_, rfl⟩
  obtain ⟨c1, hc1⟩ : ∃ c, (countS .pr s 0).1 = c := ⟨_, rfl⟩
  rw [show listS F s = manyS F n c1 by rw [← hn, ← hc1]; rfl]
  have HN := hide hn
  have HN1 := hide hc1
  clear hn hc1
  have HS : Hid (Spot (w.alloc (.cells #[ifc .pr b] 77)) b g rb) := ⟨hnb, hng, by omega, by omega, by omega⟩
  have HK0 := hide hK0
  have HP0 := hide hp0
  have HF0 := hide hf0
  have HC := hide hC
  have HG := hide hG
  clear h hc hf hK0 hp0 hf0 hC hG
  generalize hrk : w.heap.size = rk at *
  have hrkr : rk ≠ rb := by omega
  have hrkb : rk ≠ b := by omega
  go_enter Try.func53, Try.ntmps53
  go_wp2_with fail
  have HRk := hide hrk
  clear hrk
  generalize w.alloc (.cells #[ifc .pr b] 77) = w0 at *
  have HC1 : Hid (∀ w1, Keep (fun _ => True) w0 w1 → Calls Try.prog 92 #[.pointer (some ⟨b, 0, none⟩), .int .i64 ((0 : Nat) : Int)] w1 fun r w' => r = .returned (.int .i64 ((countS .pr s 0).2 : Nat)) ∧ Ps w' b g (countS .pr s 0).1 ∧ Keep (fun x => x ≠ b) w1 w' ∧ (countS .pr s 0).2 < 256) := fun w1 hK => by
    refine (pcount _ (HP0.out.keep (hK.less (fun _ _ _ => trivial)))).mono ?_
    rintro e w' ⟨rfl, hP, hK, hl⟩
    exact ⟨rfl, hP, hK, hl⟩
  have h2 := mC_pr b
  rw [HN.out, HN1.out] at HC1
  clear HN HN1 HP0
  dsimp only [ifc, tyOf] at hk0
  go_region_with (go_at_call 92; refine (HC1.out _ (Keep.refl _ _).drew).mono ?_; rintro e w2 ⟨rfl, hP2, hK2, hn⟩; have HP2 := hide hP2; have HK2 := hide hK2; clear hP2 hK2)
  all_goals
    have HL0 : Hid (Lsg w0 w2 b g rb o c1 82 9 good []) := ⟨HP2.out, (Step.of (((Keep.refl _ w0).drew).trans HK2.out) (by omega) hnb), _, (HK2.out.cell (b := rb) (by show rb < w0.heap.size; omega) hnb).trans hc0, ⟨World.ownsRow_nil _ _ _ _, by simp, by simp⟩⟩
    have HB0 : Hid (w2.cell? ⟨rk, 0, none⟩ = some (Value.iface 130 (.pointer (some ⟨b, 0, none⟩)))) := (HK2.out.cell (b := rk) (by show rk < w0.heap.size; omega) hrkb).trans hk0
    clear HP2 HK2 HC1
    go_wp2_with fail
    go_loopw [6, 7, 17] (fun _ _ i wr => ∃ (j : Nat) (ps : List (List Value × D)), j ≤ n ∧ i = .int .i64 (j : Nat) ∧ ps.map Prod.snd = (manyS F j c1).2 ∧ Lsg w0 wr b g rb o (manyS F j c1).1 82 9 good ps ∧ wr.cell? ⟨rk, 0, none⟩ = some (Value.iface 130 (.pointer (some ⟨b, 0, none⟩)))) (fun _ _ i _ => n - (intOf i).toNat)
    case atStart => exact ⟨0, [], by omega, rfl, rfl, HL0.out, HB0.out⟩
    case round =>
      obtain ⟨j, ps, hj, rfl, hps, hL, hkr⟩ := hrel
      by_cases hlt : j < n
      · have hpl : ps.length = j := by
          have := congrArg List.length hps
          rw [List.length_map, manyS_length] at this
          exact this
        subst hpl
        have HNx : Hid (manyS F (ps.length + 1) c1 = ((F (manyS F ps.length c1).1).1, (manyS F ps.length c1).2 ++ [(F (manyS F ps.length c1).1).2])) := rfl
        obtain ⟨v, hcr, hrow⟩ := hL.row
        obtain ⟨va, vc, rfl⟩ := own_form hrow.own
        have hfr : wr.frozen? ⟨rb, o, none⟩ = false := (hL.st.fz o).trans (HF0.out o)
        have hrkw : rk < wr.heap.size := lt_of_cell hkr
        have hrw : rb < wr.heap.size := lt_of_cell hcr
        have HL := hide hL
        have HPs := hide hps
        have hnn : n < 256 := hn
        clear hL hrow hps
        go_wp2_with fail
        go_region_law (refine step_pl rfl (.tmp 29) (.tmp 31) rfl Try.underlying24 _ info_lot rfl (by decide) (by decide) HG.out HS.out HL.out hcr hfr (by simp [Act.eval]) (wr.heap.size + 1) 1 (by simp [Act.eval]) (z := zlot) rfl (by exact rng_two wr _ zlot 82) zlot_one (by exact (((Keep.refl _ wr).alloc _).alloc _).drew) (by omega) ?_; rintro q cap w3 ⟨u3, hc3⟩ hf3 hR; have HR := hide hR; clear hR)
        all_goals
          have hk4 := (HR.out.st.keep.cell (b := rk) (o := 0) (by omega) ⟨hrkb, hrkr⟩).trans hk0
          have hc4 := HR.out.c
          clear hc3 hf3
          generalize w3.setCell ⟨rb, o, none⟩ (.slice (some ⟨q, 0, none⟩) (ps.length + 1) cap) = w4 at *
          have HCd := hide (HR.out.carried HG.out HS.out HC.out w4.drew (.inr rfl))
          clear hcr hfr hkr
          go_wp2_with fail
          go_region_with (go_at_call 54; refine HCd.out.mono ?_; rintro e w5 ⟨rfl, hst5, cs, hL5⟩; have hk5 := (hL5.st.keep.cell (b := rk) (o := 0) (by omega) ⟨hrkb, hrkr⟩).trans hk0; have HL5 := hide hL5; clear hL5 hst5)
          all_goals
            go_wp2_with fail
            go_roundw
            case rel => exact ⟨ps.length + 1, ps ++ [(cs, (F (manyS F ps.length c1).1).2)], hlt, by go_num, by rw [HNx.out, List.map_append, HPs.out]; rfl, by rw [HNx.out]; exact HL5.out, hk5⟩
            case measure => simp [intOf]; omega
      · obtain rfl : j = n := by omega
        have HFin : Hid (Ps wr b g (manyS F j c1).1 ∧ PStep b rb o 1 w wr ∧ ∃ v ps, wr.cell? ⟨rb, o, none⟩ = some v ∧ ps.map Prod.snd = (manyS F j c1).2 ∧ RowP rk wr 82 9 good v ps) := by
          obtain ⟨v, hv, hrow⟩ := hL.row
          refine ⟨hL.p, ⟨(HK0.out.less (fun _ _ _ => trivial)).trans hL.st.keep, fun q hq => (hL.st.cell q hq).trans (HK0.out.cell (by rw [HRk.out]; exact hrbl) trivial), fun q => (hL.st.fz q).trans (HK0.out.fz (by rw [HRk.out]; exact hrbl) trivial), fun cs t fr h0 => hL.st.sh cs t fr ((HK0.out.block rb (by rw [HRk.out]; exact hrbl) trivial).trans h0)⟩, v, ps, hv, hps, hrow.base (by omega)⟩
        clear hL hkr hps
        go_wp2_with fail
        go_end0
        exact ⟨rfl, HFin.out⟩
end Go.Proofs.Ytghgkjollafeiaa
