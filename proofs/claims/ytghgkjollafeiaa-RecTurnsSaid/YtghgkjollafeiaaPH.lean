/-
  A hold, parsed, walked.
-/
import Derived.Test.YtghgkjollafeiaaPB
import Derived.Test.YtghgkjollafeiaaPLp
import Derived.Test.YtghgkjollafeiaaPLh
namespace Go.Proofs.Ytghgkjollafeiaa
open Go.RowKit

/-- A hold. -/
structure HoldD where
  id : Int
  ps : List (List Int)
  t : List Int
def HoldG (w : World) (cs : List Value) (d : HoldD) : Prop := ∃ v ps, cs = .int .i64 d.id :: v :: intC d.t ∧ d.t.length = 2 ∧ ps.map Prod.snd = d.ps ∧ RowP 0 w 84 2 IntsG v ps
theorem hold_stays : Stays HoldG := fun w w' cs d h hk => by
  obtain ⟨v, ps, rfl, h2, h3, h4⟩ := h
  refine ⟨v, ps, rfl, h2, h3, own_same h4.own (fun x e => hk x ⟨v, by simp, e⟩), h4.el, fun p hp x hx => ?_⟩
  have e := (h4.el p hp).2
  unfold IntsG at e
  rw [e] at hx
  exact (lead_ints hx).elim
def FH (s : Sx) : Sx × HoldD := ((numsS .pr (listS F2 (numS .pr s 0).1).1 (nz 2)).1, ⟨(numS .pr s 0).2, (listS F2 (numS .pr s 0).1).2, (numsS .pr (listS F2 (numS .pr s 0).1).1 (nz 2)).2⟩)

theorem mN_pr (b : Nat) (w : World) : Sem.run Try.prog (method 273 130 (.pointer (some ⟨b, 0, none⟩)) "toll/rec.num") w = .ok (95, .pointer (some ⟨b, 0, none⟩)) w := by kernel_rfl

theorem ptrs_h (rb o : Nat) : #[Value.pointer (some ⟨rb, o + 2, none⟩), Value.pointer (some ⟨rb, o + 3, none⟩)].toList = (List.range 2).map fun i => Value.pointer (some ⟨rb, o + 2 + i, none⟩) := by
  simp [List.range_succ, Nat.add_assoc]
theorem PStep.box {b rb off n : Nat} {w w0 w' : World} (hK : Keep (fun _ => True) w w0) (hrb : rb < w.heap.size) (hs : PStep b rb off n w0 w') : PStep b rb off n w w' :=
  ⟨(hK.less (fun _ _ _ => trivial)).trans hs.keep, fun q hq => (hs.cell q hq).trans (hK.cell hrb trivial), fun q => (hs.fz q).trans (hK.fz hrb trivial), fun cs t fr h0 => hs.sh cs t fr ((hK.block _ hrb trivial).trans h0)⟩
theorem PStep.undrew {b rb off n : Nat} {w w' : World} (h : PStep b rb off n w.drew w') : PStep b rb off n w w' := ⟨⟨h.keep.os, h.keep.tape, h.keep.output, h.keep.size, h.keep.block⟩, h.cell, h.fz, h.sh⟩
/-- A hold's end: its cells, and its row. -/
theorem hold_end {b q off : Nat} {w w2 w3 w4 : World} {x1 : Int} {v : Value} {ps : List (List Value × List Int)} {ds : List (List Int)} {t : List Int} (ht : t.length = 2) (hb : b < w.heap.size) (hq : q < w.heap.size) (hz : w.heap.size ≤ w2.heap.size) (hc2 : w2.cell? ⟨q, off, none⟩ = some (.int .i64 x1)) (hst3 : PStep b q (off + 1) 1 w2 w3) (hv3 : w3.cell? ⟨q, off + 1, none⟩ = some v) (hps : ps.map Prod.snd = ds) (hrow : RowP w2.heap.size w3 84 2 IntsG v ps) (hI : IntsAt w4 q (off + 2) t) (hst4 : PStep b q (off + 2) 2 w3 w4) :
    ∃ cs, cs.length = 4 ∧ w4.rangeAt q off cs ∧ HoldG w4 cs ⟨x1, ds, t⟩ ∧ ∀ x, lead cs x → w.heap.size ≤ x ∧ x < w4.heap.size := by
  have hs4 := hst4.keep.size
  refine ⟨.int .i64 x1 :: v :: intC t, by simp [intC, ht], fun j u hj => ?_, ⟨v, ps, rfl, ht, hps, RowP.base (hrow.keep ints_stays hs4 (fun x h1 h2 => hst4.keep.block x h2 ⟨by omega, by omega⟩)) (Nat.zero_le _)⟩, fun x hx => ?_⟩
  · match j, hj with
    | 0, hj =>
      have e : u = .int .i64 x1 := (Option.some.inj hj).symm
      rw [e, Nat.add_zero, hst4.cell off (by omega), hst3.cell off (by omega)]
      exact hc2
    | 1, hj =>
      have e : u = v := (Option.some.inj hj).symm
      rw [e, hst4.cell (off + 1) (by omega)]
      exact hv3
    | j + 2, hj =>
      have := range_ints hI j u hj
      rw [show off + (j + 2) = off + 2 + j by omega]
      exact this
  · obtain ⟨u, hu, e⟩ := hx
    rcases List.mem_cons.1 hu with rfl | hu
    · cases e
    · rcases List.mem_cons.1 hu with rfl | hu
      · have := hrow.own.lt x e
        omega
      · exact (lead_ints ⟨u, hu, e⟩).elim

set_option maxRecDepth 100000 in
set_option maxHeartbeats 3200000 in
theorem carries_hold (b g : Nat) : Carries 56 4 b g FH HoldG zhold := fun w s q off hp hb hg hgl hf hr => by
  have hq : q < w.heap.size := lt_of_cell (hr 0 _ rfl)
  have hbl := hp.lt
  have hK0 : Keep (fun _ => True) w (w.alloc (.cells #[ifc .pr b] 77)) := (Keep.refl _ w).alloc _
  have hs0 : (w.alloc (.cells #[ifc .pr b] 77)).heap.size = w.heap.size + 1 := by simp
  have hk0 : (w.alloc (.cells #[ifc .pr b] 77)).cell? ⟨w.heap.size, 0, none⟩ = some (ifc .pr b) := World.cell?_alloc_at _ _ _ _ rfl
  have HP0 := hide (hp.keep (hK0.less (fun _ _ _ => trivial)))
  have HF0 : Hid (∀ o, (w.alloc (.cells #[ifc .pr b] 77)).frozen? ⟨q, o, none⟩ = false) := fun o => (hK0.fz hq trivial).trans (hf o)
  have HR0 : Hid ((w.alloc (.cells #[ifc .pr b] 77)).rangeAt q off zhold) := fun j v hj => (hK0.cell hq trivial).trans (hr j v hj)
  have HK0 := hide hK0
  clear hf hr hp hK0
  generalize hrk : w.heap.size = rk at *
  have hrkq : rk ≠ q := by omega
  have hrkb : rk ≠ b := by omega
  have h2 := mN_pr b
  go_enter Try.func56, Try.ntmps56
  go_wp2_with fail
  have HRk := hide hrk
  clear hrk
  generalize w.alloc (.cells #[ifc .pr b] 77) = w0 at *
  have HC1 := hide (Ps.num (w := w0.drew) q off 0 HP0.out.drew hb hg (HR0.out 0 _ rfl) HF0.out)
  obtain ⟨s1, hs1⟩ : ∃ s1, (numS .pr s 0).1 = s1 := ⟨_, rfl⟩
  obtain ⟨x1, hx1⟩ : ∃ x, (numS .pr s 0).2 = x := ⟨_, rfl⟩
  rw [hs1, hx1] at HC1
  have HE1 := hide hs1
  have HE2 := hide hx1
  clear hs1 hx1
  dsimp only [ifc, tyOf] at hk0
  go_region_with (go_at_call 95; refine HC1.out.mono ?_; rintro e w2 ⟨rfl, hP2, hc2, hst2⟩; have hk2 := (hst2.keep.cell (b := rk) (o := 0) (by show rk < w0.heap.size; omega) ⟨hrkb, hrkq⟩).trans hk0; have HP2 := hide hP2; have HC2 := hide hc2; have HS2 := hide hst2; clear hP2 hc2 hst2)
  all_goals
    have hz2 : rk < w2.heap.size := lt_of_cell hk2
    have HL := hide (plist_part (w := w2.drew) q (off + 1) F2 IntsG ints_stays (carries_part b g) HP2.out.drew hb hg (by show g < w2.heap.size; omega) ((HS2.out.cell (off + 1) (by omega)).trans (HR0.out 1 _ rfl)) (fun o => (HS2.out.fz o).trans (HF0.out o)))
    obtain ⟨s3, hs3⟩ : ∃ s3, (listS F2 s1).1 = s3 := ⟨_, rfl⟩
    obtain ⟨x3, hx3⟩ : ∃ x, (listS F2 s1).2 = x := ⟨_, rfl⟩
    rw [hs3, hx3] at HL
    have HE3 := hide hs3
    have HE4 := hide hx3
    clear hs3 hx3
    go_wp2_with fail
    go_region_with (go_at_call 67; refine HL.out.mono ?_; rintro e w3 ⟨rfl, hP3, hst3, v, ps, hv3, hps, hrow⟩; have hk3 := (hst3.keep.cell (b := rk) (o := 0) (by show rk < w2.heap.size; omega) ⟨hrkb, hrkq⟩).trans hk2; have HP3 := hide hP3; have HV3 := hide hv3; have HPs := hide hps; have HRow := hide hrow; have HS3 := hide hst3; clear hP3 hv3 hps hrow hst3)
    all_goals
      have hz3 : rk < w3.heap.size := lt_of_cell hk3
      have HI3 : Hid (IntsAt w3 q (off + 2) (nz 2)) := fun i hi => by
        have hi : i < 2 := hi
        refine (HS3.out.cell (off + 2 + i) (by omega)).trans ((HS2.out.cell (off + 2 + i) (by omega)).trans ?_)
        have := HR0.out (2 + i) (.int .i64 ((nz 2)[i]'hi)) (by
          match i, hi with
          | 0, _ => rfl
          | 1, _ => rfl)
        rw [← Nat.add_assoc] at this
        exact this
      have HF3 : Hid (∀ o, w3.frozen? ⟨q, o, none⟩ = false) := fun o => (HS3.out.fz o).trans ((HS2.out.fz o).trans (HF0.out o))
      go_wp2_with fail
      go_region_with (go_at_call 52; refine (Ps.nums q (off + 2) 2 _ (ptrs_h q off) (nz 2) rfl (by omega) (by omega) HP3.out hb hg HI3.out HF3.out).mono ?_; rintro e w4 ⟨rfl, hP4, hI4, hst4⟩; have HP4 := hide hP4; have HI4 := hide hI4; have HS4 := hide hst4; clear hP4 hI4 hst4)
      all_goals
        go_end0
        have hs02 := HS2.out.keep.size
        have hE : FH s = ((numsS .pr s3 (nz 2)).1, ⟨x1, x3, (numsS .pr s3 (nz 2)).2⟩) := by
          show ((numsS .pr (listS F2 (numS .pr s 0).1).1 (nz 2)).1, (⟨(numS .pr s 0).2, (listS F2 (numS .pr s 0).1).2, (numsS .pr (listS F2 (numS .pr s 0).1).1 (nz 2)).2⟩ : HoldD)) = _
          rw [HE1.out, HE2.out, HE3.out, HE4.out]
        refine ⟨rfl, by rw [hE]; exact HP4.out, PStep.box HK0.out (by rw [HRk.out]; exact hq) ((HS2.out.undrew.wide (by omega) (by omega)).trans ((HS3.out.undrew.wide (by omega) (by omega)).trans (HS4.out.wide (by omega) (by omega)))), ?_⟩
        rw [hE, ← HRk.out]
        exact hold_end (w := w) (w2 := w2) (numsP_len s3 2) (by rw [HRk.out]; exact hbl) (by rw [HRk.out]; exact hq) (by rw [HRk.out]; omega) HC2.out HS3.out.undrew HV3.out HPs.out HRow.out HI4.out HS4.out
end Go.Proofs.Ytghgkjollafeiaa
