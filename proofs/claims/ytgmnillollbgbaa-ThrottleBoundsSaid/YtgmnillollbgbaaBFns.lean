/-
  Package throttle, walked.
-/
import Derived.Test.YtgmnillollbgbaaBPure
import Derived.Deep.RegionWith
import Derived.BigRegion
namespace Go.Proofs.Ytgmnillollbgbaa.Th
open Go.RowKit Go.Maps

set_option maxRecDepth 100000 in
set_option maxHeartbeats 800000 in
theorem aload {w : World} {a : Nat} {o : Nat} {x : Int} (h : w.cell? ⟨a, o, none⟩ = some (.int .i64 x)) : Calls Try.prog 22 #[.pointer (some ⟨a, o, none⟩)] w fun e w' => e = .returned (.int .i64 x) ∧ w' = w := by
  have hl := run_call_load (P := Try.prog) Try.func25 (by kernel_rfl) (by kernel_rfl) (by kernel_rfl) .i64 (by kernel_rfl) h
  go_enter Try.func22, Try.ntmps22
  go_wp2
  go_ret
  exact ⟨rfl, rfl⟩

set_option maxRecDepth 100000 in
set_option maxHeartbeats 800000 in
theorem astore {w : World} {a : Nat} {o : Nat} {x y : Int} (h : w.cell? ⟨a, o, none⟩ = some (.int .i64 x)) (hz : w.frozen? ⟨a, o, none⟩ = false) : Calls Try.prog 23 #[.pointer (some ⟨a, o, none⟩), .int .i64 y] w fun e w' => e = .returned (.tuple #[]) ∧ w' = w.setCell ⟨a, o, none⟩ (.int .i64 y) := by
  have hst := run_call_store (P := Try.prog) Try.func26 (by kernel_rfl) (by kernel_rfl) (by kernel_rfl) (by kernel_rfl) (k := .i64) (y := y) h hz
  go_enter Try.func23, Try.ntmps23
  go_wp2
  go_end0
  exact ⟨rfl, rfl⟩

set_option maxRecDepth 100000 in
set_option maxHeartbeats 800000 in
theorem aless {w : World} {a : Nat} {o : Nat} {x : Int} (h0 : 0 ≤ x) (h1 : x ≤ 1000000) (h : w.cell? ⟨a, o, none⟩ = some (.int .i64 x)) (hz : w.frozen? ⟨a, o, none⟩ = false) : Calls Try.prog 19 #[.pointer (some ⟨a, o, none⟩), .int .i64 (-1)] w fun e w' => (∃ v, e = .returned v) ∧ w' = w.setCell ⟨a, o, none⟩ (.int .i64 (x - 1)) := by
  have hw : IntKind.i64.wrap (x + -1) = x - 1 := by
    rw [IntKind.wrap_i64]
    omega
  have hs : (Op.intArith .add .i64 x (-1)).run Try.prog w = .ok (.int .i64 (x - 1)) w := by
    rw [← hw]
    rfl
  have hadd := run_call_add (P := Try.prog) Try.func24 (by kernel_rfl) (by kernel_rfl) (by kernel_rfl) .i64 (by kernel_rfl) (y := -1) (s := x - 1) h hz hs
  go_enter Try.func19, Try.ntmps19
  go_wp2
  go_ret
  exact ⟨⟨_, rfl⟩, rfl⟩

set_option maxRecDepth 100000 in
set_option maxHeartbeats 800000 in
theorem new_any (u v n : Int) (w : World) : Calls Try.prog 11 #[.int .i64 u, .int .i64 v, .int .i64 n] w fun e w' => ∃ g, e = .returned (.pointer (some ⟨g, 0, none⟩)) ∧ w.heap.size ≤ g ∧ BkAt w' g ⟨u, v, n, 0⟩ ∧ Turn [] w w' := by
  go_enter Try.func11, Try.ntmps11
  go_wp2_with fail
  go_ret
  have hb : ∀ o : Obj, (w.alloc o).heap[w.heap.size]? = some o := fun o => Array.getElem?_push_size
  refine ⟨_, rfl, Nat.le_refl _, ⟨?_, ?_, ?_, ?_, fun o => ?_⟩, (Turn.refl [] w).alloc _⟩
  · unfold World.cell?; rw [hb]; rfl
  · unfold World.cell?; rw [hb]; rfl
  · unfold World.cell?; rw [hb]; rfl
  · unfold World.cell?; rw [hb]; rfl
  · unfold World.frozen?; rw [hb]; simp

set_option maxRecDepth 100000 in
set_option maxHeartbeats 2000000 in
theorem reach_any {g : Nat} {b : Bk} {w : World} (n : Int) (hb : b.Ok) (_h0 : 0 ≤ n) (h1 : n ≤ 4000000000) (hA : BkAt w g b) :
    Calls Try.prog 21 #[.pointer (some ⟨g, 0, none⟩), .int .i64 n] w fun e w' => e = .returned (.tuple #[]) ∧ BkAt w' g (b.to n) ∧ Turn [g] w w' := by
  obtain ⟨u, v, t, x⟩ := b
  obtain ⟨b0, b1, r0, r1, n0, n1, x0, x1⟩ := hb
  simp only at b0 b1 r0 r1 n0 n1 x0 x1
  have hg := hA.lt
  have c0 := hA.c0
  have c1 := hA.c1
  have c2 := hA.c2
  have c3 := hA.c3
  have fz := hA.fz
  simp only at c0 c1 c2 c3
  go_enter Try.func21, Try.ntmps21
  by_cases hn : n ≤ t
  · go_wp2_with fail
    refine bodyPost_ret (results_none rfl _ _ _) rfl ?_
    refine ⟨rfl, ?_, Turn.refl _ _⟩
    rw [to_le hn]
    exact ⟨c0, c1, c2, c3, fz⟩
  · obtain ⟨m0, m1⟩ := mul_bd (x := n - t) (r := v) (by omega) (by omega) r0 r1
    have hw1 : IntKind.i64.wrap (n - t) = n - t := by rw [IntKind.wrap_i64]; omega
    have hw2 : IntKind.i64.wrap ((n - t) * v) = (n - t) * v := by rw [IntKind.wrap_i64]; omega
    have hw3 : IntKind.i64.wrap (x + (n - t) * v) = x + (n - t) * v := by rw [IntKind.wrap_i64]; omega
    go_wp2_with fail
    go_quiet (fail)
    rename_i nq
    have HT : Hid (Turn [g] w (w.drewN nq)) := (Turn.refl _ _).drewN nq
    have y0 : (w.drewN nq).cell? ⟨g, 0, none⟩ = some (.int .i64 x) := c0
    have y1 : (w.drewN nq).cell? ⟨g, 1, none⟩ = some (.int .i64 u) := c1
    have y2 : (w.drewN nq).cell? ⟨g, 2, none⟩ = some (.int .i64 v) := c2
    have y3 : (w.drewN nq).cell? ⟨g, 3, none⟩ = some (.int .i64 t) := c3
    have yf : ∀ o, (w.drewN nq).frozen? ⟨g, o, none⟩ = false := fz
    have hgq : g < (w.drewN nq).heap.size := hg
    clear c0 c1 c2 c3 fz hg hA
    generalize w.drewN nq = wq at *
    generalize hmr : (n - t) * v = mr at *
    have HW : Hid ((⟨u, v, t, x⟩ : Bk).to n = ⟨u, v, n, min (x + mr) u⟩) := by unfold Hid; rw [to_gt (by simp only; omega)]; simp only [hmr]
    have HB : Hid (BkAt wq g ⟨u, v, t, x⟩) := ⟨y0, y1, y2, y3, yf⟩
    clear hmr y2
    have HK : Hid (∀ z, BkAt (wq.setCell ⟨g, 0, none⟩ (.int .i64 z)).drew g ⟨u, v, t, z⟩ ∧ Turn [g] w (wq.setCell ⟨g, 0, none⟩ (.int .i64 z)).drew) := fun z => ⟨(HB.out.put z).drew, (HT.out.setCell (by simp) _ _).drew⟩
    by_cases hle : x + mr ≤ u
    · have HM : Hid (min (x + mr) u = x + mr) := by unfold Hid; omega
      rw [HM.out] at HW
      go_wp2_with fail
      go_region_with (first | (go_at_call 22; refine (aload (x := x) (by exact y0)).mono ?_; rintro e w' ⟨rfl, rfl⟩) | (go_at_call 23; refine (astore (x := x) (by exact y0) (by exact yf 0)).mono ?_; rintro e w' ⟨rfl, rfl⟩))
      all_goals
        obtain ⟨hB5, hT5⟩ := HK.out (x + mr)
        clear HK HB HT y0 y1 y3 yf hgq
        generalize (wq.setCell ⟨g, 0, none⟩ (.int .i64 (x + mr))).drew = w5 at *
        have HT5 := hide hT5
        have HB5 := hide hB5
        have k3 := hB5.c3
        have k4 := hB5.fz 3
        have hg5 := hB5.lt
        simp only at k3
        clear hB5 hT5
        go_wp2_with fail
        go_end0
        exact ⟨rfl, by rw [HW.out]; exact HB5.out.put3 n, HT5.out.setCell (by simp) _ _⟩
    · have HM : Hid (min (x + mr) u = u) := by unfold Hid; omega
      rw [HM.out] at HW
      go_wp2_with fail
      go_region_with (first | (go_at_call 22; refine (aload (x := x) (by exact y0)).mono ?_; rintro e w' ⟨rfl, rfl⟩) | (go_at_call 23; refine (astore (x := x) (by exact y0) (by exact yf 0)).mono ?_; rintro e w' ⟨rfl, rfl⟩))
      all_goals
        obtain ⟨hB5, hT5⟩ := HK.out u
        clear HK HB HT y0 y1 y3 yf hgq
        generalize (wq.setCell ⟨g, 0, none⟩ (.int .i64 u)).drew = w5 at *
        have HT5 := hide hT5
        have HB5 := hide hB5
        have k3 := hB5.c3
        have k4 := hB5.fz 3
        have hg5 := hB5.lt
        simp only at k3
        clear hB5 hT5
        go_wp2_with fail
        go_end0
        exact ⟨rfl, by rw [HW.out]; exact HB5.out.put3 n, HT5.out.setCell (by simp) _ _⟩

set_option maxRecDepth 100000 in
set_option maxHeartbeats 2000000 in
theorem has_any {g : Nat} {b : Bk} {w : World} (n : Int) (hb : b.Ok) (h0 : 0 ≤ n) (h1 : n ≤ 4000000000) (hA : BkAt w g b) :
    Calls Try.prog 15 #[.pointer (some ⟨g, 0, none⟩), .int .i64 n] w fun e w' => e = .returned (.int .i64 (b.to n).has) ∧ BkAt w' g (b.to n) ∧ Turn [g] w w' := by
  have HA := hide hA
  have HB := hide hb
  have hg := hA.lt
  have HC := hide (reach_any n hb h0 h1 hA)
  clear hA hb HA HB
  generalize b.to n = b1 at *
  go_enter Try.func15, Try.ntmps15
  go_wp2_with fail
  refine HC.out.mono ?_
  rintro e w1 ⟨rfl, hA1, hT1⟩
  have HA1 := hide hA1
  have HT1 := hide hT1
  have hg1 := hA1.lt
  clear hA1 hT1 HC
  go_wp2_with fail
  refine (aload HA1.out.c0).mono ?_
  rintro e w2 ⟨rfl, rfl⟩
  go_wp2_with fail
  go_ret
  exact ⟨rfl, HA1.out, HT1.out⟩

set_option maxRecDepth 100000 in
set_option maxHeartbeats 2000000 in
theorem pass_any {g : Nat} {b : Bk} {w : World} (n : Int) (hb : b.Ok) (h0 : 0 ≤ n) (h1 : n ≤ 4000000000) (hA : BkAt w g b) :
    Calls Try.prog 13 #[.pointer (some ⟨g, 0, none⟩), .int .i64 n] w fun e w' => e = .returned (.bool (decide (1 ≤ (b.to n).has))) ∧ BkAt w' g (b.pass n) ∧ Turn [g] w w' := by
  have hg := hA.lt
  have HB1 := hide (hb.to h0 h1)
  have HC := hide (has_any n hb h0 h1 hA)
  clear hA hb
  unfold Bk.pass
  generalize b.to n = b1 at *
  obtain ⟨u, v, t, x⟩ := b1
  simp only
  generalize hb2 : (if x < 1 then (⟨u, v, t, x⟩ : Bk) else (⟨u, v, t, x⟩ : Bk).less) = b2
  simp only at HC
  have HB2 := hide hb2.symm
  clear hb2
  go_enter Try.func13, Try.ntmps13
  go_wp2_with fail
  refine HC.out.mono ?_
  rintro e w1 ⟨rfl, hA1, hT1⟩
  have HA1 := hide hA1
  have HT1 := hide hT1
  have hg1 := hA1.lt
  clear hA1 hT1 HC
  by_cases hx : x < 1
  · rw [if_pos hx] at HB2
    have hd : ¬ 1 ≤ x := by omega
    have HD := hide (decide_eq_false hd)
    go_wp2_with fail
    go_ret
    exact ⟨ret_bool HD.out.symm, by rw [HB2.out]; exact HA1.out, HT1.out⟩
  · rw [if_neg hx] at HB2
    have hx2 := HB1.out.h1
    have hd : 1 ≤ x := by omega
    have HD := hide (decide_eq_true hd)
    simp only at hx2
    go_wp2_with fail
    refine (aless (x := x) (by omega) (by omega) HA1.out.c0 (HA1.out.fz 0)).mono ?_
    rintro e w2 ⟨⟨v, rfl⟩, rfl⟩
    go_wp2_with fail
    go_ret
    exact ⟨ret_bool HD.out.symm, by rw [HB2.out]; exact HA1.out.put (x - 1), HT1.out.setCell (by simp) _ _⟩

set_option maxRecDepth 100000 in
set_option maxHeartbeats 2000000 in
theorem set_any {g : Nat} {b : Bk} {w : World} (u v n : Int) (hb : b.Ok) (h0 : 0 ≤ n) (h1 : n ≤ 4000000000) (hA : BkAt w g b) :
    Calls Try.prog 17 #[.pointer (some ⟨g, 0, none⟩), .int .i64 u, .int .i64 v, .int .i64 n] w fun e w' => e = .returned (.tuple #[]) ∧ BkAt w' g (b.set u v n) ∧ Turn [g] w w' := by
  have hg := hA.lt
  have HC0 := hide (has_any n hb h0 h1 hA)
  clear hA hb
  unfold Bk.set
  generalize b.to n = b1 at *
  obtain ⟨u1, v1, t, x⟩ := b1
  simp only
  simp only at HC0
  generalize hz : min x u = z
  have hzz : (x ≤ u ∧ z = x) ∨ (u < x ∧ z = u) := by omega
  have HZ := hide hzz
  clear hz hzz
  go_enter Try.func17, Try.ntmps17
  go_wp2_with fail
  refine HC0.out.mono ?_
  rintro e w1 ⟨rfl, hA1, hT1⟩
  have HA1 := hide hA1
  have HT1 := hide hT1
  have hg1 := hA1.lt
  clear hA1 hT1 HC0
  have HC : Hid (Calls Try.prog 23 #[.pointer (some ⟨g, 0, none⟩), .int .i64 z] w1 fun e w' => e = .returned (.tuple #[]) ∧ BkAt w' g ⟨u1, v1, t, z⟩ ∧ Turn [g] w w') := by
    refine (astore HA1.out.c0 (HA1.out.fz 0)).mono ?_
    rintro e w2 ⟨rfl, rfl⟩
    exact ⟨rfl, HA1.out.put z, HT1.out.setCell (by simp) _ _⟩
  clear HA1 HT1
  rcases HZ.out with ⟨hz1, rfl⟩ | ⟨hz1, rfl⟩
  all_goals
    go_wp2_with fail
    all_goals
      refine HC.out.mono ?_
      rintro e w2 ⟨rfl, hA2, hT2⟩
      have HA2 := hide hA2
      have HT2 := hide hT2
      have k1 := hA2.c1
      have k2 := hA2.c2
      have k3 := hA2.fz
      have hg2 := hA2.lt
      simp only at k1 k2
      clear hA2 hT2
      go_wp2_with fail
      go_end0
      exact ⟨rfl, (HA2.out.put1 _).put2 _, (HT2.out.setCell (by simp) _ _).setCell (by simp) _ _⟩

end Go.Proofs.Ytgmnillollbgbaa.Th
