/-
  ThrottlePlays, walked.
-/
import Derived.Test.YtgmnillollbgbaaBCalls
import Derived.Test.YtgmnillollbgbaaBRef
import Derived.Deep.CutRange
namespace Go.Proofs.Ytgmnillollbgbaa.Th
open Go.RowKit Go.Maps

set_option maxRecDepth 100000 in
set_option maxHeartbeats 8000000 in
theorem plays_any (bu ra nw : Int) (a : Option Addr) (c : Nat) (l : List Cl) (w : World) (_hlen : l.length ≤ 9223372036854775807) (hL : ClsAt w a l) : Calls Try.prog 3 #[.int .i64 bu, .int .i64 ra, .int .i64 nw, .slice a l.length c] w fun e w' => e = .returned (.bool true) ∧ Turn [] w w' := by
  have HL := hide hL
  clear hL
  go_enter Try.func3, Try.ntmps3
  go_wp2_with fail
  refine (known_any w).mono ?_
  rintro e w1 ⟨rfl, hT1⟩
  have HT1 := hide hT1
  clear hT1
  go_wp2_with fail
  refine (within_any bu 100000 _ (by omega) (by omega)).mono ?_
  rintro e w2 ⟨rfl, rfl⟩
  have h1 := mod_bd bu 100000 (by omega)
  generalize bu % 100000 = u at *
  go_wp2_with fail
  refine (within_any ra 1001 _ (by omega) (by omega)).mono ?_
  rintro e w3 ⟨rfl, rfl⟩
  have h2 := mod_bd ra 1001 (by omega)
  generalize ra % 1001 = r at *
  go_wp2_with fail
  refine (within_any nw 4000000000 _ (by omega) (by omega)).mono ?_
  rintro e w4 ⟨rfl, rfl⟩
  have h3 := mod_bd nw 4000000000 (by omega)
  generalize nw % 4000000000 = n at *
  go_wp2_with fail
  refine (new_any (1 + u) r n w4).mono ?_
  rintro e w5 ⟨g, rfl, hg, hA5, hT5⟩
  have HA5 := hide hA5
  have HT5 := hide (HT1.out.trans hT5)
  have HG : Hid (w.heap.size ≤ g) := Nat.le_trans HT1.out.size hg
  have HG5 : Hid (g < w5.heap.size) := hA5.lt
  clear hA5 hT5 hg HT1
  go_wp2_with fail
  refine (rnew_any (1 + u) r n w5).mono ?_
  rintro e w6 ⟨d, rfl, hd, hA6, hT6⟩
  have HB6 := hide hA6
  have HA6 := hide (HA5.out.turn hT6 (by simp))
  have HT6 := hide (HT5.out.trans hT6)
  have HD : Hid (w.heap.size ≤ d) := Nat.le_trans HT5.out.size hd
  have HN : Hid (g ≠ d) := fun e => by have := HG5.out; omega
  clear hA6 hT6 HT5 HG5 HA5 hd
  have HOk := hide (ok_of (u := 1 + u) (v := r) (n := n) (x := 0) (by omega) (by omega) (by omega) (by omega) (by omega) (by omega) (by omega) (by omega))
  go_wp2_with fail
  go_loopw [2, 11] (fun m i wr => ∃ (k : Nat) (b : Bk) (t : Int), k ≤ l.length ∧ k ≤ 100 ∧ m = .int .i64 t ∧ i = .int .i64 (k : Int) ∧ 0 ≤ t ∧ t ≤ 4000000000 ∧ Hid b.Ok ∧ Hid (BkAt wr g b) ∧ Hid (RfAt wr d b) ∧ Turn [] w wr) (fun _ i _ => 101 - (intOf i).toNat)
  case atStart => exact ⟨0, _, n, Nat.zero_le _, by omega, rfl, rfl, by omega, by omega, HOk, HA6, HB6, HT6.out⟩
  case round =>
    obtain ⟨k, b, t, hk, hk2, rfl, rfl, ht0, ht1, HOb, HA, HB, hT⟩ := hrel
    have HT := hide hT
    clear hT HA6 HB6 HT6 HOk h1 h2 h3
    have hgw := HA.out.lt
    have hdw := HB.out.lt
    by_cases hlt : k < l.length ∧ k < 100
    · obtain ⟨hk1, hk3⟩ := hlt
      obtain ⟨b0, off, rfl, hc⟩ := (HL.out.turn0 HT.out).at hk1
      obtain ⟨y0, y1, y2, y3⟩ := hc
      have hbw := lt_of_cell y0
      generalize l.getD k Cl.nil = x at *
      obtain ⟨kd, xt, xu, xv⟩ := x
      simp only at y0 y1 y2 y3
      go_upto_region 9 with fail
      obtain ⟨W9, hW9⟩ : ∃ W9, W9 = wr.alloc (.cells #[.int .i64 kd, .int .i64 xt, .int .i64 xu, .int .i64 xv] 30) := ⟨_, rfl⟩
      have hb9 : W9.heap[wr.heap.size]? = some (.cells #[.int .i64 kd, .int .i64 xt, .int .i64 xu, .int .i64 xv] 30) := by rw [hW9]; exact Array.getElem?_push_size
      have z0 : W9.cell? ⟨wr.heap.size, 0, none⟩ = some (.int .i64 kd) := by unfold World.cell?; rw [hb9]; rfl
      have z1 : W9.cell? ⟨wr.heap.size, 1, none⟩ = some (.int .i64 xt) := by unfold World.cell?; rw [hb9]; rfl
      have z2 : W9.cell? ⟨wr.heap.size, 2, none⟩ = some (.int .i64 xu) := by unfold World.cell?; rw [hb9]; rfl
      have z3 : W9.cell? ⟨wr.heap.size, 3, none⟩ = some (.int .i64 xv) := by unfold World.cell?; rw [hb9]; rfl
      have hT9 : Turn [] wr W9 := by rw [hW9]; exact (Turn.refl [] wr).alloc _
      have HA9 := hide (HA.out.turn hT9 (by simp))
      have HB9 := hide (HB.out.turn hT9 (by simp))
      have HT9 := hide (HT.out.trans hT9)
      have hpw := lt_of_cell z0
      rw [← hW9]
      clear hW9 hb9 hT9 HA HB HT y0 y1 y2 y3 hbw hgw hdw
      generalize wr.heap.size = p at *
      by_cases hx : 0 ≤ xt
      · go_wp2_with fail
        refine (within_any xt 1000000 _ (by omega) (by omega)).mono ?_
        rintro e w9 ⟨rfl, rfl⟩
        have h9 := mod_bd xt 1000000 (by omega)
        generalize xt % 1000000 = x1 at *
        by_cases hmin : t + x1 ≤ 4000000000
        · go_wp2_with fail
          refine (within_any kd 3 _ (by omega) (by omega)).mono ?_
          rintro e w10 ⟨rfl, rfl⟩
          have h10 := mod_bd kd 3 (by omega)
          generalize kd % 3 = m at *
          have hm : m = 0 ∨ m = 1 ∨ m = 2 := by omega
          clear h10
          rcases hm with rfl | rfl | rfl
          · go_wp2_with fail
            refine (pass_any (t + x1) HOb.out (by omega) (by omega) HA9.out).mono ?_
            rintro e w11 ⟨rfl, hA11, hT11⟩
            have HA11 := hide hA11
            have HB11 := hide (HB9.out.turn hT11 (by simp; exact fun e => HN.out e.symm))
            have HT11 := hide (Turn_new HT9.out HG.out hT11)
            clear hA11 hT11 HA9 HB9 HT9
            go_wp2_with fail
            refine (rpass_any (t + x1) HOb.out (by omega) (by omega) HB11.out).mono ?_
            rintro e w12 ⟨rfl, hB12, hT12⟩
            have HB12 := hide hB12
            have HA12 := hide (HA11.out.turn hT12 (by simp; exact HN.out))
            have HT12 := hide (Turn_new HT11.out HD.out hT12)
            have HO12 := hide (HOb.out.pass (n := t + x1) (by omega) (by omega))
            clear hB12 hT12 HA11 HB11 HT11
            generalize decide (1 ≤ (b.to (t + x1)).has) = dd at *
            generalize b.pass (t + x1) = b2 at *
            cases dd
            all_goals
              go_wp2_with fail
              go_roundw
              case rel => exact ⟨k + 1, b2, _, by omega, by omega, rfl, by go_num, by omega, by omega, HO12, HA12, HB12, HT12.out⟩
              case measure => simp [intOf]; omega
          · go_wp2_with fail
            refine (has_any (t + x1) HOb.out (by omega) (by omega) HA9.out).mono ?_
            rintro e w11 ⟨rfl, hA11, hT11⟩
            have HA11 := hide hA11
            have HB11 := hide (HB9.out.turn hT11 (by simp; exact fun e => HN.out e.symm))
            have HT11 := hide (Turn_new HT9.out HG.out hT11)
            clear hA11 hT11 HA9 HB9 HT9
            go_wp2_with fail
            refine (rleft_any (t + x1) HOb.out (by omega) (by omega) HB11.out).mono ?_
            rintro e w12 ⟨rfl, hB12, hT12⟩
            have HB12 := hide hB12
            have HA12 := hide (HA11.out.turn hT12 (by simp; exact HN.out))
            have HT12 := hide (Turn_new HT11.out HD.out hT12)
            have HO12 := hide (HOb.out.to (n := t + x1) (by omega) (by omega))
            clear hB12 hT12 HA11 HB11 HT11
            generalize b.to (t + x1) = b2 at *
            obtain ⟨e1, e2, e3, e4⟩ := b2
            simp only
            go_wp2_with fail
            go_roundw
            case rel => exact ⟨k + 1, ⟨e1, e2, e3, e4⟩, _, by omega, by omega, rfl, by go_num, by omega, by omega, HO12, HA12, HB12, HT12.out⟩
            case measure => simp [intOf]; omega
          · go_upto_region 22 with fail
            have hv1 := mod_bd xu 100000 (by omega)
            have hv2 := mod_bd xv 1001 (by omega)
            go_quiet (first | (go_at_call 10; (with_reducible refine Calls.quiet_of_same (within_any xu 100000 _ ?_ ?_)) <;> omega) | (go_at_call 10; (with_reducible refine Calls.quiet_of_same (within_any xv 1001 _ ?_ ?_)) <;> omega))
            rename_i nq
            have HA10 := hide (HA9.out.turn ((Turn.refl [] _).drewN nq) (by simp))
            have HB10 := hide (HB9.out.turn ((Turn.refl [] _).drewN nq) (by simp))
            have HT10 := hide (HT9.out.drewN nq)
            clear HA9 HB9 HT9 z0 z1 z2 z3 hpw
            generalize w10.drewN nq = w13 at *
            generalize xu % 100000 = u2 at *
            generalize xv % 1001 = v2 at *
            go_wp2_with fail
            refine (set_any (1 + u2) v2 (t + x1) HOb.out (by omega) (by omega) HA10.out).mono ?_
            rintro e w11 ⟨rfl, hA11, hT11⟩
            have HA11 := hide hA11
            have HB11 := hide (HB10.out.turn hT11 (by simp; exact fun e => HN.out e.symm))
            have HT11 := hide (Turn_new HT10.out HG.out hT11)
            clear hA11 hT11 HA10 HB10 HT10
            go_wp2_with fail
            refine (rset_any (1 + u2) v2 (t + x1) HOb.out (by omega) (by omega) HB11.out).mono ?_
            rintro e w12 ⟨rfl, hB12, hT12⟩
            have HB12 := hide hB12
            have HA12 := hide (HA11.out.turn hT12 (by simp; exact HN.out))
            have HT12 := hide (Turn_new HT11.out HD.out hT12)
            have HO12 := hide (HOb.out.set (u := 1 + u2) (v := v2) (n := t + x1) (by omega) (by omega) (by omega) (by omega) (by omega) (by omega))
            clear hB12 hT12 HA11 HB11 HT11
            generalize b.set (1 + u2) v2 (t + x1) = b2 at *
            go_wp2_with fail
            go_roundw
            case rel => exact ⟨k + 1, b2, _, by omega, by omega, rfl, by go_num, by omega, by omega, HO12, HA12, HB12, HT12.out⟩
            case measure => simp [intOf]; omega
        · go_wp2_with fail
          refine (within_any kd 3 _ (by omega) (by omega)).mono ?_
          rintro e w10 ⟨rfl, rfl⟩
          have h10 := mod_bd kd 3 (by omega)
          generalize kd % 3 = m at *
          have hm : m = 0 ∨ m = 1 ∨ m = 2 := by omega
          clear h10
          rcases hm with rfl | rfl | rfl
          · go_wp2_with fail
            refine (pass_any (4000000000) HOb.out (by omega) (by omega) HA9.out).mono ?_
            rintro e w11 ⟨rfl, hA11, hT11⟩
            have HA11 := hide hA11
            have HB11 := hide (HB9.out.turn hT11 (by simp; exact fun e => HN.out e.symm))
            have HT11 := hide (Turn_new HT9.out HG.out hT11)
            clear hA11 hT11 HA9 HB9 HT9
            go_wp2_with fail
            refine (rpass_any (4000000000) HOb.out (by omega) (by omega) HB11.out).mono ?_
            rintro e w12 ⟨rfl, hB12, hT12⟩
            have HB12 := hide hB12
            have HA12 := hide (HA11.out.turn hT12 (by simp; exact HN.out))
            have HT12 := hide (Turn_new HT11.out HD.out hT12)
            have HO12 := hide (HOb.out.pass (n := 4000000000) (by omega) (by omega))
            clear hB12 hT12 HA11 HB11 HT11
            generalize decide (1 ≤ (b.to (4000000000)).has) = dd at *
            generalize b.pass (4000000000) = b2 at *
            cases dd
            all_goals
              go_wp2_with fail
              go_roundw
              case rel => exact ⟨k + 1, b2, _, by omega, by omega, rfl, by go_num, by omega, by omega, HO12, HA12, HB12, HT12.out⟩
              case measure => simp [intOf]; omega
          · go_wp2_with fail
            refine (has_any (4000000000) HOb.out (by omega) (by omega) HA9.out).mono ?_
            rintro e w11 ⟨rfl, hA11, hT11⟩
            have HA11 := hide hA11
            have HB11 := hide (HB9.out.turn hT11 (by simp; exact fun e => HN.out e.symm))
            have HT11 := hide (Turn_new HT9.out HG.out hT11)
            clear hA11 hT11 HA9 HB9 HT9
            go_wp2_with fail
            refine (rleft_any (4000000000) HOb.out (by omega) (by omega) HB11.out).mono ?_
            rintro e w12 ⟨rfl, hB12, hT12⟩
            have HB12 := hide hB12
            have HA12 := hide (HA11.out.turn hT12 (by simp; exact HN.out))
            have HT12 := hide (Turn_new HT11.out HD.out hT12)
            have HO12 := hide (HOb.out.to (n := 4000000000) (by omega) (by omega))
            clear hB12 hT12 HA11 HB11 HT11
            generalize b.to (4000000000) = b2 at *
            obtain ⟨e1, e2, e3, e4⟩ := b2
            simp only
            go_wp2_with fail
            go_roundw
            case rel => exact ⟨k + 1, ⟨e1, e2, e3, e4⟩, _, by omega, by omega, rfl, by go_num, by omega, by omega, HO12, HA12, HB12, HT12.out⟩
            case measure => simp [intOf]; omega
          · go_upto_region 22 with fail
            have hv1 := mod_bd xu 100000 (by omega)
            have hv2 := mod_bd xv 1001 (by omega)
            go_quiet (first | (go_at_call 10; (with_reducible refine Calls.quiet_of_same (within_any xu 100000 _ ?_ ?_)) <;> omega) | (go_at_call 10; (with_reducible refine Calls.quiet_of_same (within_any xv 1001 _ ?_ ?_)) <;> omega))
            rename_i nq
            have HA10 := hide (HA9.out.turn ((Turn.refl [] _).drewN nq) (by simp))
            have HB10 := hide (HB9.out.turn ((Turn.refl [] _).drewN nq) (by simp))
            have HT10 := hide (HT9.out.drewN nq)
            clear HA9 HB9 HT9 z0 z1 z2 z3 hpw
            generalize w10.drewN nq = w13 at *
            generalize xu % 100000 = u2 at *
            generalize xv % 1001 = v2 at *
            go_wp2_with fail
            refine (set_any (1 + u2) v2 (4000000000) HOb.out (by omega) (by omega) HA10.out).mono ?_
            rintro e w11 ⟨rfl, hA11, hT11⟩
            have HA11 := hide hA11
            have HB11 := hide (HB10.out.turn hT11 (by simp; exact fun e => HN.out e.symm))
            have HT11 := hide (Turn_new HT10.out HG.out hT11)
            clear hA11 hT11 HA10 HB10 HT10
            go_wp2_with fail
            refine (rset_any (1 + u2) v2 (4000000000) HOb.out (by omega) (by omega) HB11.out).mono ?_
            rintro e w12 ⟨rfl, hB12, hT12⟩
            have HB12 := hide hB12
            have HA12 := hide (HA11.out.turn hT12 (by simp; exact HN.out))
            have HT12 := hide (Turn_new HT11.out HD.out hT12)
            have HO12 := hide (HOb.out.set (u := 1 + u2) (v := v2) (n := 4000000000) (by omega) (by omega) (by omega) (by omega) (by omega) (by omega))
            clear hB12 hT12 HA11 HB11 HT11
            generalize b.set (1 + u2) v2 (4000000000) = b2 at *
            go_wp2_with fail
            go_roundw
            case rel => exact ⟨k + 1, b2, _, by omega, by omega, rfl, by go_num, by omega, by omega, HO12, HA12, HB12, HT12.out⟩
            case measure => simp [intOf]; omega
      · have hc := within_any xt (t + 1) W9 (by omega) (by omega)
        have HC := hide hc
        have h9 := mod_bd xt (t + 1) (by omega)
        generalize xt % (t + 1) = x1 at *
        clear hc
        go_wp2_with fail
        refine HC.out.mono ?_
        rintro e w9 ⟨rfl, rfl⟩
        clear HC
        go_wp2_with fail
        refine (within_any kd 3 _ (by omega) (by omega)).mono ?_
        rintro e w10 ⟨rfl, rfl⟩
        have h10 := mod_bd kd 3 (by omega)
        generalize kd % 3 = m at *
        have hm : m = 0 ∨ m = 1 ∨ m = 2 := by omega
        clear h10
        rcases hm with rfl | rfl | rfl
        · go_wp2_with fail
          refine (pass_any (x1) HOb.out (by omega) (by omega) HA9.out).mono ?_
          rintro e w11 ⟨rfl, hA11, hT11⟩
          have HA11 := hide hA11
          have HB11 := hide (HB9.out.turn hT11 (by simp; exact fun e => HN.out e.symm))
          have HT11 := hide (Turn_new HT9.out HG.out hT11)
          clear hA11 hT11 HA9 HB9 HT9
          go_wp2_with fail
          refine (rpass_any (x1) HOb.out (by omega) (by omega) HB11.out).mono ?_
          rintro e w12 ⟨rfl, hB12, hT12⟩
          have HB12 := hide hB12
          have HA12 := hide (HA11.out.turn hT12 (by simp; exact HN.out))
          have HT12 := hide (Turn_new HT11.out HD.out hT12)
          have HO12 := hide (HOb.out.pass (n := x1) (by omega) (by omega))
          clear hB12 hT12 HA11 HB11 HT11
          generalize decide (1 ≤ (b.to (x1)).has) = dd at *
          generalize b.pass (x1) = b2 at *
          cases dd
          all_goals
            go_wp2_with fail
            go_roundw
            case rel => exact ⟨k + 1, b2, _, by omega, by omega, rfl, by go_num, by omega, by omega, HO12, HA12, HB12, HT12.out⟩
            case measure => simp [intOf]; omega
        · go_wp2_with fail
          refine (has_any (x1) HOb.out (by omega) (by omega) HA9.out).mono ?_
          rintro e w11 ⟨rfl, hA11, hT11⟩
          have HA11 := hide hA11
          have HB11 := hide (HB9.out.turn hT11 (by simp; exact fun e => HN.out e.symm))
          have HT11 := hide (Turn_new HT9.out HG.out hT11)
          clear hA11 hT11 HA9 HB9 HT9
          go_wp2_with fail
          refine (rleft_any (x1) HOb.out (by omega) (by omega) HB11.out).mono ?_
          rintro e w12 ⟨rfl, hB12, hT12⟩
          have HB12 := hide hB12
          have HA12 := hide (HA11.out.turn hT12 (by simp; exact HN.out))
          have HT12 := hide (Turn_new HT11.out HD.out hT12)
          have HO12 := hide (HOb.out.to (n := x1) (by omega) (by omega))
          clear hB12 hT12 HA11 HB11 HT11
          generalize b.to (x1) = b2 at *
          obtain ⟨e1, e2, e3, e4⟩ := b2
          simp only
          go_wp2_with fail
          go_roundw
          case rel => exact ⟨k + 1, ⟨e1, e2, e3, e4⟩, _, by omega, by omega, rfl, by go_num, by omega, by omega, HO12, HA12, HB12, HT12.out⟩
          case measure => simp [intOf]; omega
        · go_upto_region 22 with fail
          have hv1 := mod_bd xu 100000 (by omega)
          have hv2 := mod_bd xv 1001 (by omega)
          go_quiet (first | (go_at_call 10; (with_reducible refine Calls.quiet_of_same (within_any xu 100000 _ ?_ ?_)) <;> omega) | (go_at_call 10; (with_reducible refine Calls.quiet_of_same (within_any xv 1001 _ ?_ ?_)) <;> omega))
          rename_i nq
          have HA10 := hide (HA9.out.turn ((Turn.refl [] _).drewN nq) (by simp))
          have HB10 := hide (HB9.out.turn ((Turn.refl [] _).drewN nq) (by simp))
          have HT10 := hide (HT9.out.drewN nq)
          clear HA9 HB9 HT9 z0 z1 z2 z3 hpw
          generalize w10.drewN nq = w13 at *
          generalize xu % 100000 = u2 at *
          generalize xv % 1001 = v2 at *
          go_wp2_with fail
          refine (set_any (1 + u2) v2 (x1) HOb.out (by omega) (by omega) HA10.out).mono ?_
          rintro e w11 ⟨rfl, hA11, hT11⟩
          have HA11 := hide hA11
          have HB11 := hide (HB10.out.turn hT11 (by simp; exact fun e => HN.out e.symm))
          have HT11 := hide (Turn_new HT10.out HG.out hT11)
          clear hA11 hT11 HA10 HB10 HT10
          go_wp2_with fail
          refine (rset_any (1 + u2) v2 (x1) HOb.out (by omega) (by omega) HB11.out).mono ?_
          rintro e w12 ⟨rfl, hB12, hT12⟩
          have HB12 := hide hB12
          have HA12 := hide (HA11.out.turn hT12 (by simp; exact HN.out))
          have HT12 := hide (Turn_new HT11.out HD.out hT12)
          have HO12 := hide (HOb.out.set (u := 1 + u2) (v := v2) (n := x1) (by omega) (by omega) (by omega) (by omega) (by omega) (by omega))
          clear hB12 hT12 HA11 HB11 HT11
          generalize b.set (1 + u2) v2 (x1) = b2 at *
          go_wp2_with fail
          go_roundw
          case rel => exact ⟨k + 1, b2, _, by omega, by omega, rfl, by go_num, by omega, by omega, HO12, HA12, HB12, HT12.out⟩
          case measure => simp [intOf]; omega
    · have hcs : (¬ k < l.length) ∨ (k < l.length ∧ ¬ k < 100) := by
        by_cases h : k < l.length
        · exact .inr ⟨h, fun h2 => hlt ⟨h, h2⟩⟩
        · exact .inl h
      clear hlt
      rcases hcs with h1 | ⟨h1, h2⟩
      all_goals
        go_wp2_with fail
        refine (has_any t HOb.out (by omega) (by omega) HA.out).mono ?_
        rintro e w11 ⟨rfl, hA11, hT11⟩
        have HB11 := hide (HB.out.turn hT11 (by simp; exact fun e => HN.out e.symm))
        have HT11 := hide (Turn_new HT.out HG.out hT11)
        clear hA11 hT11
        go_wp2_with fail
        refine (rleft_any t HOb.out (by omega) (by omega) HB11.out).mono ?_
        rintro e w12 ⟨rfl, hB12, hT12⟩
        have HT12 := hide (Turn_new HT11.out HD.out hT12)
        clear hB12 hT12
        generalize (b.to t).has = hh at *
        go_wp2_with fail
        go_ret
        exact ⟨rfl, HT12.out⟩

end Go.Proofs.Ytgmnillollbgbaa.Th
