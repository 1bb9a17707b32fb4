/-
  SameParts, SameHolds of what is the same, walked.
-/
import Derived.Test.YtajnhdlefpeclaaHMem
import Derived.Deep.QuietTactic
import Derived.BigQuiet
namespace Go.Proofs.Ytajnhdlefpeclaa.Ho
open Go.RowKit Go.Maps

theorem st_part : Try.prog.stoodInHeld 42 = false := by kernel_rfl
theorem fo_part : Try.prog.underlying 42 = some (.struct (Try.prog.fieldsOf 42)) := by kernel_rfl
set_option maxRecDepth 100000 in
theorem eq_part (a b : Int) (w : World) : (Op.equalIn 10000 42 (.agg #[.int .i64 a, .int .i64 b]) (.agg #[.int .i64 a, .int .i64 b])).run Try.prog w = .ok true w := by
  rw [run_equalIn_struct w 9999 42 _ _ fo_part st_part]
  go_simp

theorem turn_drewN (w : World) (n : Nat) : Turn [] w (w.drewN n) := (Turn.refl [] w).drewN n

set_option maxRecDepth 100000 in
set_option maxHeartbeats 2000000 in
theorem sameParts_any (a b : Option Addr) (ca cb : Nat) (l : List (Int × Int)) (w : World) (hlen : l.length ≤ 1000) (hA : PartsAt w a l) (hB : PartsAt w b l) :
    Calls Try.prog 22 #[.slice a l.length ca, .slice b l.length cb] w fun e w' => e = .returned (.bool true) ∧ ∃ m, w' = w.drewN m := by
  have HA := hide hA
  have HB := hide hB
  clear hA hB
  go_enter Try.func22, Try.ntmps22
  go_wp2_with fail
  go_loopw [5] (fun i wr => ∃ (k m : Nat), k ≤ l.length ∧ i = .int .i64 k ∧ Hid (wr = w.drewN m)) (fun i _ => l.length - (intOf i).toNat)
  case atStart => exact ⟨0, 0, Nat.zero_le _, rfl, rfl⟩
  case round =>
    obtain ⟨k, m, hk, rfl, HW⟩ := hrel
    have HT : Hid (Turn [] w wr) := by rw [HW.out]; exact turn_drewN w m
    by_cases hlt : k < l.length
    · obtain ⟨b1, o1, rfl, c0, c1⟩ := (HA.out.turn0 HT.out).at hlt
      obtain ⟨b2, o2, rfl, d0, d1⟩ := (HB.out.turn0 HT.out).at hlt
      generalize l.getD k (0, 0) = x at *
      obtain ⟨x1, x2⟩ := x
      simp only at c0 c1 d0 d1
      have hb1 := lt_of_cell c0
      have hb2 := lt_of_cell d0
      have heq := eq_part x1 x2
      go_wp2_with fail
      go_quiet (fail)
      clear c0 c1 d0 d1
      go_wp2_with fail
      go_roundw
      case rel => exact ⟨k + 1, m + _, by omega, by go_num, by unfold Hid; rw [HW.out, World.drewN_drewN]⟩
      case measure => simp [intOf]; omega
    · go_wp2_with fail
      go_ret
      exact ⟨rfl, m, HW.out⟩

theorem getD_of_map {xa xb : List Hr} (h : xa.map Hr.x = xb.map Hr.x) (k : Nat) : (xb.getD k Hr.nil).x = (xa.getD k Hr.nil).x := by
  rw [← map_getD, ← map_getD, h]

set_option maxRecDepth 100000 in
set_option maxHeartbeats 4000000 in
theorem sameHolds_any (a b : Option Addr) (ca cb : Nat) (l : List Hd) (w : World) (hlen : l.length ≤ 1000) (hF : Fit 1000 l) (hA : HoldsAt w a ca l) (hB : HoldsAt w b cb l) :
    Calls Try.prog 11 #[.slice a l.length ca, .slice b l.length cb] w fun e w' => e = .returned (.bool true) ∧ ∃ m, w' = w.drewN m := by
  obtain ⟨xa, rfl, hA1, hA2, hA3⟩ := hA
  obtain ⟨xb, hab, hB1, hB2, hB3⟩ := hB
  have hbl : xb.length = xa.length := by have := congrArg List.length hab; simpa using this.symm
  rw [List.length_map] at hlen ⊢
  have HF := hide hF
  have HE := hide hab
  have HA := hide hA1
  have HB := hide hB1
  have HAo := hide hA2
  have HBo := hide hB2
  have HBl := hide hbl
  clear hA1 hA2 hA3 hB1 hB2 hB3 hab hF hbl
  go_enter Try.func11, Try.ntmps11
  go_wp2_with fail
  go_loopw [5] (fun i wr => ∃ (k m : Nat), k ≤ xa.length ∧ i = .int .i64 k ∧ Hid (wr = w.drewN m)) (fun i _ => xa.length - (intOf i).toNat)
  case atStart => exact ⟨0, 0, Nat.zero_le _, rfl, rfl⟩
  case round =>
    obtain ⟨k, m, hk, rfl, HW⟩ := hrel
    have HT : Hid (Turn [] w wr) := by rw [HW.out]; exact turn_drewN w m
    by_cases hlt : k < xa.length
    · have hlb : k < xb.length := by rw [HBl.out]; exact hlt
      obtain ⟨b1, o1, rfl, c0, c1, c2, c3⟩ := (HA.out.turn0 HT.out).at hlt
      obtain ⟨b2, o2, rfl, d0, d1, d2, d3⟩ := (HB.out.turn0 HT.out).at hlb
      have hOA := ((HAo.out _ (mem_getD' hlt)).turn0 HT.out).1
      have hOB := ((HBo.out _ (mem_getD' hlb)).turn0 HT.out).1
      have HFr : Hid ((xa.getD k Hr.nil).x.ps.length ≤ 1000) := HF.out _ (List.mem_map.2 ⟨_, mem_getD' hlt, rfl⟩)
      rw [getD_of_map HE.out k] at d0 d1 d2 d3 hOB
      generalize xa.getD k Hr.nil = r at *
      generalize xb.getD k Hr.nil = s at *
      obtain ⟨⟨id, ps, ov, un⟩, ra, rc⟩ := r
      obtain ⟨sx, sa, sc⟩ := s
      simp only at c0 c1 c2 c3 d0 d1 d2 d3 hOA hOB HFr
      have HOA := hide hOA
      have HOB := hide hOB
      have hb1 := lt_of_cell c0
      have hb2 := lt_of_cell d0
      clear hlb hOA hOB
      go_wp2_with fail
      go_quiet (first | (go_at_call 22; refine Calls.quiet_of (sameParts_any ra sa rc sc ps _ HFr.out (HOA.out.turn0 (turn_drewN _ _)) (HOB.out.turn0 (turn_drewN _ _)))))
      clear c0 c1 c2 c3 d0 d1 d2 d3
      go_wp2_with fail
      go_roundw
      case rel => exact ⟨k + 1, m + _, by omega, by go_num, by unfold Hid; rw [HW.out, World.drewN_drewN]⟩
      case measure => simp [intOf]; omega
    · go_wp2_with fail
      go_ret
      exact ⟨rfl, m, HW.out⟩

end Go.Proofs.Ytajnhdlefpeclaa.Ho
