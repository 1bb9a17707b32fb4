/-
  SameLots, SameParts of what is the same, walked.
-/
import Derived.Test.YtegbinlpojpffaaLCopy
namespace Go.Proofs.Ytegbinlpojpffaa
open Go.RowKit Go.Maps Lo

theorem st_lot : Try.prog.stoodInHeld 29 = false := by kernel_rfl
theorem fo_lot : Try.prog.underlying 29 = some (.struct (Try.prog.fieldsOf 29)) := by kernel_rfl
theorem st_part : Try.prog.stoodInHeld 47 = false := by kernel_rfl
theorem fo_part : Try.prog.underlying 47 = some (.struct (Try.prog.fieldsOf 47)) := by kernel_rfl
set_option maxRecDepth 100000 in
theorem eq_lot (x : Lt) (w : World) : (Op.equalIn 10000 29 (lotV x) (lotV x)).run Try.prog w = .ok true w := by
  rw [run_equalIn_struct w 9999 29 _ _ fo_lot st_lot]; go_simp
set_option maxRecDepth 100000 in
theorem eq_part (a b c d : Int) (w : World) : (Op.equalIn 10000 47 (.agg #[.int .i64 a, .int .i64 b]) (.agg #[.int .i64 c, .int .i64 d])).run Try.prog w = .ok (decide (a = c ∧ b = d)) w := by
  rw [run_equalIn_struct w 9999 47 _ _ fo_part st_part]
  by_cases h1 : a = c
  · by_cases h2 : b = d
    · subst h1 h2; go_simp
    · have e : decide (a = c ∧ b = d) = false := by simp [h2]
      rw [e]; go_simp
  · have e : decide (a = c ∧ b = d) = false := by simp [h1]
    rw [e]; go_simp

set_option maxRecDepth 100000 in
set_option maxHeartbeats 2000000 in
theorem sameLots_any (a b : Option Addr) (ca cb : Nat) (l : List Lt) (w : World) (hlen : l.length ≤ 1000) (hA : LotsAt w a l) (hB : LotsAt w b l) :
    Calls Try.prog 20 #[.slice a l.length ca, .slice b l.length cb] w fun e w' => e = .returned (.bool true) ∧ Turn [] w w' := by
  have HA := hide hA
  have HB := hide hB
  clear hA hB
  go_enter Try.func20, Try.ntmps20
  go_wp2_with fail
  go_loopw [5] (fun i wr => ∃ k : Nat, k ≤ l.length ∧ i = .int .i64 k ∧ Turn [] w wr) (fun i _ => l.length - (intOf i).toNat)
  case atStart => exact ⟨0, Nat.zero_le _, rfl, Turn.refl _ _⟩
  case round =>
    obtain ⟨k, hk, rfl, hT⟩ := hrel
    have HT := hide hT
    clear hT
    by_cases hlt : k < l.length
    · obtain ⟨b1, o1, rfl, hx⟩ := (HA.out.turn0 HT.out).at hlt
      obtain ⟨b2, o2, rfl, hy⟩ := (HB.out.turn0 HT.out).at hlt
      generalize l.getD k Lt.nil = x at *
      have hb1 := hx.lt
      have hb2 := hy.lt
      have heq := eq_lot x
      obtain ⟨c0, c1, c2, c3, c4, c5, c6, c7, c8⟩ := hx
      obtain ⟨d0, d1, d2, d3, d4, d5, d6, d7, d8⟩ := hy
      go_wp2_with fail
      go_quiet (fail)
      clear c0 c1 c2 c3 c4 c5 c6 c7 c8 d0 d1 d2 d3 d4 d5 d6 d7 d8
      go_wp2_with fail
      go_roundw
      case rel => exact ⟨k + 1, by omega, by go_num, HT.out.drewN _⟩
      case measure => simp [intOf]; omega
    · go_wp2_with fail
      go_ret
      exact ⟨rfl, HT.out⟩

set_option maxRecDepth 100000 in
set_option maxHeartbeats 2000000 in
theorem sameParts_any (a b : Option Addr) (ca cb : Nat) (l : List (Int × Int)) (w : World) (hlen : l.length ≤ 1000) (hA : PartsAt w a l) (hB : PartsAt w b l) :
    Calls Try.prog 21 #[.slice a l.length ca, .slice b l.length cb] w fun e w' => e = .returned (.bool true) ∧ Turn [] w w' := by
  have HA := hide hA
  have HB := hide hB
  clear hA hB
  go_enter Try.func21, Try.ntmps21
  go_wp2_with fail
  go_loopw [5] (fun i wr => ∃ k : Nat, k ≤ l.length ∧ i = .int .i64 k ∧ Turn [] w wr) (fun i _ => l.length - (intOf i).toNat)
  case atStart => exact ⟨0, Nat.zero_le _, rfl, Turn.refl _ _⟩
  case round =>
    obtain ⟨k, hk, rfl, hT⟩ := hrel
    have HT := hide hT
    clear hT
    by_cases hlt : k < l.length
    · obtain ⟨b1, o1, rfl, c0, c1⟩ := (HA.out.turn0 HT.out).at hlt
      obtain ⟨b2, o2, rfl, d0, d1⟩ := (HB.out.turn0 HT.out).at hlt
      generalize l.getD k (0, 0) = x at *
      obtain ⟨x1, x2⟩ := x
      simp only at c0 c1 d0 d1
      have hb1 := lt_of_cell c0
      have hb2 := lt_of_cell d0
      have heq := eq_part x1 x2 x1 x2
      simp only [and_self, decide_true] at heq
      go_wp2_with fail
      go_quiet (fail)
      clear c0 c1 d0 d1
      go_wp2_with fail
      go_roundw
      case rel => exact ⟨k + 1, by omega, by go_num, HT.out.drewN _⟩
      case measure => simp [intOf]; omega
    · go_wp2_with fail
      go_ret
      exact ⟨rfl, HT.out⟩

end Go.Proofs.Ytegbinlpojpffaa
