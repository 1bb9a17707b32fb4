/-
  Rest, addsUp, checkBehind, isOver, isValid, and the reference's, walked.
-/
import Derived.Test.YtegbinlpojpffaaLMem
namespace Go.Proofs.Ytegbinlpojpffaa
open Go.RowKit Lo

set_option maxRecDepth 100000 in
set_option maxHeartbeats 1000000 in
theorem rest_any (x : Lt) (w : World) (h : Bq x) :
    Calls Try.prog 12 #[lotV x] w fun e w' => e = .returned (.int .i64 (rest x)) ∧ Turn [] w w' := by
  obtain ⟨h4, h5, h6, h7, h8⟩ := h
  go_enter Try.func12, Try.ntmps12
  go_wp2
  go_ret
  exact ⟨rfl, (Turn.refl [] w).alloc _⟩

set_option maxRecDepth 100000 in
set_option maxHeartbeats 1000000 in
theorem rrest_any (x : Lt) (w : World) (h : Bq x) :
    Calls Try.prog 13 #[lotV x] w fun e w' => e = .returned (.int .i64 (rest x)) ∧ Turn [] w w' := by
  obtain ⟨h4, h5, h6, h7, h8⟩ := h
  go_enter Try.func13, Try.ntmps13
  go_wp2
  go_ret
  exact ⟨rfl, (Turn.refl [] w).alloc _⟩

/-- The rest of a lot of any numbers. -/
def restW (x : Lt) : Int := wrap64 (wrap64 (wrap64 (wrap64 (x.gr - x.co) - x.he) - x.ex) - x.ro)

set_option maxRecDepth 100000 in
set_option maxHeartbeats 1000000 in
theorem restw_any (x : Lt) (w : World) :
    Calls Try.prog 12 #[lotV x] w fun e w' => e = .returned (.int .i64 (restW x)) ∧ Turn [] w w' := by
  go_enter Try.func12, Try.ntmps12
  go_wp2
  go_ret
  exact ⟨rfl, (Turn.refl [] w).alloc _⟩

set_option maxRecDepth 100000 in
set_option maxHeartbeats 1000000 in
theorem rrestw_any (x : Lt) (w : World) :
    Calls Try.prog 13 #[lotV x] w fun e w' => e = .returned (.int .i64 (restW x)) ∧ Turn [] w w' := by
  go_enter Try.func13, Try.ntmps13
  go_wp2
  go_ret
  exact ⟨rfl, (Turn.refl [] w).alloc _⟩

set_option maxRecDepth 100000 in
set_option maxHeartbeats 1000000 in
theorem over_any (x : Lt) (now : Int) (w : World) :
    Calls Try.prog 36 #[lotV x, .int .i64 now] w fun e w' => e = .returned (.bool (ovr x now)) ∧ Turn [] w w' := by
  go_enter Try.func36, Try.ntmps36
  go_wp2
  go_ret
  exact ⟨rfl, (Turn.refl [] w).alloc _⟩

set_option maxRecDepth 100000 in
set_option maxHeartbeats 1000000 in
theorem valid_any (x : Lt) (now : Int) (w : World) :
    Calls Try.prog 28 #[lotV x, .int .i64 now] w fun e w' => e = .returned (.bool (vld x now)) ∧ Turn [] w w' := by
  by_cases h : x.fr ≤ now
  · go_enter Try.func28, Try.ntmps28
    go_wp2_with fail
    refine (over_any x now _).mono ?_
    rintro e w1 ⟨rfl, hT⟩
    have HT := hide (((Turn.refl [] w).alloc (.cells (lotC x).toArray 29)).trans hT)
    clear hT
    generalize hv : ovr x now = v at *
    go_wp2
    go_ret
    refine ⟨ret_bool ?_, HT.out⟩
    rw [← hv]
    unfold vld ovr
    rw [Bool.eq_iff_iff]
    simp
    omega
  · go_enter Try.func28, Try.ntmps28
    go_wp2
    go_ret
    refine ⟨ret_bool ?_, (Turn.refl [] w).alloc _⟩
    unfold vld
    simp
    omega

set_option maxRecDepth 100000 in
set_option maxHeartbeats 1000000 in
theorem rvalid_any (x : Lt) (now : Int) (w : World) :
    Calls Try.prog 25 #[lotV x, .int .i64 now] w fun e w' => e = .returned (.bool (vld x now)) ∧ Turn [] w w' := by
  go_enter Try.func25, Try.ntmps25
  go_wp2
  all_goals
    go_ret
    refine ⟨ret_bool ?_, (Turn.refl [] w).alloc _⟩
    unfold vld
    simp
    try omega

set_option maxRecDepth 100000 in
set_option maxHeartbeats 1000000 in
theorem fit_any (n : Int) (w : World) :
    Calls Try.prog 27 #[.int .i64 n] w fun e w' => e = .returned (.bool (fit n)) ∧ w' = w := by
  go_enter Try.func27, Try.ntmps27
  go_wp2
  all_goals
    go_ret
    refine ⟨ret_bool ?_, rfl⟩
    unfold fit
    simp
    try omega

end Go.Proofs.Ytegbinlpojpffaa
