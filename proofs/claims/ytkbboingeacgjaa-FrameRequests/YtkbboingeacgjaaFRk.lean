/-
  The reference's kinds; its carrier, by itself.
-/
import Derived.Test.YtkbboingeacgjaaFPrq
import Derived.Test.YtkbboingeacgjaaFAnsE
import Derived.Deep.Cut
namespace Go.Proofs.Ytkbboingeacgjaa
open Go.RowKit

/-- The reference's carrier. -/
def rfC : Cr := ⟨fun s _ => ((countS .pr s 0).1, ((countS .pr s 0).2 : Nat)), fun s _ => numS .pr s 0, fun s _ => textS .pr s ByteArray.empty, fun s _ _ => tiS .pr s ByteArray.empty (List.replicate 9 0), refuseS⟩

set_option maxRecDepth 100000 in
theorem rk1 (w : World) : Calls Try.prog 26 #[.int .i64 1] w fun e w' => e = .returned (.bool true) ∧ w' = w := by
  go_enter Try.func26, Try.ntmps26
  go_wp2_with fail
  go_ret
  exact ⟨rfl, rfl⟩

set_option maxRecDepth 100000 in
theorem rk4 (w : World) : Calls Try.prog 26 #[.int .i64 4] w fun e w' => e = .returned (.bool true) ∧ w' = w := by
  go_enter Try.func26, Try.ntmps26
  go_wp2_with fail
  go_ret
  exact ⟨rfl, rfl⟩

set_option maxRecDepth 100000 in
theorem rk2 (w : World) : Calls Try.prog 26 #[.int .i64 2] w fun e w' => e = .returned (.bool true) ∧ w' = w := by
  go_enter Try.func26, Try.ntmps26
  go_wp2_with fail
  go_ret
  exact ⟨rfl, rfl⟩

set_option maxRecDepth 100000 in
theorem rk3 (w : World) : Calls Try.prog 26 #[.int .i64 3] w fun e w' => e = .returned (.bool true) ∧ w' = w := by
  go_enter Try.func26, Try.ntmps26
  go_wp2_with fail
  go_ret
  exact ⟨rfl, rfl⟩

set_option maxRecDepth 100000 in
theorem rk5 (w : World) : Calls Try.prog 26 #[.int .i64 5] w fun e w' => e = .returned (.bool true) ∧ w' = w := by
  go_enter Try.func26, Try.ntmps26
  go_wp2_with fail
  go_ret
  exact ⟨rfl, rfl⟩

set_option maxRecDepth 100000 in
theorem rk16 (w : World) : Calls Try.prog 26 #[.int .i64 16] w fun e w' => e = .returned (.bool true) ∧ w' = w := by
  go_enter Try.func26, Try.ntmps26
  go_wp2_with fail
  go_ret
  exact ⟨rfl, rfl⟩

set_option maxRecDepth 100000 in
theorem rk17 (w : World) : Calls Try.prog 26 #[.int .i64 17] w fun e w' => e = .returned (.bool true) ∧ w' = w := by
  go_enter Try.func26, Try.ntmps26
  go_wp2_with fail
  go_ret
  exact ⟨rfl, rfl⟩

set_option maxRecDepth 100000 in
theorem rk18 (w : World) : Calls Try.prog 26 #[.int .i64 18] w fun e w' => e = .returned (.bool true) ∧ w' = w := by
  go_enter Try.func26, Try.ntmps26
  go_wp2_with fail
  go_ret
  exact ⟨rfl, rfl⟩

set_option maxRecDepth 100000 in
theorem rk19 (w : World) : Calls Try.prog 26 #[.int .i64 19] w fun e w' => e = .returned (.bool true) ∧ w' = w := by
  go_enter Try.func26, Try.ntmps26
  go_wp2_with fail
  go_ret
  exact ⟨rfl, rfl⟩

set_option maxRecDepth 100000 in
theorem rk20 (w : World) : Calls Try.prog 26 #[.int .i64 20] w fun e w' => e = .returned (.bool true) ∧ w' = w := by
  go_enter Try.func26, Try.ntmps26
  go_wp2_with fail
  go_ret
  exact ⟨rfl, rfl⟩

set_option maxRecDepth 100000 in
theorem rkno (k : Int) (hk : ¬ isK k) (w : World) : Calls Try.prog 26 #[.int .i64 k] w fun e w' => e = .returned (.bool false) ∧ w' = w := by
  have h : k < 1 ∨ (5 < k ∧ k < 16) ∨ 20 < k := by unfold isK at hk; omega
  rcases h with h | ⟨h1, h2⟩ | h
  · have d1 : decide (1 ≤ k) = false := by simp; omega
    have d2 : decide (16 ≤ k) = false := by simp; omega
    go_enter Try.func26, Try.ntmps26
    go_wp2_with fail
    go_ret
    exact ⟨rfl, rfl⟩
  · have d1 : decide (1 ≤ k) = true := by simp; omega
    have d3 : decide (k ≤ 5) = false := by simp; omega
    have d2 : decide (16 ≤ k) = false := by simp; omega
    go_enter Try.func26, Try.ntmps26
    go_wp2_with fail
    go_ret
    exact ⟨rfl, rfl⟩
  · have d1 : decide (1 ≤ k) = true := by simp; omega
    have d3 : decide (k ≤ 5) = false := by simp; omega
    have d2 : decide (16 ≤ k) = true := by simp; omega
    have d4 : decide (k ≤ 20) = false := by simp; omega
    go_enter Try.func26, Try.ntmps26
    go_wp2_with fail
    go_ret
    exact ⟨rfl, rfl⟩

end Go.Proofs.Ytkbboingeacgjaa
