/-
  Which fields a kind has, walked.
-/
import Derived.Test.YtmmbckchaklhaaaFCar
namespace Go.Proofs.Ytmmbckchaklhaaa
open Go.RowKit

set_option maxRecDepth 100000 in
theorem fof1 (w : World) : Calls Try.prog 41 #[.int .i64 1] w fun e w' => e = .returned (.tuple #[.int .u64 208, .bool true]) ∧ w' = w := by
  go_enter Try.func41, Try.ntmps41
  go_wp2_with fail
  go_ret2
  exact ⟨rfl, rfl⟩

set_option maxRecDepth 100000 in
theorem fof4 (w : World) : Calls Try.prog 41 #[.int .i64 4] w fun e w' => e = .returned (.tuple #[.int .u64 208, .bool true]) ∧ w' = w := by
  go_enter Try.func41, Try.ntmps41
  go_wp2_with fail
  go_ret2
  exact ⟨rfl, rfl⟩

set_option maxRecDepth 100000 in
theorem fof2 (w : World) : Calls Try.prog 41 #[.int .i64 2] w fun e w' => e = .returned (.tuple #[.int .u64 112, .bool true]) ∧ w' = w := by
  go_enter Try.func41, Try.ntmps41
  go_wp2_with fail
  go_ret2
  exact ⟨rfl, rfl⟩

set_option maxRecDepth 100000 in
theorem fof3 (w : World) : Calls Try.prog 41 #[.int .i64 3] w fun e w' => e = .returned (.tuple #[.int .u64 48, .bool true]) ∧ w' = w := by
  go_enter Try.func41, Try.ntmps41
  go_wp2_with fail
  go_ret2
  exact ⟨rfl, rfl⟩

set_option maxRecDepth 100000 in
theorem fof5 (w : World) : Calls Try.prog 41 #[.int .i64 5] w fun e w' => e = .returned (.tuple #[.int .u64 0, .bool true]) ∧ w' = w := by
  go_enter Try.func41, Try.ntmps41
  go_wp2_with fail
  go_ret2
  exact ⟨rfl, rfl⟩

set_option maxRecDepth 100000 in
theorem fof16 (w : World) : Calls Try.prog 41 #[.int .i64 16] w fun e w' => e = .returned (.tuple #[.int .u64 8, .bool true]) ∧ w' = w := by
  go_enter Try.func41, Try.ntmps41
  go_wp2_with fail
  go_ret2
  exact ⟨rfl, rfl⟩

set_option maxRecDepth 100000 in
theorem fof17 (w : World) : Calls Try.prog 41 #[.int .i64 17] w fun e w' => e = .returned (.tuple #[.int .u64 7, .bool true]) ∧ w' = w := by
  go_enter Try.func41, Try.ntmps41
  go_wp2_with fail
  go_ret2
  exact ⟨rfl, rfl⟩

set_option maxRecDepth 100000 in
theorem fof18 (w : World) : Calls Try.prog 41 #[.int .i64 18] w fun e w' => e = .returned (.tuple #[.int .u64 5, .bool true]) ∧ w' = w := by
  go_enter Try.func41, Try.ntmps41
  go_wp2_with fail
  go_ret2
  exact ⟨rfl, rfl⟩

set_option maxRecDepth 100000 in
theorem fof19 (w : World) : Calls Try.prog 41 #[.int .i64 19] w fun e w' => e = .returned (.tuple #[.int .u64 64, .bool true]) ∧ w' = w := by
  go_enter Try.func41, Try.ntmps41
  go_wp2_with fail
  go_ret2
  exact ⟨rfl, rfl⟩

set_option maxRecDepth 100000 in
theorem fof20 (w : World) : Calls Try.prog 41 #[.int .i64 20] w fun e w' => e = .returned (.tuple #[.int .u64 65, .bool true]) ∧ w' = w := by
  go_enter Try.func41, Try.ntmps41
  go_wp2_with fail
  go_ret2
  exact ⟨rfl, rfl⟩

set_option maxRecDepth 100000 in
theorem fofno (k : Int) (hk : ¬ isK k) (w : World) : Calls Try.prog 41 #[.int .i64 k] w fun e w' => e = .returned (.tuple #[.int .u64 0, .bool false]) ∧ w' = w := by
  unfold isK at hk
  simp only [not_or] at hk
  obtain ⟨a1, a2, a3, a4, a5, a6, a7, a8, a9, a10⟩ := hk
  go_enter Try.func41, Try.ntmps41
  go_wp2_with fail
  go_ret2
  exact ⟨rfl, rfl⟩

end Go.Proofs.Ytmmbckchaklhaaa
