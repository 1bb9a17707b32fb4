/-
  cmp.Compare, cmp.Or, the closure that holds two places against one another, walked.
-/
import Derived.Test.YtegbinlpojpffaaLFns
import Derived.Deep.RegionHeld
namespace Go.Proofs.Ytegbinlpojpffaa
open Go.RowKit Lo

/-- How two numbers compare. -/
def cmpI (a b : Int) : Int := if a < b then -1 else if b < a then 1 else 0
/-- The first that is not 0. -/
def orI (x y : Int) : Int := if x ≠ 0 then x else y
/-- How two lots compare. -/
def cmL (x y : Lt) : Int := orI (cmpI x.un y.un) (cmpI x.id y.id)
theorem cmL_neg (x y : Lt) : cmL x y < 0 ↔ lt2 x y := by
  unfold cmL orI cmpI lt2
  split <;> split <;> (try split) <;> (try split) <;> omega

set_option maxRecDepth 100000 in
set_option maxHeartbeats 1000000 in
theorem nan_any (a : Int) (w : World) : Calls Try.prog 42 #[.int .i64 a] w fun e w' => e = .returned (.bool false) ∧ w' = w := by
  go_enter Try.func42, Try.ntmps42
  go_wp2
  go_ret
  exact ⟨rfl, rfl⟩

set_option maxRecDepth 100000 in
set_option maxHeartbeats 1000000 in
theorem compare_any (a b : Int) (w : World) : Calls Try.prog 40 #[.int .i64 a, .int .i64 b] w fun e w' => e = .returned (.int .i64 (cmpI a b)) ∧ w' = w := by
  go_enter Try.func40, Try.ntmps40
  go_wp2_with (go_at_call 42; refine (nan_any _ _).mono ?_; rintro e w1 ⟨rfl, rfl⟩)
  all_goals
    go_ret
    refine ⟨ret_int ?_, rfl⟩
    unfold cmpI
    split <;> (try split) <;> omega

set_option maxRecDepth 100000 in
set_option maxHeartbeats 1000000 in
theorem or_any (x y : Int) (g : Nat) (w : World) (h0 : w.cell? ⟨g, 0, none⟩ = some (.int .i64 x)) (h1 : w.cell? ⟨g, 1, none⟩ = some (.int .i64 y)) :
    Calls Try.prog 39 #[.slice (some ⟨g, 0, none⟩) 2 2] w fun e w' => e = .returned (.int .i64 (orI x y)) ∧ w' = w := by
  have hb := lt_of_cell h0
  go_enter Try.func39, Try.ntmps39
  go_wp2
  go_loop [8] (fun i => ∃ k : Nat, k ≤ 2 ∧ i = .int .i64 k ∧ (1 ≤ k → x = 0) ∧ (2 ≤ k → y = 0)) (fun i => 2 - (intOf i).toNat)
  case atStart => exact ⟨0, by omega, rfl, by omega, by omega⟩
  case round =>
    obtain ⟨k, hk, rfl, hx, hy⟩ := hrel
    obtain rfl | rfl | rfl : k = 0 ∨ k = 1 ∨ k = 2 := by omega
    · by_cases hz : x = 0
      · subst hz
        go_wp2
        go_round
        case rel => exact ⟨1, by omega, by go_num, by simp, by omega⟩
        case measure => simp [intOf]
      · have hz' : (x != 0) = true := by simpa using hz
        have HZ := hide hz
        clear hz hx hy
        go_wp2
        go_ret
        exact ⟨ret_int (by unfold orI; rw [if_pos HZ.out]), rfl⟩
    · obtain rfl := hx (by omega)
      by_cases hz : y = 0
      · subst hz
        go_wp2
        go_round
        case rel => exact ⟨2, by omega, by go_num, by simp, by simp⟩
        case measure => simp [intOf]
      · have hz' : (y != 0) = true := by simpa using hz
        clear hz hx hy
        go_wp2
        go_ret
        exact ⟨ret_int (by simp [orI]), rfl⟩
    · obtain rfl := hx (by omega)
      obtain rfl := hy (by omega)
      go_wp2
      go_ret
      exact ⟨ret_int (by simp [orI]), rfl⟩

set_option maxRecDepth 100000 in
set_option maxHeartbeats 3000000 in
theorem before_any (i j g b off cap n : Nat) (x y : Lt) (w : World) (hc : w.cell? ⟨g, 0, none⟩ = some (.slice (some ⟨b, off, none⟩) n cap)) (hi : i < n) (hj : j < n) (_hn : n ≤ 1000)
    (hx0 : w.cell? ⟨b, off + i * 9, none⟩ = some (.int .i64 x.id)) (hx3 : w.cell? ⟨b, off + i * 9 + 3, none⟩ = some (.int .i64 x.un)) (hy0 : w.cell? ⟨b, off + j * 9, none⟩ = some (.int .i64 y.id)) (hy3 : w.cell? ⟨b, off + j * 9 + 3, none⟩ = some (.int .i64 y.un)) :
    Calls Try.prog 38 #[.int .i64 (i : Nat), .int .i64 (j : Nat), .pointer (some ⟨g, 0, none⟩)] w fun e w' => e = .returned (.int .i64 (cmL x y)) ∧ Turn [] w w' := by
  have hg := lt_of_cell hc
  have hb := lt_of_cell hx0
  have HA : Hid ((w.alloc (.cells #[.int .i64 (cmpI x.un y.un), .int .i64 (cmpI x.id y.id)] 3)).drew.cell? ⟨w.heap.size, 0, none⟩ = some (.int .i64 (cmpI x.un y.un))) := World.cell?_alloc_at _ _ _ _ rfl
  have HB : Hid ((w.alloc (.cells #[.int .i64 (cmpI x.un y.un), .int .i64 (cmpI x.id y.id)] 3)).drew.cell? ⟨w.heap.size, 1, none⟩ = some (.int .i64 (cmpI x.id y.id))) := World.cell?_alloc_at _ _ _ _ rfl
  go_enter Try.func38, Try.ntmps38
  go_wp2
  go_region_held (fun w' => w'.cell? ⟨g, 0, none⟩ = some (.slice (some ⟨b, off, none⟩) n cap) ∧ w'.cell? ⟨b, off + i * 9, none⟩ = some (.int .i64 x.id) ∧ w'.cell? ⟨b, off + i * 9 + 3, none⟩ = some (.int .i64 x.un) ∧ w'.cell? ⟨b, off + j * 9, none⟩ = some (.int .i64 y.id) ∧ w'.cell? ⟨b, off + j * 9 + 3, none⟩ = some (.int .i64 y.un)) (go_keep)
    (first | (go_at_call 40; refine (compare_any _ _ _).mono ?_; rintro e w1 ⟨rfl, rfl⟩) | (go_at_call 39; refine (or_any (cmpI x.un y.un) (cmpI x.id y.id) w.heap.size _ HA.out HB.out).mono ?_; rintro e w1 ⟨rfl, rfl⟩))
  all_goals
    go_wp2_with fail
    go_ret
    exact ⟨rfl, ((Turn.refl [] w).alloc _).drew⟩

end Go.Proofs.Ytegbinlpojpffaa
