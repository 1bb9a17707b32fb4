/-
  yearOf with sort.Search and its closure, walked.
-/
import Derived.Test.YtllbcbodfahidaaDoorFns
namespace Go.Proofs.YtllbcbodfahidaaDoor
open Go.RowKit Cal

theorem Turn.drewN {S : List Nat} {u w : World} (h : Turn S u w) (n : Nat) : Turn S u (w.drewN n) := ⟨h.os, h.tape, h.output, h.size, h.block⟩

set_option maxRecDepth 100000 in
set_option maxHeartbeats 1000000 in
theorem clo_any (k n : Int) (g : Nat) (w : World) (hc : w.cell? ⟨g, 0, none⟩ = some (.int .i64 n)) (h0 : 0 ≤ k) (h1 : k ≤ 9998) :
    Calls Tryd.prog 36 #[.int .i64 k, .pointer (some ⟨g, 0, none⟩)] w fun e w' => e = .returned (.bool (decide (n < dby (k + 1) - 719162))) ∧ Turn [] w w' := by
  have hw : IntKind.i64.wrap (k + 1) = k + 1 := by rw [IntKind.wrap_i64]; omega
  go_enter Tryd.func36, Tryd.ntmps36
  go_wp2
  go_quiet ((go_at_call 32; exact Calls.quiet_of_same (newYear_any _ _ (by omega) (by omega))))
  go_wp2
  go_ret
  exact ⟨rfl, (Turn.refl _ _).drewN _⟩

set_option maxRecDepth 100000 in
set_option maxHeartbeats 1000000 in
theorem search_any (n : Int) (g : Nat) (w : World) (hc : w.cell? ⟨g, 0, none⟩ = some (.int .i64 n)) (h1 : -719162 ≤ n) (h2 : n ≤ 2932896) :
    Calls Tryd.prog 35 #[.int .i64 9999, .func (.func 36) #[] #[.pointer (some ⟨g, 0, none⟩)]] w fun e w' => ∃ y : Int, e = .returned (.int .i64 y) ∧ 1 ≤ y ∧ y ≤ 9999 ∧ dby y - 719162 ≤ n ∧ n < dby (y + 1) - 719162 ∧ Turn [] w w' := by
  have HC := hide hc
  have hlt := lt_of_cell hc
  have e1 : dby 1 = 0 := by decide
  have e2 : dby 10000 = 3652059 := by decide
  have e3 : dby 0 = -366 := by decide
  have HE := hide (And.intro e1 (And.intro e2 e3))
  clear hc e1 e2 e3
  go_enter Tryd.func35, Tryd.ntmps35
  go_wp2
  go_loopw [5, 6, 7] (fun i j _ wr => ∃ a b : Int, i = .int .i64 a ∧ j = .int .i64 b ∧ 0 ≤ a ∧ a ≤ b ∧ b ≤ 9999 ∧ dby a - 719162 ≤ n ∧ n < dby (b + 1) - 719162 ∧ Turn [] w wr) (fun i j _ _ => (intOf j - intOf i).toNat)
  case atStart =>
    obtain ⟨e1, e2, e3⟩ := HE.out
    exact ⟨0, 9999, rfl, rfl, by omega, by omega, by omega, by omega, by show n < dby 10000 - 719162; omega, Turn.refl _ _⟩
  case round =>
    obtain ⟨a, b, rfl, rfl, ha, hab, hb, hlo, hhi, hT⟩ := hrel
    have hc : wr.cell? ⟨g, 0, none⟩ = some (.int .i64 n) := (hT.cell (p := ⟨g, 0, none⟩) hlt (by simp)).trans HC.out
    have HT := hide hT
    have HCC := hide hc
    clear hT hc
    by_cases hl : a < b
    · have hm : a ≤ (a + b) / 2 ∧ (a + b) / 2 < b := by omega
      by_cases hd : n < dby ((a + b) / 2 + 1) - 719162
      · have hd' : decide (n < dby ((a + b) / 2 + 1) - 719162) = true := by simpa using hd
        go_wp2_with (go_at_call 36; refine (clo_any _ n g _ HCC.out (by omega) (by omega)).mono ?_; rintro e w' ⟨rfl, hT2⟩)
        trace_state
        go_roundw
        case rel => exact ⟨a, (a + b) / 2, rfl, rfl, ha, by omega, by omega, hlo, hd, HT.out.trans hT2⟩
        case measure => simp [intOf]; omega
      · have hd' : decide (n < dby ((a + b) / 2 + 1) - 719162) = false := by simpa using hd
        go_wp2_with (go_at_call 36; refine (clo_any _ n g _ HCC.out (by omega) (by omega)).mono ?_; rintro e w' ⟨rfl, hT2⟩)
        go_roundw
        case rel => exact ⟨(a + b) / 2 + 1, b, rfl, rfl, by omega, by omega, by omega, by omega, hhi, HT.out.trans hT2⟩
        case measure => simp [intOf]; omega
    · obtain rfl : a = b := by omega
      go_wp2
      go_ret
      refine ⟨a, rfl, ?_, hb, hlo, hhi, HT.out⟩
      obtain ⟨e1, e2, e3⟩ := HE.out
      rcases Int.lt_or_le a 1 with h | h
      · obtain rfl : a = 0 := by omega
        have : n < dby 1 - 719162 := hhi
        omega
      · exact h

set_option maxRecDepth 100000 in
set_option maxHeartbeats 1000000 in
theorem yearOf_any (n : Int) (w : World) (h1 : -719162 ≤ n) (h2 : n ≤ 2932896) :
    Calls Tryd.prog 33 #[.int .i64 n] w fun e w' => ∃ y : Int, e = .returned (.int .i64 y) ∧ 1 ≤ y ∧ y ≤ 9999 ∧ dby y - 719162 ≤ n ∧ n < dby (y + 1) - 719162 ∧ Turn [] w w' := by
  go_enter Tryd.func33, Tryd.ntmps33
  go_wp2_with fail
  refine (search_any n w.heap.size _ ?_ h1 h2).mono ?_
  · rw [World.cell?_alloc_at _ _ _ _ rfl]; rfl
  rintro e w' ⟨y, rfl, a, b, c, d, hT⟩
  go_wp2
  go_ret
  exact ⟨y, rfl, a, b, c, d, ((Turn.refl [] w).alloc _).trans hT⟩

end Go.Proofs.YtllbcbodfahidaaDoor
