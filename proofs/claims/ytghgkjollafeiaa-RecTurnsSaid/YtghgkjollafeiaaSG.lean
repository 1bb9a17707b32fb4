/-
  Rows of holds held against one another by the reference, walked.
-/
import Derived.Test.YtghgkjollafeiaaSH
namespace Go.Proofs.Ytghgkjollafeiaa
open Go.RowKit

set_option maxRecDepth 100000 in
set_option maxHeartbeats 4000000 in
theorem sameHolds_any (a b : Option Addr) (ca cb n1 n2 : Nat) (A B : Nat → List Value) (q : Nat → Bool) (w : World) (hlen : n1 ≤ 100000) (hA : RowsN w a n1 4 A) (hB : RowsN w b n2 4 B)
    (hE : n1 = n2 → ∀ i, i < n1 → ∃ (x1 : Int) (xs : Option Addr) (xm xc : Nat) (x2 x3 y1 : Int) (ys : Option Addr) (ym yc : Nat) (y2 y3 : Int) (r : Bool), A i = [.int .i64 x1, .slice xs xm xc, .int .i64 x2, .int .i64 x3] ∧ B i = [.int .i64 y1, .slice ys ym yc, .int .i64 y2, .int .i64 y3] ∧ q i = holdB2 x1 x2 x3 y1 y2 y3 r ∧ ∀ m, Calls Try.prog 60 #[.slice xs xm xc, .slice ys ym yc] (w.drewN m) fun e w'' => e = .returned (.bool r) ∧ ∃ m', w'' = (w.drewN m).drewN m') :
    Calls Try.prog 35 #[.slice a n1 ca, .slice b n2 cb] w fun e w' => e = .returned (.bool (rowsB n1 n2 q)) ∧ ∃ m, w' = w.drewN m := by
  by_cases hn : n1 = n2
  · subst hn
    have HA := hide hA
    have HB := hide hB
    have HE := hide (hE rfl)
    clear hA hB hE
    have HR : Hid (rowsB n1 n1 q = (List.range n1).all q) := by show _ = _; unfold rowsB; simp
    rw [HR.out]
    clear HR
    go_enter Try.func35, Try.ntmps35
    go_wp2_with fail
    go_loopw [5] (fun i wr => ∃ (k m : Nat), k ≤ n1 ∧ i = .int .i64 k ∧ Hid (wr = w.drewN m) ∧ Hid ((List.range k).all q = true)) (fun i _ => n1 - (intOf i).toNat)
    case atStart => exact ⟨0, 0, Nat.zero_le _, rfl, rfl, rfl⟩
    case round =>
      obtain ⟨k, m, hk, rfl, HW, HQ⟩ := hrel
      by_cases hlt : k < n1
      · obtain ⟨b1, o1, rfl, hx⟩ := HA.out (by omega)
        obtain ⟨b2, o2, rfl, hy⟩ := HB.out (by omega)
        have hx := (hx k hlt).1
        have hy := (hy k hlt).1
        obtain ⟨x1, xs, xm, xc, x2, x3, y1, ys, ym, yc, y2, y3, r, hp, hr, hqk, hC⟩ := HE.out k hlt
        rw [hp] at hx
        rw [hr] at hy
        have hc : ∀ u, wr.cell? u = w.cell? u := fun u => by rw [HW.out]; rfl
        have c0 := (hc ⟨b1, o1 + k * 4, none⟩).trans (hx 0 _ rfl)
        have c1 := (hc ⟨b1, o1 + k * 4 + 1, none⟩).trans (hx 1 _ rfl)
        have c2 := (hc ⟨b1, o1 + k * 4 + 2, none⟩).trans (hx 2 _ rfl)
        have c3 := (hc ⟨b1, o1 + k * 4 + 3, none⟩).trans (hx 3 _ rfl)
        have d0 := (hc ⟨b2, o2 + k * 4, none⟩).trans (hy 0 _ rfl)
        have d1 := (hc ⟨b2, o2 + k * 4 + 1, none⟩).trans (hy 1 _ rfl)
        have d2 := (hc ⟨b2, o2 + k * 4 + 2, none⟩).trans (hy 2 _ rfl)
        have d3 := (hc ⟨b2, o2 + k * 4 + 3, none⟩).trans (hy 3 _ rfl)
        have HC : Hid (∀ m', Calls Try.prog 60 #[.slice xs xm xc, .slice ys ym yc] (wr.drewN m') fun e w'' => e = .returned (.bool r) ∧ ∃ m2, w'' = (wr.drewN m').drewN m2) := fun m' => by
          have := hC (m + m')
          rw [HW.out, World.drewN_drewN]
          exact this
        have hT : q k = true → (List.range (k + 1)).all q = true := fun hq => by
          rw [List.range_succ, List.all_append, HQ.out]
          simp [hq]
        have hF : q k = false → (List.range n1).all q = false := fun hq => by
          rw [List.all_eq_false]
          exact ⟨k, List.mem_range.2 hlt, by simp [hq]⟩
        clear hx hy hp hr hc hC
        by_cases h1 : x1 = y1
        · subst h1
          by_cases h2 : x2 = y2
          · subst h2
            by_cases h3 : x3 = y3
            · subst h3
              have he : q k = r := by rw [hqk]; unfold holdB2; simp
              rw [he] at hT hF
              clear hqk he
              rcases r with _ | _
              · have HQn := hide (hF rfl)
                clear hT hF
                go_wp2_with fail
                go_quiet (first | (go_at_call 60; refine Calls.quiet_of (HC.out _)))
                clear c0 c1 c2 c3 d0 d1 d2 d3
                go_wp2_with fail
                go_ret
                exact ⟨by rw [HQn.out]; rfl, m + _, by rw [HW.out, World.drewN_drewN]⟩
              · have HQn := hide (hT rfl)
                clear hT hF
                go_wp2_with fail
                go_quiet (first | (go_at_call 60; refine Calls.quiet_of (HC.out _)))
                clear c0 c1 c2 c3 d0 d1 d2 d3
                go_wp2_with fail
                go_roundw
                case rel => exact ⟨k + 1, m + _, by omega, by go_num, by unfold Hid; rw [HW.out, World.drewN_drewN], HQn⟩
                case measure => simp [intOf]; omega
            · skip
              have HQn := hide (hF (by rw [hqk]; unfold holdB2; simp [h3]))
              have hne : (x3 != y3) = true := by simpa using h3
              clear hT hF hqk h3
              go_wp2_with fail
              go_quiet (fail)
              clear c0 c1 c2 c3 d0 d1 d2 d3
              go_wp2_with fail
              go_ret
              exact ⟨by rw [HQn.out]; rfl, m + _, by rw [HW.out, World.drewN_drewN]⟩
          · skip
            have HQn := hide (hF (by rw [hqk]; unfold holdB2; simp [h2]))
            have hne : (x2 != y2) = true := by simpa using h2
            clear hT hF hqk h2
            go_wp2_with fail
            go_quiet (fail)
            clear c0 c1 c2 c3 d0 d1 d2 d3
            go_wp2_with fail
            go_ret
            exact ⟨by rw [HQn.out]; rfl, m + _, by rw [HW.out, World.drewN_drewN]⟩
        · skip
          have HQn := hide (hF (by rw [hqk]; unfold holdB2; simp [h1]))
          have hne : (x1 != y1) = true := by simpa using h1
          clear hT hF hqk h1
          go_wp2_with fail
          go_quiet (fail)
          clear c0 c1 c2 c3 d0 d1 d2 d3
          go_wp2_with fail
          go_ret
          exact ⟨by rw [HQn.out]; rfl, m + _, by rw [HW.out, World.drewN_drewN]⟩
      · obtain rfl : k = n1 := by omega
        go_wp2_with fail
        go_ret
        exact ⟨by rw [HQ.out]; rfl, m, HW.out⟩
  · have hr : rowsB n1 n2 q = false := by unfold rowsB; simp [hn]
    rw [hr]
    have hne : ¬ ((n1 : Int) = (n2 : Int)) := by omega
    clear hA hB hE hr
    go_enter Try.func35, Try.ntmps35
    go_wp2_with fail
    go_ret
    exact ⟨rfl, 0, rfl⟩
end Go.Proofs.Ytghgkjollafeiaa
