/-
  Holds held against one another, walked.
-/
import Derived.Test.YtghgkjollafeiaaEQ
namespace Go.Proofs.Ytghgkjollafeiaa
open Go.RowKit

theorem Turn.drewM {u w : World} (h : Turn [] u w) (n : Nat) : Turn [] u (w.drewN n) := ⟨h.os, h.tape, h.output, h.size, h.block⟩
/-- Are two holds the same, their parts being held against one another apart? -/
def holdB2 (i1 o1 u1 i2 o2 u2 : Int) (r : Bool) : Bool := decide (i1 = i2) && (decide (o1 = o2) && (decide (u1 = u2) && r))

set_option maxRecDepth 100000 in
set_option maxHeartbeats 1600000 in
theorem sameHold_any (w : World) (i1 o1 u1 i2 o2 u2 : Int) (a b : Option Addr) (m1 c1 m2 c2 : Nat) (r : Bool)
    (hC : ∀ w', Turn [] w w' → Calls Try.prog 61 #[.slice a m1 c1, .slice b m2 c2] w' fun e w'' => e = .returned (.bool r) ∧ ∃ m, w'' = w'.drewN m) :
    Calls Try.prog 39 #[.agg #[.int .i64 i1, .slice a m1 c1, .int .i64 o1, .int .i64 u1], .agg #[.int .i64 i2, .slice b m2 c2, .int .i64 o2, .int .i64 u2]] w fun e w' => e = .returned (.bool (holdB2 i1 o1 u1 i2 o2 u2 r)) ∧ Turn [] w w' := by
  have hT : Turn [] w ((w.alloc (.cells #[.int .i64 i1, .slice a m1 c1, .int .i64 o1, .int .i64 u1] 65)).alloc (.cells #[.int .i64 i2, .slice b m2 c2, .int .i64 o2, .int .i64 u2] 65)) := ((Turn.refl [] w).alloc _).alloc _
  have HC := hide (hC _ hT)
  have HT := hide hT
  clear hC hT
  by_cases h1 : i1 = i2
  · by_cases h2 : o1 = o2
    · by_cases h3 : u1 = u2
      · have hb : holdB2 i1 o1 u1 i2 o2 u2 r = r := by unfold holdB2; simp [h1, h2, h3]
        rw [hb]
        clear hb
        subst h1
        subst h2
        subst h3
        go_enter Try.func39, Try.ntmps39
        go_wp2_with fail
        refine HC.out.mono ?_
        rintro e w1 ⟨rfl, m, hw⟩
        have HT2 : Hid (Turn [] w w1) := by rw [hw]; exact HT.out.drewM m
        clear hw
        go_wp2_with fail
        go_ret
        exact ⟨rfl, HT2.out⟩
      · have hb : holdB2 i1 o1 u1 i2 o2 u2 r = false := by unfold holdB2; simp [h3]
        rw [hb]
        clear hb
        subst h1
        subst h2
        go_enter Try.func39, Try.ntmps39
        go_wp2_with fail
        go_ret
        exact ⟨rfl, HT.out⟩
    · have hb : holdB2 i1 o1 u1 i2 o2 u2 r = false := by unfold holdB2; simp [h2]
      rw [hb]
      clear hb
      subst h1
      go_enter Try.func39, Try.ntmps39
      go_wp2_with fail
      go_ret
      exact ⟨rfl, HT.out⟩
  · have hb : holdB2 i1 o1 u1 i2 o2 u2 r = false := by unfold holdB2; simp [h1]
    rw [hb]
    clear hb
    go_enter Try.func39, Try.ntmps39
    go_wp2_with fail
    go_ret
    exact ⟨rfl, HT.out⟩
end Go.Proofs.Ytghgkjollafeiaa

/-
  Rows of holds held against one another by the program, walked.
-/
namespace Go.Proofs.Ytghgkjollafeiaa
open Go.RowKit

/-- A hold's cells. -/
def HoldC (A : List Value) : Prop := ∃ (i : Int) (s : Option Addr) (m c : Nat) (o u : Int), A = [.int .i64 i, .slice s m c, .int .i64 o, .int .i64 u]

set_option maxRecDepth 100000 in
set_option maxHeartbeats 4000000 in
theorem equalFunc_any (a b : Option Addr) (ca cb n1 n2 : Nat) (A B : Nat → List Value) (q : Nat → Bool) (w : World) (hlen : n1 ≤ 100000) (hA : RowsN w a n1 4 A) (hB : RowsN w b n2 4 B) (sA : ∀ i, i < n1 → HoldC (A i)) (sB : ∀ i, i < n2 → HoldC (B i))
    (hE : n1 = n2 → ∀ i, i < n1 → ∀ w', Turn [] w w' → Calls Try.prog 39 #[.agg (A i).toArray, .agg (B i).toArray] w' fun e w'' => e = .returned (.bool (q i)) ∧ Turn [] w' w'') :
    Calls Try.prog 38 #[.slice a n1 ca, .slice b n2 cb, .func (.func 39) #[] #[]] w fun e w' => e = .returned (.bool (rowsB n1 n2 q)) ∧ Turn [] w w' := by
  by_cases hn : n1 = n2
  · subst hn
    have HA := hide hA
    have HB := hide hB
    have HE := hide (hE rfl)
    have HSa := hide sA
    have HSb := hide sB
    clear hA hB hE sA sB
    have HR : Hid (rowsB n1 n1 q = (List.range n1).all q) := by show _ = _; unfold rowsB; simp
    rw [HR.out]
    clear HR
    go_enter Try.func38, Try.ntmps38
    go_wp2_with fail
    go_loopw [7, 8, 9, 17] (fun _ _ _ i wr => ∃ (k : Nat), k ≤ n1 ∧ i = .int .i64 k ∧ Hid (Turn [] w wr) ∧ Hid ((List.range k).all q = true)) (fun _ _ _ i _ => n1 - (intOf i).toNat)
    case atStart => exact ⟨0, Nat.zero_le _, rfl, Turn.refl _ _, rfl⟩
    case round =>
      obtain ⟨k, hk, rfl, HW, HQ⟩ := hrel
      by_cases hlt : k < n1
      · obtain ⟨b1, o1, rfl, hx⟩ := HA.out (by omega)
        obtain ⟨b2, o2, rfl, hy⟩ := HB.out (by omega)
        have hx := (hx k hlt).1
        have hy := (hy k hlt).1
        obtain ⟨x1, xs, xm, xc, x2, x3, hp⟩ := HSa.out k hlt
        obtain ⟨y1, ys, ym, yc, y2, y3, hr⟩ := HSb.out k hlt
        have hC := HE.out k hlt
        rw [hp] at hx hC
        rw [hr] at hy hC
        have hb1 : b1 < w.heap.size := lt_of_cell (hx 0 _ rfl)
        have hb2 : b2 < w.heap.size := lt_of_cell (hy 0 _ rfl)
        have hc1 : ∀ o, wr.cell? ⟨b1, o, none⟩ = w.cell? ⟨b1, o, none⟩ := fun o => World.cell?_of_block (a := ⟨b1, o, none⟩) (HW.out.block b1 hb1 (by simp))
        have hc2 : ∀ o, wr.cell? ⟨b2, o, none⟩ = w.cell? ⟨b2, o, none⟩ := fun o => World.cell?_of_block (a := ⟨b2, o, none⟩) (HW.out.block b2 hb2 (by simp))
        have c0 := (hc1 (o1 + k * 4)).trans (hx 0 _ rfl)
        have c1 := (hc1 (o1 + k * 4 + 1)).trans (hx 1 _ rfl)
        have c2 := (hc1 (o1 + k * 4 + 2)).trans (hx 2 _ rfl)
        have c3 := (hc1 (o1 + k * 4 + 3)).trans (hx 3 _ rfl)
        have d0 := (hc2 (o2 + k * 4)).trans (hy 0 _ rfl)
        have d1 := (hc2 (o2 + k * 4 + 1)).trans (hy 1 _ rfl)
        have d2 := (hc2 (o2 + k * 4 + 2)).trans (hy 2 _ rfl)
        have d3 := (hc2 (o2 + k * 4 + 3)).trans (hy 3 _ rfl)
        have hlb1 : b1 < wr.heap.size := Nat.lt_of_lt_of_le hb1 HW.out.size
        have hlb2 : b2 < wr.heap.size := Nat.lt_of_lt_of_le hb2 HW.out.size
        have HT2 : Hid (Turn [] w ((wr.alloc (.cells #[.int .i64 x1, .slice xs xm xc, .int .i64 x2, .int .i64 x3] 65)).alloc (.cells #[.int .i64 y1, .slice ys ym yc, .int .i64 y2, .int .i64 y3] 65))) := (HW.out.alloc _).alloc _
        have HC := hide (hC _ HT2.out)
        clear hx hy hp hr hc1 hc2 hC
        go_wp2_with fail
        refine HC.out.mono ?_
        rintro e w3 ⟨rfl, hT3⟩
        have HT3 := hide (HT2.out.trans hT3)
        clear hT3 c0 c1 c2 c3 d0 d1 d2 d3
        by_cases hq : q k = true
        · rw [hq]
          have HQn : Hid ((List.range (k + 1)).all q = true) := by
            show _ = _
            rw [List.range_succ, List.all_append, HQ.out]
            simp [hq]
          clear hq
          go_wp2_with fail
          go_roundw
          case rel => exact ⟨k + 1, by omega, by go_num, HT3.out, HQn⟩
          case measure => simp [intOf]; omega
        · have hq : q k = false := by simpa using hq
          rw [hq]
          have HQn : Hid ((List.range n1).all q = false) := by
            show _ = _
            rw [List.all_eq_false]
            exact ⟨k, List.mem_range.2 hlt, by simp [hq]⟩
          clear hq
          go_wp2_with fail
          go_ret
          exact ⟨by rw [HQn.out]; rfl, HT3.out⟩
      · obtain rfl : k = n1 := by omega
        go_wp2_with fail
        go_ret
        exact ⟨by rw [HQ.out]; rfl, HW.out⟩
  · have hr : rowsB n1 n2 q = false := by unfold rowsB; simp [hn]
    rw [hr]
    have hne : ¬ ((n1 : Int) = (n2 : Int)) := by omega
    clear hA hB hE hr sA sB
    go_enter Try.func38, Try.ntmps38
    go_wp2_with fail
    go_ret
    exact ⟨rfl, Turn.refl _ _⟩
end Go.Proofs.Ytghgkjollafeiaa
