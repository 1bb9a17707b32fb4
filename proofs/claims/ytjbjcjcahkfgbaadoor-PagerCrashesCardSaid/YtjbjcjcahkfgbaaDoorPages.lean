/-
  Rows of pages (tolllaw3's Page: a number and a string) in memory; tolllaw3.at.
-/
import Derived.Test.YtjbjcjcahkfgbaaDoorPknown
namespace Go.Proofs.YtjbjcjcahkfgbaaDoor
open Go.RowKit

/-- The pages that a slice leads to: number and bytes of each. -/
def PagesAt (w : World) (a : Option Addr) (l : List (Nat × List Nat)) : Prop :=
  l = [] ∨ ∃ g, a = some ⟨g, 0, none⟩ ∧ ∀ i (h : i < l.length), w.cell? ⟨g, i * 2, none⟩ = some (.int .i64 (l[i].1 : Nat)) ∧ w.cell? ⟨g, i * 2 + 1, none⟩ = some (.string (textOf l[i].2))

theorem PagesAt.at {w : World} {a : Option Addr} {l : List (Nat × List Nat)} (h : PagesAt w a l) {i : Nat} (hi : i < l.length) :
    ∃ g, a = some ⟨g, 0, none⟩ ∧ w.cell? ⟨g, i * 2, none⟩ = some (.int .i64 (l[i].1 : Nat)) ∧ w.cell? ⟨g, i * 2 + 1, none⟩ = some (.string (textOf l[i].2)) := by
  rcases h with rfl | ⟨g, hg, hc⟩
  · simp at hi
  · exact ⟨g, hg, hc i hi⟩

theorem PagesAt.lt {w : World} {a : Option Addr} {l : List (Nat × List Nat)} (h : PagesAt w a l) (x : Addr) (hl : l ≠ []) (hx : a = some x) : x.block < w.heap.size := by
  obtain ⟨g, hg, hc, _⟩ := h.at (i := 0) (List.length_pos_iff.2 hl)
  obtain rfl : x = ⟨g, 0, none⟩ := Option.some.inj (hx.symm.trans hg)
  exact lt_of_cell hc

theorem PagesAt.turn {S : List Nat} {w w' : World} {a : Option Addr} {l : List (Nat × List Nat)} (h : PagesAt w a l) (hT : Turn S w w') (hn : ∀ x, l ≠ [] → a = some x → x.block ∉ S) : PagesAt w' a l := by
  rcases h with rfl | ⟨g, hg, hc⟩
  · exact .inl rfl
  · refine .inr ⟨g, hg, fun i hi => ?_⟩
    have hl : l ≠ [] := fun e => by rw [e] at hi; simp at hi
    have hb := hn _ hl hg
    have h0 := hc i hi
    exact ⟨(hT.cell (p := ⟨g, i * 2, none⟩) (lt_of_cell h0.1) hb).trans h0.1, (hT.cell (p := ⟨g, i * 2 + 1, none⟩) (lt_of_cell h0.2) hb).trans h0.2⟩

/-- The place of a page, as 'at' says it. -/
def IsPlace (l : List (Nat × List Nat)) (n : Int) (v : Int) : Prop :=
  (∃ (j : Nat) (h : j < l.length), v = (j : Int) ∧ ((l[j].1 : Nat) : Int) = n) ∨ v = -1 ∧ ∀ i (h : i < l.length), ((l[i].1 : Nat) : Int) ≠ n

set_option maxRecDepth 100000 in
set_option maxHeartbeats 3200000 in
theorem at_any (a : Option Addr) (cap : Nat) (l : List (Nat × List Nat)) (n : Int) (hlen : l.length ≤ 1000000) (w : World) (hP : PagesAt w a l) :
    Calls Tryd.prog 16 #[.slice a l.length cap, .int .i64 n] w fun e w' => ∃ v, e = .returned (.int .i64 v) ∧ IsPlace l n v ∧ w' = w := by
  have HP := hide hP
  clear hP
  go_enter Tryd.func16, Tryd.ntmps16
  go_wp2_with fail
  go_loop [5] (fun i => ∃ j : Nat, j ≤ l.length ∧ i = .int .i64 j ∧ Hid (∀ i (h : i < l.length), i < j → ((l[i].1 : Nat) : Int) ≠ n)) (fun i => l.length - (intOf i).toNat)
  case atStart => exact ⟨0, Nat.zero_le _, rfl, fun i _ h => absurd h (Nat.not_lt_zero _)⟩
  case round =>
    obtain ⟨j, hj, rfl, HN⟩ := hrel
    by_cases hjl : j < l.length
    · obtain ⟨g, rfl, hc, _⟩ := HP.out.at hjl
      have HJ : Hid (((l[j].1 : Nat) : Int) = n ∨ ((l[j].1 : Nat) : Int) ≠ n) := Decidable.em _
      have HE : Hid (∀ m : Int, ((l[j].1 : Nat) : Int) = m → l[j].1 = l[j].1) := fun _ _ => rfl
      by_cases hx : ((l[j].1 : Nat) : Int) = n
      · have HX := hide hx
        rw [hx] at hc
        clear hx HJ HE
        go_wp2_with fail
        go_ret
        exact ⟨_, rfl, .inl ⟨j, hjl, rfl, HX.out⟩, rfl⟩
      · have HX := hide hx
        clear HJ HE
        generalize ((l[j].1 : Nat) : Int) = z at hc hx
        go_wp2_with fail
        go_round
        case rel => exact ⟨j + 1, by omega, by go_num, fun i h hij => by
          by_cases he : i = j
          · subst he; exact HX.out
          · exact HN.out i h (by omega)⟩
        case measure => simp [intOf]; omega
    · obtain rfl : j = l.length := by omega
      go_wp2_with fail
      go_ret
      exact ⟨_, rfl, .inr ⟨rfl, fun i h => HN.out i h h⟩, rfl⟩
end Go.Proofs.YtjbjcjcahkfgbaaDoor
