/-
  How answers and entries compare; SameWindow of what is the same, walked.
-/
import Derived.Test.YtbkphdemmnjhcaaWMem
namespace Go.Proofs.Ytbkphdemmnjhcaa.Wi
open Go.RowKit Go.Maps

theorem st_st : Try.prog.stoodInHeld 27 = false := by kernel_rfl
theorem fo_st : Try.prog.underlying 27 = some (.struct (Try.prog.fieldsOf 27)) := by kernel_rfl
theorem st_an : Try.prog.stoodInHeld 29 = false := by kernel_rfl
theorem fo_an : Try.prog.underlying 29 = some (.struct (Try.prog.fieldsOf 29)) := by kernel_rfl
theorem st_en : Try.prog.stoodInHeld 43 = false := by kernel_rfl
theorem fo_en : Try.prog.underlying 43 = some (.struct (Try.prog.fieldsOf 43)) := by kernel_rfl

set_option maxRecDepth 100000 in
theorem eq_an (x : An) (w : World) : (Op.equalIn 10000 29 (anV x) (anV x)).run Try.prog w = .ok true w := by
  rw [run_equalIn_struct w 9999 29 _ _ fo_an st_an]
  go_simp

set_option maxRecDepth 100000 in
theorem eq_en (x : Ent) (w : World) : (Op.equalIn 10000 43 (enV x) (enV x)).run Try.prog w = .ok true w := by
  rw [run_equalIn_struct w 9999 43 _ _ fo_en st_en]
  go_simp

theorem en_cells {w : World} {b o : Nat} {x : Ent} (h : w.rangeAt b o (enC x)) : w.cell? ⟨b, o, none⟩ = some (.int .i64 x.id) ∧ w.cell? ⟨b, o + 1, none⟩ = some (.int .i64 x.an.er) ∧ w.cell? ⟨b, o + 2, none⟩ = some (.int .i64 x.an.lf) ∧ w.cell? ⟨b, o + 3, none⟩ = some (.int .i64 x.an.ov) ∧ w.cell? ⟨b, o + 4, none⟩ = some (.int .i64 x.an.n) ∧ w.cell? ⟨b, o + 5, none⟩ = some (.string x.an.nm) ∧ w.cell? ⟨b, o + 6, none⟩ = some (.int .i64 x.an.s1) ∧ w.cell? ⟨b, o + 7, none⟩ = some (.int .i64 x.an.s2) ∧ w.cell? ⟨b, o + 8, none⟩ = some (.int .i64 x.an.s3) ∧ w.cell? ⟨b, o + 9, none⟩ = some (.int .i64 x.an.s4) ∧ w.cell? ⟨b, o + 10, none⟩ = some (.int .i64 x.an.s5) ∧ w.cell? ⟨b, o + 11, none⟩ = some (.int .i64 x.an.s6) ∧ w.cell? ⟨b, o + 12, none⟩ = some (.int .i64 x.an.s7) ∧ w.cell? ⟨b, o + 13, none⟩ = some (.int .i64 x.an.s8) :=
  ⟨h 0 _ rfl, h 1 _ rfl, h 2 _ rfl, h 3 _ rfl, h 4 _ rfl, h 5 _ rfl, h 6 _ rfl, h 7 _ rfl, h 8 _ rfl, h 9 _ rfl, h 10 _ rfl, h 11 _ rfl, h 12 _ rfl, h 13 _ rfl⟩

set_option maxRecDepth 100000 in
set_option maxHeartbeats 4000000 in
theorem same_any (a b : Option Addr) (ca cb : Nat) (l : List Ent) (w : World) (hlen : l.length ≤ 1000) (hA : EntsAt w a l) (hB : EntsAt w b l) :
    Calls Try.prog 12 #[.slice a l.length ca, .slice b l.length cb] w fun e w' => e = .returned (.bool true) ∧ ∃ m, w' = w.drewN m := by
  have HA := hide hA
  have HB := hide hB
  clear hA hB
  go_enter Try.func12, Try.ntmps12
  go_wp2_with fail
  go_loopw [5] (fun i wr => ∃ (k m : Nat), k ≤ l.length ∧ i = .int .i64 k ∧ Hid (wr = w.drewN m)) (fun i _ => l.length - (intOf i).toNat)
  case atStart => exact ⟨0, 0, Nat.zero_le _, rfl, rfl⟩
  case round =>
    obtain ⟨k, m, hk, rfl, HW⟩ := hrel
    have HT : Hid (Turn [] w wr) := by rw [HW.out]; exact (Turn.refl [] w).drewN m
    by_cases hlt : k < l.length
    · obtain ⟨b1, o1, rfl, hx⟩ := (HA.out.turn0 HT.out).at hlt
      obtain ⟨b2, o2, rfl, hy⟩ := (HB.out.turn0 HT.out).at hlt
      generalize l.getD k Ent.nil = x at *
      have heq := eq_en x
      obtain ⟨c0, c1, c2, c3, c4, c5, c6, c7, c8, c9, c10, c11, c12, c13⟩ := en_cells hx
      obtain ⟨d0, d1, d2, d3, d4, d5, d6, d7, d8, d9, d10, d11, d12, d13⟩ := en_cells hy
      have hb1 := lt_of_cell c0
      have hb2 := lt_of_cell d0
      clear hx hy
      go_wp2_with fail
      go_quiet (fail)
      clear c0 c1 c2 c3 c4 c5 c6 c7 c8 c9 c10 c11 c12 c13 d0 d1 d2 d3 d4 d5 d6 d7 d8 d9 d10 d11 d12 d13
      go_wp2_with fail
      go_roundw
      case rel => exact ⟨k + 1, m + _, by omega, by go_num, by unfold Hid; rw [HW.out, World.drewN_drewN]⟩
      case measure => simp [intOf]; omega
    · go_wp2_with fail
      go_ret
      exact ⟨rfl, m, HW.out⟩

theorem an_cells {w : World} {b o : Nat} {x : An} (h : w.rangeAt b o (anC x)) : w.cell? ⟨b, o, none⟩ = some (.int .i64 x.er) ∧ w.cell? ⟨b, o + 1, none⟩ = some (.int .i64 x.lf) ∧ w.cell? ⟨b, o + 2, none⟩ = some (.int .i64 x.ov) ∧ w.cell? ⟨b, o + 3, none⟩ = some (.int .i64 x.n) ∧ w.cell? ⟨b, o + 4, none⟩ = some (.string x.nm) ∧ w.cell? ⟨b, o + 5, none⟩ = some (.int .i64 x.s1) ∧ w.cell? ⟨b, o + 6, none⟩ = some (.int .i64 x.s2) ∧ w.cell? ⟨b, o + 7, none⟩ = some (.int .i64 x.s3) ∧ w.cell? ⟨b, o + 8, none⟩ = some (.int .i64 x.s4) ∧ w.cell? ⟨b, o + 9, none⟩ = some (.int .i64 x.s5) ∧ w.cell? ⟨b, o + 10, none⟩ = some (.int .i64 x.s6) ∧ w.cell? ⟨b, o + 11, none⟩ = some (.int .i64 x.s7) ∧ w.cell? ⟨b, o + 12, none⟩ = some (.int .i64 x.s8) :=
  ⟨h 0 _ rfl, h 1 _ rfl, h 2 _ rfl, h 3 _ rfl, h 4 _ rfl, h 5 _ rfl, h 6 _ rfl, h 7 _ rfl, h 8 _ rfl, h 9 _ rfl, h 10 _ rfl, h 11 _ rfl, h 12 _ rfl⟩

end Go.Proofs.Ytbkphdemmnjhcaa.Wi
