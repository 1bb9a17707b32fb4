/-
  known, walked.
-/
import Derived.Test.YtajnhdlefpeclaaHPut
namespace Go.Proofs.Ytajnhdlefpeclaa.Ho
open Go.RowKit Go.Maps

theorem HoldsAt.at {w : World} {a : Option Addr} {c : Nat} {l : List Hd} (h : HoldsAt w a c l) {i : Nat} (hi : i < l.length) : ∃ b off r, a = some ⟨b, off, none⟩ ∧ HrIn w b (off + i * 4) r ∧ r.x = l.getD i Hd.nil ∧ r.Ok w := by
  obtain ⟨rs, rfl, h1, h2, _⟩ := h
  rw [List.length_map] at hi
  obtain ⟨b, off, rfl, h3⟩ := h1.at hi
  exact ⟨b, off, _, rfl, h3, (map_getD rs i).symm, h2 _ (mem_getD' hi)⟩

/-- A hold without parts. -/
def bare (id ov un : Int) : Hr := ⟨⟨id, [], ov, un⟩, none, 0⟩
theorem bare_ok (id ov un : Int) (w : World) : (bare id ov un).Ok w := ⟨.inl rfl, fun _ => rfl⟩
theorem bare_x (id ov un : Int) : (bare id ov un).x = ⟨id, [], ov, un⟩ := rfl

set_option maxRecDepth 100000 in
set_option maxHeartbeats 4000000 in
theorem known_any (w : World) : Calls Try.prog 8 #[] w fun e w' => e = .returned (.bool true) ∧ Turn [] w w' := by
  have hA : HoldsAt (w.alloc (.cells #[.int .i64 3, .slice none 0 0, .int .i64 0, .int .i64 0, .int .i64 9, .slice none 0 0, .int .i64 0, .int .i64 0] 27)) (some ⟨w.heap.size, 0, none⟩) 2 [⟨3, [], 0, 0⟩, ⟨9, [], 0, 0⟩] := by
    refine ⟨[bare 3 0 0, bare 9 0 0], rfl, .inr ⟨w.heap.size, 0, rfl, fun i hi => ?_⟩, fun r hr => ?_, (fun e => by cases e), by simp, by omega⟩
    · match i, hi with
      | 0, _ => exact ⟨World.cell?_alloc_at _ _ _ _ rfl, World.cell?_alloc_at _ _ _ _ rfl, World.cell?_alloc_at _ _ _ _ rfl, World.cell?_alloc_at _ _ _ _ rfl⟩
      | 1, _ => exact ⟨World.cell?_alloc_at _ _ _ _ rfl, World.cell?_alloc_at _ _ _ _ rfl, World.cell?_alloc_at _ _ _ _ rfl, World.cell?_alloc_at _ _ _ _ rfl⟩
    · simp only [List.mem_cons, List.not_mem_nil, or_false] at hr
      rcases hr with rfl | rfl <;> exact bare_ok _ _ _ _
  have e : put [⟨3, [], 0, 0⟩, ⟨9, [], 0, 0⟩] (bare 5 0 0).x = [⟨3, [], 0, 0⟩, ⟨5, [], 0, 0⟩, ⟨9, [], 0, 0⟩] := by simp [put, lo, hi, bare]
  have HC := hide (put_any _ 2 _ (bare 5 0 0) _ (by simp [Up]) (by simp) (fun x hx => by simp at hx; rcases hx with rfl | rfl <;> simp) hA (bare_ok _ _ _ _) (by simp [bare]))
  rw [e] at HC
  have HT0 := hide ((Turn.refl [] w).alloc (.cells #[.int .i64 3, .slice none 0 0, .int .i64 0, .int .i64 0, .int .i64 9, .slice none 0 0, .int .i64 0, .int .i64 0] 27))
  clear hA e
  go_enter Try.func8, Try.ntmps8
  go_wp2_with fail
  refine HC.out.mono ?_
  rintro e w1 ⟨a, c, rfl, hH, hT1⟩
  obtain ⟨rs, hrs, hR, _, _, _, _⟩ := hH
  have HT := hide (HT0.out.trans hT1)
  have hl : rs.length = 3 := by have := congrArg List.length hrs; simpa using this.symm
  obtain ⟨b, off, rfl, c1, _, _, _⟩ := hR.at (i := 1) (by omega)
  obtain ⟨b', off', hb', c2, _, _, _⟩ := hR.at (i := 2) (by omega)
  obtain ⟨rfl, rfl⟩ : b = b' ∧ off = off' := by injection hb' with h; injection h with h1 h2; exact ⟨h1, h2⟩
  rw [← map_getD, ← hrs] at c1 c2
  simp only [List.getD_cons_succ, List.getD_cons_zero, Nat.one_mul] at c1 c2
  clear hT1 HC hrs hR hl hb' HT0
  have hb := lt_of_cell c1
  go_wp2_with fail
  go_ret
  exact ⟨rfl, HT.out⟩

end Go.Proofs.Ytajnhdlefpeclaa.Ho
