/-
  The law's Same on plain rows, walked: two rows of the same pairs.
-/
import Derived.Test.YthgpjkcgccdldaaGreatDoorV06
import Derived.Deep.RegionHeld
import Derived.Deep.RegionHeld3
import Derived.Deep.Cut

namespace Go.Proofs.YthgpjkcgccdldaaGreatDoor
open Go.RowKit Go.Maps

set_option maxRecDepth 100000 in
set_option maxHeartbeats 6400000 in
theorem lsame_any (w : World) (aa ab : Option Addr) (ca cb : Nat) (l : List (ByteArray × ByteArray)) (hA : KVsAt w aa l) (hB : KVsAt w ab l) (hl : l.length ≤ 1000000) :
    Calls Tryz.prog 25 #[.slice aa l.length ca, .slice ab l.length cb] w fun e w' => e = .returned (.bool true) ∧ Turn [] w w' := by
  have HAll := hide hA
  have Hone := hide hB
  obtain ⟨K, hK⟩ : ∃ K, K = l.length := ⟨_, rfl⟩
  have HK := hide hK
  rw [← hK] at hl ⊢
  have HT0 := hide (Turn.refl [] w)
  clear hA hB hK
  go_enter Tryz.func25, Tryz.ntmps25
  go_wp2_with fail
  go_loopw [5] (fun u5 wr => ∃ (k : Nat), k ≤ K ∧ u5 = .int .i64 (k : Nat) ∧ Hid (Turn [] w wr)) (fun u5 _ => K - (intOf u5).toNat)
  case atStart => exact ⟨0, Nat.zero_le _, rfl, HT0⟩
  case round =>
    obtain ⟨k, hk, rfl, HTz⟩ := hrel
    clear HT0
    by_cases hkl : k < K
    · have hkl2 : k < l.length := by have := HK.out; omega
      obtain ⟨qa, oa, e1, x1, x2⟩ := (HAll.out.turn0 HTz.out).at hkl2
      obtain ⟨qb, ob, e2, y1, y2⟩ := (Hone.out.turn0 HTz.out).at hkl2
      subst e1 e2
      have HTd := hide HTz.out.drew
      generalize l[k].1 = x at *
      generalize l[k].2 = y at *
      have HS : Hid (wr.cell? ⟨qa, oa + k * 2, none⟩ = some (.string x) ∧ wr.cell? ⟨qa, oa + k * 2 + 1, none⟩ = some (.string y) ∧ wr.cell? ⟨qb, ob + k * 2, none⟩ = some (.string x) ∧ wr.cell? ⟨qb, ob + k * 2 + 1, none⟩ = some (.string y)) := ⟨x1, x2, y1, y2⟩
      have hq1z := lt_of_cell x1
      have hq2z := lt_of_cell y1
      clear x1 x2 y1 y2 HAll Hone hkl2
      go_upto_region 6 with fail
      refine wp_region_noPanic ?_
      refine wp_region_held_drew (S := fun W => W.cell? ⟨qa, oa + k * 2, none⟩ = some (.string x) ∧ W.cell? ⟨qa, oa + k * 2 + 1, none⟩ = some (.string y) ∧ W.cell? ⟨qb, ob + k * 2, none⟩ = some (.string x) ∧ W.cell? ⟨qb, ob + k * 2 + 1, none⟩ = some (.string y)) (by kernel_rfl) HS.out (fun hHeld => ?_)
      refine' wpAnyH_take (i := 0) (oi := { dst := some 17, op := Go.Op.move (Go.Operand.tmp 0), type := 31, pos := "law.go:114", after := #[], guard := none }) (v := _) rfl (by kernel_rfl) (by kernel_rfl) (by kernel_rfl) (fun _ _ _ h => h) (Or.inl ⟨by rfl, ?_⟩) (by assumption) ?_
      rotate_left
      · intro w hSw; (try dsimp only at hSw); go_simp <;> with_reducible rfl
      simp only [Act.put, List.setIfInBounds_toArray, List.set_cons_zero, List.set_cons_succ]
      refine' wpAnyH_take (i := 1) (oi := { dst := some 18, op := Go.Op.move (Go.Operand.tmp 5), type := 3, pos := "law.go:114", after := #[], guard := none }) (v := _) rfl (by kernel_rfl) (by kernel_rfl) (by kernel_rfl) (fun _ _ _ h => h) (Or.inl ⟨by rfl, ?_⟩) (by assumption) ?_
      rotate_left
      · intro w hSw; (try dsimp only at hSw); go_simp <;> with_reducible rfl
      simp only [Act.put, List.setIfInBounds_toArray, List.set_cons_zero, List.set_cons_succ]
      refine' wpAnyH_take (i := 2) (oi := { dst := some 19, op := Go.Op.indexAddr 31 (Go.Operand.tmp 17) (Go.Operand.tmp 18), type := 0, pos := "law.go:114", after := #[{ on := 0, ground := Go.Ground.data }, { on := 1, ground := Go.Ground.data }], guard := none }) (v := .pointer (some ⟨qa, oa + k * 2, none⟩)) rfl (by kernel_rfl) (by kernel_rfl) (by kernel_rfl) (fun _ _ _ h => h) (Or.inl ⟨by rfl, ?_⟩) (by assumption) ?_
      · intro w hSw; go_simp
      simp only [Act.put, List.setIfInBounds_toArray, List.set_cons_zero, List.set_cons_succ]
      refine' wpAnyH_take (i := 3) (oi := { dst := some 20, op := Go.Op.load 55 (Go.Operand.tmp 19), type := 55, pos := "law.go:114", after := #[{ on := 2, ground := Go.Ground.data }], guard := none }) (v := .agg #[.string x, .string y]) rfl (by kernel_rfl) (by kernel_rfl) (by kernel_rfl) (fun _ _ _ h => h) (Or.inl ⟨by rfl, ?_⟩) (by assumption) ?_
      · intro w hSw; obtain ⟨z1, z2, z3, z4⟩ := hSw; go_simp
      simp only [Act.put, List.setIfInBounds_toArray, List.set_cons_zero, List.set_cons_succ]
      refine' wpAnyH_take (i := 4) (oi := { dst := some 21, op := Go.Op.move (Go.Operand.tmp 1), type := 31, pos := "law.go:114", after := #[], guard := none }) (v := _) rfl (by kernel_rfl) (by kernel_rfl) (by kernel_rfl) (fun _ _ _ h => h) (Or.inl ⟨by rfl, ?_⟩) (by assumption) ?_
      rotate_left
      · intro w hSw; (try dsimp only at hSw); go_simp <;> with_reducible rfl
      simp only [Act.put, List.setIfInBounds_toArray, List.set_cons_zero, List.set_cons_succ]
      refine' wpAnyH_take (i := 5) (oi := { dst := some 22, op := Go.Op.move (Go.Operand.tmp 5), type := 3, pos := "law.go:114", after := #[], guard := none }) (v := _) rfl (by kernel_rfl) (by kernel_rfl) (by kernel_rfl) (fun _ _ _ h => h) (Or.inl ⟨by rfl, ?_⟩) (by assumption) ?_
      rotate_left
      · intro w hSw; (try dsimp only at hSw); go_simp <;> with_reducible rfl
      simp only [Act.put, List.setIfInBounds_toArray, List.set_cons_zero, List.set_cons_succ]
      refine' wpAnyH_take (i := 6) (oi := { dst := some 23, op := Go.Op.indexAddr 31 (Go.Operand.tmp 21) (Go.Operand.tmp 22), type := 0, pos := "law.go:114", after := #[{ on := 4, ground := Go.Ground.data }, { on := 5, ground := Go.Ground.data }], guard := none }) (v := .pointer (some ⟨qb, ob + k * 2, none⟩)) rfl (by kernel_rfl) (by kernel_rfl) (by kernel_rfl) (fun _ _ _ h => h) (Or.inl ⟨by rfl, ?_⟩) (by assumption) ?_
      · intro w hSw; go_simp
      simp only [Act.put, List.setIfInBounds_toArray, List.set_cons_zero, List.set_cons_succ]
      refine' wpAnyH_take (i := 7) (oi := { dst := some 24, op := Go.Op.load 55 (Go.Operand.tmp 23), type := 55, pos := "law.go:114", after := #[{ on := 6, ground := Go.Ground.data }], guard := none }) (v := .agg #[.string x, .string y]) rfl (by kernel_rfl) (by kernel_rfl) (by kernel_rfl) (fun _ _ _ h => h) (Or.inl ⟨by rfl, ?_⟩) (by assumption) ?_
      · intro w hSw; obtain ⟨z1, z2, z3, z4⟩ := hSw; go_simp
      simp only [Act.put, List.setIfInBounds_toArray, List.set_cons_zero, List.set_cons_succ]
      refine' wpAnyH_take (i := 8) (oi := { dst := some 25, op := Go.Op.binOp Go.BinOp.neq 55 (Go.Operand.tmp 20) (Go.Operand.tmp 24) 55, type := 4, pos := "law.go:114", after := #[{ on := 3, ground := Go.Ground.data }, { on := 7, ground := Go.Ground.data }], guard := none }) (v := .bool false) rfl (by kernel_rfl) (by kernel_rfl) (by kernel_rfl) (fun _ _ _ h => h) (Or.inl ⟨by rfl, ?_⟩) (by assumption) ?_
      · intro w hSw; go_simp
      simp only [Act.put, List.setIfInBounds_toArray, List.set_cons_zero, List.set_cons_succ]
      refine wpAnyH_done (by kernel_rfl) ?_ _
      refine NoPanic.normal ?_
      go_wp2_with fail
      refine ⟨⟨k + 1, by omega, ?_, HTd⟩, ?_⟩
      · exact congrArg (Value.int .i64) (by omega)
      · first | omega | (simp [intOf]; omega) | (simp; omega)
    · clear HAll Hone
      go_wp2_with fail
      go_ret
      exact ⟨rfl, HTz.out⟩

end Go.Proofs.YthgpjkcgccdldaaGreatDoor
