/-
  RecAccounts' last line, walked.
-/
import Derived.Test.YtghgkjollafeiaaPN
namespace Go.Proofs.Ytghgkjollafeiaa
open Go.RowKit

/-- The code of the last line. -/
noncomputable def reg37 : Code := match Try.f3.body with
  | some c => (regOf 7 c).getD .skip
  | none => .skip

set_option maxRecDepth 100000 in
set_option maxHeartbeats 12800000 in
theorem reg37_any (W : World) {g0 g1 g4 g8 g9 g10 g11 g12 g13 g14 g15 g16 g17 g18 g19 g20 g21 g22 g23 g24 g25 g26 g27 g28 g29 g30 g31 g32 g33 g34 g35 g36 g37 g38 g39 g40 g41 g42 g43 g44 g45 g46 g47 g48 g49 g50 g51 g52 g53 g54 : Value} (ca co cx : List Value) (ba bo bx gb capb : Nat) (LB : List Nat) (r : Bool) (Q : Exit → Act → World → Prop)
    (la : ca.length = 20) (lo : co.length = 20) (lx : cx.length = 20)
    (HS : Hid (∀ w', Turn [] W w' → (convert 31 9 (.slice (some ⟨gb, 0, none⟩) LB.length capb)).run Try.prog w' = .ok (.string (textOf LB)) w' ∧ w'.rangeAt ba 0 ca ∧ w'.rangeAt bo 0 co ∧ w'.rangeAt bx 0 cx))
    (HRA : Hid (∀ w', Turn [] W w' → Calls Try.prog 11 #[.slice none 0 0, .agg ca.toArray] w' fun e w'' => ∃ v', e = .returned v' ∧ Gr w' w'' (.slice none 0 0) v' LB))
    (HPL : Hid (∀ w', Turn [] W w' → Calls Try.prog 13 #[.agg ca.toArray] w' fun e w'' => ∃ cp : List Value, e = .returned (.agg cp.toArray) ∧ Turn [] w' w'' ∧ Hid (∀ w3, Turn [] w'' w3 → Calls Try.prog 12 #[.agg cx.toArray, .agg cp.toArray] w3 fun e w4 => e = .returned (.bool true) ∧ Turn [] w3 w4)))
    (HSR : Hid (∀ w', Turn [] W w' → Calls Try.prog 14 #[.agg ca.toArray, .agg co.toArray] w' fun e w'' => e = .returned (.bool r) ∧ Turn [] w' w''))
    (HSF : Hid (∀ w', Turn [] W w' → Calls Try.prog 12 #[.agg ca.toArray, .agg co.toArray] w' fun e w'' => e = .returned (.bool r) ∧ Turn [] w' w''))
    (HSS : Hid (∀ w', Turn [] W w' → Calls Try.prog 14 #[.agg ca.toArray, .agg ca.toArray] w' fun e w'' => e = .returned (.bool true) ∧ Turn [] w' w''))
    (hQ : ∀ (L : Array Value) w', L.getD 4 undef = .bool true → Turn [] W w' → Q .normal ⟨L, []⟩ w') :
    Code.wp Try.prog reg37 Q ⟨#[g0, g1, .pointer (some ⟨ba, 0, none⟩), .pointer (some ⟨bo, 0, none⟩), g4, .slice (some ⟨gb, 0, none⟩) LB.length capb, .pointer (some ⟨bx, 0, none⟩), .int .i64 0, g8, g9, g10, g11, g12, g13, g14, g15, g16, g17, g18, g19, g20, g21, g22, g23, g24, g25, g26, g27, g28, g29, g30, g31, g32, g33, g34, g35, g36, g37, g38, g39, g40, g41, g42, g43, g44, g45, g46, g47, g48, g49, g50, g51, g52, g53, g54], []⟩ W := by
  conv => arg 2; whnf
  dsimp only
  have HQ := hide hQ
  obtain ⟨dt, hu, hd⟩ := und_acc
  have ia : (Try.prog.info? 28).map (·.size) = some ca.length := by rw [info_acc, la]
  have io : (Try.prog.info? 28).map (·.size) = some co.length := by rw [info_acc, lo]
  have ix : (Try.prog.info? 28).map (·.size) = some cx.length := by rw [info_acc, lx]
  have HT0 : Hid (Turn [] W W.drew) := (Turn.refl [] W).drew
  clear hQ la lo lx
  generalize hca : ca.toArray = A at *
  generalize hco : co.toArray = O at *
  generalize hcx : cx.toArray = X at *
  have HCa := hide hca
  have HCo := hide hco
  have HCx := hide hcx
  clear hca hco hcx
  refine wp_region_noPanic ?_
  refine wp_region_held_drew (S := fun w' => (convert 31 9 (.slice (some ⟨gb, 0, none⟩) LB.length capb)).run Try.prog w' = .ok (.string (textOf LB)) w' ∧ w'.rangeAt ba 0 ca ∧ w'.rangeAt bo 0 co ∧ w'.rangeAt bx 0 cx) (by kernel_rfl) (HS.out _ HT0.out) (fun hHeld => ?_)
  refine' wpAnyH_take (i := 0) (oi := { dst := some 25, op := Go.Op.move (Go.Operand.tmp 5), type := 31, pos := "law.go:63", after := #[], guard := none }) (v := _) rfl (by kernel_rfl) (by kernel_rfl) (by kernel_rfl) (fun _ _ _ h => h) (Or.inl ⟨by rfl, ?_⟩) (by assumption) ?_
  rotate_left
  · intro w hSw; (try dsimp only at hSw); go_simp <;> with_reducible rfl
  simp only [Act.put, List.setIfInBounds_toArray, List.set_cons_zero, List.set_cons_succ]
  refine' wpAnyH_take (i := 1) (oi := { dst := some 26, op := Go.Op.convert 31 9 (Go.Operand.tmp 25), type := 9, pos := "law.go:63", after := #[{ on := 0, ground := Go.Ground.data }], guard := none }) (v := _) rfl (by kernel_rfl) (by kernel_rfl) (by kernel_rfl) (fun _ _ _ h => h) (Or.inl ⟨by rfl, ?_⟩) (by assumption) ?_
  rotate_left
  · intro w hSw; (try dsimp only at hSw); go_simp <;> with_reducible rfl
  simp only [Act.put, List.setIfInBounds_toArray, List.set_cons_zero, List.set_cons_succ]
  refine' wpAnyH_take (i := 2) (oi := { dst := some 27, op := Go.Op.load 28 (Go.Operand.tmp 2), type := 28, pos := "law.go:63", after := #[], guard := none }) (v := .agg A) rfl (by kernel_rfl) (by kernel_rfl) (by kernel_rfl) (fun _ _ _ h => h) (by rw [← HCa.out]; exact yieldsIf_load_mid (by rfl) _ _ rfl _ _ rfl _ _ (fun w hw => hw.2.1) hu hd ia) (by assumption) ?_
  simp only [Act.put, List.setIfInBounds_toArray, List.set_cons_zero, List.set_cons_succ]
  refine wpAnyH_ready (rs := [3]) (by kernel_rfl) (by simp) ?_
  refine AllReadyH.cons rfl (fun K hK => ?_) AllReadyH.nil
  go_simp
  go_wp2_with (first | (go_at_call 11; (with_reducible refine (HRA.out _ HT0.out).mono ?_); rintro e q1 ⟨vr, rfl, hG⟩; have HT1 : Hid (Turn [] W q1) := gr_turn hG; obtain ⟨va7, vc7, rfl, hB7⟩ := gr_bytes hG; have hcr7 := text_at hB7 LB.length vc7 rfl; clear hG hB7) | fail)
  refine hK.out _ _ ?_ (fun hHeld => ?_)
  · exact HS.out _ HT1.out
  clear hK K
  try simp only [Act.put, List.setIfInBounds_toArray, List.set_cons_zero, List.set_cons_succ]
  refine wpAnyH_ready (rs := [4]) (by kernel_rfl) (by simp) ?_
  refine AllReadyH.cons rfl (fun K hK => ?_) AllReadyH.nil
  go_simp
  go_wp2_with fail
  refine hK.out _ _ ?_ (fun hHeld => ?_)
  · exact HS.out _ HT1.out
  clear hK K hcr7
  try simp only [Act.put, List.setIfInBounds_toArray, List.set_cons_zero, List.set_cons_succ]
  refine' wpAnyH_take (i := 5) (oi := { dst := some 30, op := Go.Op.binOp Go.BinOp.eql 9 (Go.Operand.tmp 26) (Go.Operand.tmp 29) 9, type := 4, pos := "law.go:63", after := #[{ on := 1, ground := Go.Ground.data }, { on := 4, ground := Go.Ground.data }], guard := none }) (v := _) rfl (by kernel_rfl) (by kernel_rfl) (by kernel_rfl) (fun _ _ _ h => h) (Or.inl ⟨by rfl, ?_⟩) (by assumption) ?_
  rotate_left
  · intro w hSw; (try dsimp only at hSw); go_simp <;> with_reducible rfl
  simp only [Act.put, List.setIfInBounds_toArray, List.set_cons_zero, List.set_cons_succ]
  refine' wpAnyH_take (i := 6) (oi := { dst := some 31, op := Go.Op.move (Go.Operand.tmp 30), type := 4, pos := "law.go:63", after := #[{ on := 5, ground := Go.Ground.data }, { on := 3, ground := Go.Ground.chain }], guard := none }) (v := _) rfl (by kernel_rfl) (by kernel_rfl) (by kernel_rfl) (fun _ _ _ h => h) (Or.inl ⟨by rfl, ?_⟩) (by assumption) ?_
  rotate_left
  · intro w hSw; (try dsimp only at hSw); go_simp <;> with_reducible rfl
  simp only [Act.put, List.setIfInBounds_toArray, List.set_cons_zero, List.set_cons_succ]
  refine' wpAnyH_take (i := 7) (oi := { dst := some 32, op := Go.Op.move (Go.Operand.tmp 7), type := 33, pos := "law.go:63", after := #[{ on := 6, ground := Go.Ground.guard }], guard := some (6, true) }) (v := _) rfl (by kernel_rfl) (by kernel_rfl) (by kernel_rfl) (fun _ _ _ h => h) (Or.inl ⟨by rfl, ?_⟩) (by assumption) ?_
  rotate_left
  · intro w hSw; (try dsimp only at hSw); go_simp <;> with_reducible rfl
  simp only [Act.put, List.setIfInBounds_toArray, List.set_cons_zero, List.set_cons_succ]
  refine' wpAnyH_take (i := 8) (oi := { dst := some 33, op := Go.Op.binOp Go.BinOp.eql 33 (Go.Operand.tmp 32) (Go.Operand.const (Go.Value.int Go.IntKind.i64 0)) 33, type := 4, pos := "law.go:63", after := #[{ on := 7, ground := Go.Ground.data }, { on := 6, ground := Go.Ground.guard }], guard := some (6, true) }) (v := _) rfl (by kernel_rfl) (by kernel_rfl) (by kernel_rfl) (fun _ _ _ h => h) (Or.inl ⟨by rfl, ?_⟩) (by assumption) ?_
  rotate_left
  · intro w hSw; (try dsimp only at hSw); go_simp <;> with_reducible rfl
  simp only [Act.put, List.setIfInBounds_toArray, List.set_cons_zero, List.set_cons_succ]
  refine' wpAnyH_take (i := 9) (oi := { dst := some 34, op := Go.Op.pick (Go.Operand.tmp 31) (Go.Operand.tmp 33) (Go.Operand.const (Go.Value.bool false)), type := 4, pos := "law.go:63", after := #[{ on := 6, ground := Go.Ground.data }, { on := 8, ground := Go.Ground.data }], guard := none }) (v := _) rfl (by kernel_rfl) (by kernel_rfl) (by kernel_rfl) (fun _ _ _ h => h) (Or.inl ⟨by rfl, ?_⟩) (by assumption) ?_
  rotate_left
  · intro w hSw; (try dsimp only at hSw); go_simp <;> with_reducible rfl
  simp only [Act.put, List.setIfInBounds_toArray, List.set_cons_zero, List.set_cons_succ]
  refine' wpAnyH_take (i := 10) (oi := { dst := some 35, op := Go.Op.move (Go.Operand.tmp 34), type := 4, pos := "law.go:63", after := #[{ on := 9, ground := Go.Ground.data }, { on := 6, ground := Go.Ground.chain }], guard := none }) (v := _) rfl (by kernel_rfl) (by kernel_rfl) (by kernel_rfl) (fun _ _ _ h => h) (Or.inl ⟨by rfl, ?_⟩) (by assumption) ?_
  rotate_left
  · intro w hSw; (try dsimp only at hSw); go_simp <;> with_reducible rfl
  simp only [Act.put, List.setIfInBounds_toArray, List.set_cons_zero, List.set_cons_succ]
  refine' wpAnyH_take (i := 11) (oi := { dst := some 36, op := Go.Op.load 28 (Go.Operand.tmp 6), type := 28, pos := "law.go:63", after := #[{ on := 10, ground := Go.Ground.guard }], guard := some (10, true) }) (v := .agg X) rfl (by kernel_rfl) (by kernel_rfl) (by kernel_rfl) (fun _ _ _ h => h) (by rw [← HCx.out]; exact yieldsIf_load_mid (by rfl) _ _ rfl _ _ rfl _ _ (fun w hw => hw.2.2.2) hu hd ix) (by assumption) ?_
  simp only [Act.put, List.setIfInBounds_toArray, List.set_cons_zero, List.set_cons_succ]
  refine' wpAnyH_take (i := 12) (oi := { dst := some 37, op := Go.Op.load 28 (Go.Operand.tmp 2), type := 28, pos := "law.go:63", after := #[{ on := 10, ground := Go.Ground.guard }], guard := some (10, true) }) (v := .agg A) rfl (by kernel_rfl) (by kernel_rfl) (by kernel_rfl) (fun _ _ _ h => h) (by rw [← HCa.out]; exact yieldsIf_load_mid (by rfl) _ _ rfl _ _ rfl _ _ (fun w hw => hw.2.1) hu hd ia) (by assumption) ?_
  simp only [Act.put, List.setIfInBounds_toArray, List.set_cons_zero, List.set_cons_succ]
  refine wpAnyH_ready (rs := [13]) (by kernel_rfl) (by simp) ?_
  refine AllReadyH.cons rfl (fun K hK => ?_) AllReadyH.nil
  go_simp
  go_wp2_with (first | (go_at_call 13; (with_reducible refine (HPL.out _ HT1.out).mono ?_); rintro e q2 ⟨cp, rfl, hT, HP⟩; have HT2 : Hid (Turn [] W q2) := HT1.out.trans hT; clear hT) | fail)
  refine hK.out _ _ ?_ (fun hHeld => ?_)
  · exact HS.out _ HT2.out
  clear hK K
  try simp only [Act.put, List.setIfInBounds_toArray, List.set_cons_zero, List.set_cons_succ]
  refine wpAnyH_ready (rs := [14]) (by kernel_rfl) (by simp) ?_
  refine AllReadyH.cons rfl (fun K hK => ?_) AllReadyH.nil
  go_simp
  go_wp2_with (first | (go_at_call 12; (with_reducible refine (HP.out _ (Turn.refl [] q2)).mono ?_); rintro e q3 ⟨rfl, hT⟩; have HT3 : Hid (Turn [] W q3) := HT2.out.trans hT; clear hT) | fail)
  refine hK.out _ _ ?_ (fun hHeld => ?_)
  · exact HS.out _ HT3.out
  clear hK K
  try simp only [Act.put, List.setIfInBounds_toArray, List.set_cons_zero, List.set_cons_succ]
  refine' wpAnyH_take (i := 15) (oi := { dst := some 40, op := Go.Op.pick (Go.Operand.tmp 35) (Go.Operand.tmp 39) (Go.Operand.const (Go.Value.bool false)), type := 4, pos := "law.go:63", after := #[{ on := 10, ground := Go.Ground.data }, { on := 14, ground := Go.Ground.data }], guard := none }) (v := _) rfl (by kernel_rfl) (by kernel_rfl) (by kernel_rfl) (fun _ _ _ h => h) (Or.inl ⟨by rfl, ?_⟩) (by assumption) ?_
  rotate_left
  · intro w hSw; (try dsimp only at hSw); go_simp <;> with_reducible rfl
  simp only [Act.put, List.setIfInBounds_toArray, List.set_cons_zero, List.set_cons_succ]
  refine' wpAnyH_take (i := 16) (oi := { dst := some 41, op := Go.Op.move (Go.Operand.tmp 40), type := 4, pos := "law.go:63", after := #[{ on := 15, ground := Go.Ground.data }, { on := 14, ground := Go.Ground.chain }], guard := none }) (v := _) rfl (by kernel_rfl) (by kernel_rfl) (by kernel_rfl) (fun _ _ _ h => h) (Or.inl ⟨by rfl, ?_⟩) (by assumption) ?_
  rotate_left
  · intro w hSw; (try dsimp only at hSw); go_simp <;> with_reducible rfl
  simp only [Act.put, List.setIfInBounds_toArray, List.set_cons_zero, List.set_cons_succ]
  refine' wpAnyH_take (i := 17) (oi := { dst := some 42, op := Go.Op.load 28 (Go.Operand.tmp 2), type := 28, pos := "law.go:63", after := #[{ on := 16, ground := Go.Ground.guard }], guard := some (16, true) }) (v := .agg A) rfl (by kernel_rfl) (by kernel_rfl) (by kernel_rfl) (fun _ _ _ h => h) (by rw [← HCa.out]; exact yieldsIf_load_mid (by rfl) _ _ rfl _ _ rfl _ _ (fun w hw => hw.2.1) hu hd ia) (by assumption) ?_
  simp only [Act.put, List.setIfInBounds_toArray, List.set_cons_zero, List.set_cons_succ]
  refine' wpAnyH_take (i := 18) (oi := { dst := some 43, op := Go.Op.load 28 (Go.Operand.tmp 3), type := 28, pos := "law.go:63", after := #[{ on := 16, ground := Go.Ground.guard }], guard := some (16, true) }) (v := .agg O) rfl (by kernel_rfl) (by kernel_rfl) (by kernel_rfl) (fun _ _ _ h => h) (by rw [← HCo.out]; exact yieldsIf_load_mid (by rfl) _ _ rfl _ _ rfl _ _ (fun w hw => hw.2.2.1) hu hd io) (by assumption) ?_
  simp only [Act.put, List.setIfInBounds_toArray, List.set_cons_zero, List.set_cons_succ]
  refine' wpAnyH_take (i := 20) (oi := { dst := some 45, op := Go.Op.load 28 (Go.Operand.tmp 2), type := 28, pos := "law.go:63", after := #[{ on := 16, ground := Go.Ground.guard }], guard := some (16, true) }) (v := .agg A) rfl (by kernel_rfl) (by kernel_rfl) (by kernel_rfl) (fun _ _ _ h => h) (by rw [← HCa.out]; exact yieldsIf_load_mid (by rfl) _ _ rfl _ _ rfl _ _ (fun w hw => hw.2.1) hu hd ia) (by assumption) ?_
  simp only [Act.put, List.setIfInBounds_toArray, List.set_cons_zero, List.set_cons_succ]
  refine' wpAnyH_take (i := 21) (oi := { dst := some 46, op := Go.Op.load 28 (Go.Operand.tmp 3), type := 28, pos := "law.go:63", after := #[{ on := 16, ground := Go.Ground.guard }], guard := some (16, true) }) (v := .agg O) rfl (by kernel_rfl) (by kernel_rfl) (by kernel_rfl) (fun _ _ _ h => h) (by rw [← HCo.out]; exact yieldsIf_load_mid (by rfl) _ _ rfl _ _ rfl _ _ (fun w hw => hw.2.2.1) hu hd io) (by assumption) ?_
  simp only [Act.put, List.setIfInBounds_toArray, List.set_cons_zero, List.set_cons_succ]
  refine wpAnyH_ready (rs := [19]) (by kernel_rfl) (by simp) ?_
  refine AllReadyH.cons rfl (fun K hK => ?_) AllReadyH.nil
  go_simp
  go_wp2_with (first | (go_at_call 14; (with_reducible refine (HSR.out _ HT3.out).mono ?_); rintro e q4 ⟨rfl, hT⟩; have HT4 : Hid (Turn [] W q4) := HT3.out.trans hT; clear hT) | fail)
  refine hK.out _ _ ?_ (fun hHeld => ?_)
  · exact HS.out _ HT4.out
  clear hK K
  try simp only [Act.put, List.setIfInBounds_toArray, List.set_cons_zero, List.set_cons_succ]
  refine wpAnyH_ready (rs := [22]) (by kernel_rfl) (by simp) ?_
  refine AllReadyH.cons rfl (fun K hK => ?_) AllReadyH.nil
  go_simp
  go_wp2_with (first | (go_at_call 12; (with_reducible refine (HSF.out _ HT4.out).mono ?_); rintro e q5 ⟨rfl, hT⟩; have HT5 : Hid (Turn [] W q5) := HT4.out.trans hT; clear hT) | fail)
  refine hK.out _ _ ?_ (fun hHeld => ?_)
  · exact HS.out _ HT5.out
  clear hK K
  try simp only [Act.put, List.setIfInBounds_toArray, List.set_cons_zero, List.set_cons_succ]
  refine' wpAnyH_take (i := 23) (oi := { dst := some 48, op := Go.Op.binOp Go.BinOp.eql 4 (Go.Operand.tmp 44) (Go.Operand.tmp 47) 4, type := 4, pos := "law.go:63", after := #[{ on := 19, ground := Go.Ground.data }, { on := 22, ground := Go.Ground.data }, { on := 16, ground := Go.Ground.guard }], guard := some (16, true) }) (v := _) rfl (by kernel_rfl) (by kernel_rfl) (by kernel_rfl) (fun _ _ _ h => h) (Or.inl ⟨by rfl, ?_⟩) (by assumption) ?_
  rotate_left
  · intro w hSw; (try dsimp only at hSw); go_simp <;> with_reducible rfl
  simp only [Act.put, List.setIfInBounds_toArray, List.set_cons_zero, List.set_cons_succ]
  refine' wpAnyH_take (i := 24) (oi := { dst := some 49, op := Go.Op.pick (Go.Operand.tmp 41) (Go.Operand.tmp 48) (Go.Operand.const (Go.Value.bool false)), type := 4, pos := "law.go:63", after := #[{ on := 16, ground := Go.Ground.data }, { on := 23, ground := Go.Ground.data }], guard := none }) (v := _) rfl (by kernel_rfl) (by kernel_rfl) (by kernel_rfl) (fun _ _ _ h => h) (Or.inl ⟨by rfl, ?_⟩) (by assumption) ?_
  rotate_left
  · intro w hSw; (try dsimp only at hSw); go_simp <;> with_reducible rfl
  simp only [Act.put, List.setIfInBounds_toArray, List.set_cons_zero, List.set_cons_succ]
  refine' wpAnyH_take (i := 25) (oi := { dst := some 50, op := Go.Op.move (Go.Operand.tmp 49), type := 4, pos := "law.go:63", after := #[{ on := 24, ground := Go.Ground.data }, { on := 22, ground := Go.Ground.chain }], guard := none }) (v := _) rfl (by kernel_rfl) (by kernel_rfl) (by kernel_rfl) (fun _ _ _ h => h) (Or.inl ⟨by rfl, ?_⟩) (by assumption) ?_
  rotate_left
  · intro w hSw; (try dsimp only at hSw); go_simp <;> with_reducible rfl
  simp only [Act.put, List.setIfInBounds_toArray, List.set_cons_zero, List.set_cons_succ]
  refine' wpAnyH_take (i := 26) (oi := { dst := some 51, op := Go.Op.load 28 (Go.Operand.tmp 2), type := 28, pos := "law.go:63", after := #[{ on := 25, ground := Go.Ground.guard }], guard := some (25, true) }) (v := .agg A) rfl (by kernel_rfl) (by kernel_rfl) (by kernel_rfl) (fun _ _ _ h => h) (by rw [← HCa.out]; exact yieldsIf_load_mid (by rfl) _ _ rfl _ _ rfl _ _ (fun w hw => hw.2.1) hu hd ia) (by assumption) ?_
  simp only [Act.put, List.setIfInBounds_toArray, List.set_cons_zero, List.set_cons_succ]
  refine' wpAnyH_take (i := 27) (oi := { dst := some 52, op := Go.Op.load 28 (Go.Operand.tmp 2), type := 28, pos := "law.go:63", after := #[{ on := 25, ground := Go.Ground.guard }], guard := some (25, true) }) (v := .agg A) rfl (by kernel_rfl) (by kernel_rfl) (by kernel_rfl) (fun _ _ _ h => h) (by rw [← HCa.out]; exact yieldsIf_load_mid (by rfl) _ _ rfl _ _ rfl _ _ (fun w hw => hw.2.1) hu hd ia) (by assumption) ?_
  simp only [Act.put, List.setIfInBounds_toArray, List.set_cons_zero, List.set_cons_succ]
  refine wpAnyH_ready (rs := [28]) (by kernel_rfl) (by simp) ?_
  refine AllReadyH.cons rfl (fun K hK => ?_) AllReadyH.nil
  go_simp
  go_wp2_with (first | (go_at_call 14; (with_reducible refine (HSS.out _ HT5.out).mono ?_); rintro e q6 ⟨rfl, hT⟩; have HT6 : Hid (Turn [] W q6) := HT5.out.trans hT; clear hT) | fail)
  refine hK.out _ _ ?_ (fun hHeld => ?_)
  · exact HS.out _ HT6.out
  clear hK K
  try simp only [Act.put, List.setIfInBounds_toArray, List.set_cons_zero, List.set_cons_succ]
  refine' wpAnyH_take (i := 29) (oi := { dst := some 54, op := Go.Op.pick (Go.Operand.tmp 50) (Go.Operand.tmp 53) (Go.Operand.const (Go.Value.bool false)), type := 4, pos := "law.go:63", after := #[{ on := 25, ground := Go.Ground.data }, { on := 28, ground := Go.Ground.data }], guard := none }) (v := _) rfl (by kernel_rfl) (by kernel_rfl) (by kernel_rfl) (fun _ _ _ h => h) (Or.inl ⟨by rfl, ?_⟩) (by assumption) ?_
  rotate_left
  · intro w hSw; (try dsimp only at hSw); go_simp <;> with_reducible rfl
  simp only [Act.put, List.setIfInBounds_toArray, List.set_cons_zero, List.set_cons_succ]
  refine' wpAnyH_take (i := 30) (oi := { dst := some 4, op := Go.Op.assign (Go.Operand.tmp 54), type := 4, pos := "law.go:63", after := #[{ on := 29, ground := Go.Ground.data }, { on := 28, ground := Go.Ground.chain }, { on := 0, ground := Go.Ground.phase }, { on := 1, ground := Go.Ground.phase }, { on := 2, ground := Go.Ground.phase }, { on := 3, ground := Go.Ground.phase }, { on := 4, ground := Go.Ground.phase }, { on := 5, ground := Go.Ground.phase }, { on := 6, ground := Go.Ground.phase }, { on := 7, ground := Go.Ground.phase }, { on := 8, ground := Go.Ground.phase }, { on := 9, ground := Go.Ground.phase }, { on := 10, ground := Go.Ground.phase }, { on := 11, ground := Go.Ground.phase }, { on := 12, ground := Go.Ground.phase }, { on := 13, ground := Go.Ground.phase }, { on := 14, ground := Go.Ground.phase }, { on := 15, ground := Go.Ground.phase }, { on := 16, ground := Go.Ground.phase }, { on := 17, ground := Go.Ground.phase }, { on := 18, ground := Go.Ground.phase }, { on := 19, ground := Go.Ground.phase }, { on := 20, ground := Go.Ground.phase }, { on := 21, ground := Go.Ground.phase }, { on := 22, ground := Go.Ground.phase }, { on := 23, ground := Go.Ground.phase }, { on := 24, ground := Go.Ground.phase }, { on := 25, ground := Go.Ground.phase }, { on := 26, ground := Go.Ground.phase }, { on := 27, ground := Go.Ground.phase }, { on := 28, ground := Go.Ground.phase }, { on := 29, ground := Go.Ground.phase }], guard := none }) (v := _) rfl (by kernel_rfl) (by kernel_rfl) (by kernel_rfl) (fun _ _ _ h => h) (Or.inl ⟨by rfl, ?_⟩) (by assumption) ?_
  rotate_left
  · intro w hSw; (try dsimp only at hSw); go_simp <;> with_reducible rfl
  simp only [Act.put, List.setIfInBounds_toArray, List.set_cons_zero, List.set_cons_succ]
  refine wpAnyH_done (by kernel_rfl) ?_ _
  refine NoPanic.normal ?_
  exact HQ.out _ _ (by simp) HT6.out
end Go.Proofs.Ytghgkjollafeiaa
