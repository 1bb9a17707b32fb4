/-
  The reference's Account: rows that were begun; a region for an entry.
-/
import Derived.Test.YtghgkjollafeiaaRS
import Derived.Test.YtghgkjollafeiaaPlE
namespace Go.Proofs.Ytghgkjollafeiaa
open Go.RowKit

/-- A row was begun: nothing that there was has turned. -/
abbrev GrN (w w' : World) (v : Value) (l : List Nat) : Prop := Gr w w' (.slice none 0 0) v l
theorem GrN.blk {w w' : World} {v : Value} {l : List Nat} (h : GrN w w' v l) {x : Nat} (hx : x < w.heap.size) : w'.heap[x]? = w.heap[x]? := h.grown.block x hx (fun e => by cases e)
theorem GrN.off {w w' : World} {v : Value} {l : List Nat} (h : GrN w w' v l) {x : Nat} (hx : x < w.heap.size) : v.ownBlock ≠ some x := fun e => by
  rcases h.loc x e with h1 | h1
  · cases h1
  · omega
theorem GrN.drew {w w' : World} {v : Value} {l : List Nat} (h : GrN w w' v l) : GrN w w'.drew v l := ⟨h.own, ⟨h.grown.os, h.grown.tape, h.grown.output, h.grown.size, h.grown.block⟩, h.loc⟩
/-- The region of that number of the reference's Account. -/
noncomputable def reg11 (n : Nat) : Code := match Try.f11.body with
  | some c => (regOf n c).getD .skip
  | none => .skip

set_option maxRecDepth 100000 in
set_option maxHeartbeats 12800000 in
theorem reg29_any {w0 w : World} {g1 g2 g4 g5 g6 g7 g8 g9 g10 g11 g13 g14 g15 g16 g17 g18 g19 g20 g21 g22 g23 g24 g25 g26 g27 g28 g29 g30 g31 g32 g33 g34 g35 g36 g37 g38 g39 g40 g41 g42 g43 g44 g45 g46 g47 g48 g49 g50 g51 g52 g53 g54 g55 g56 g57 g58 g59 g60 g61 g62 g63 g64 g65 g66 g67 g68 g69 g70 g71 g72 g73 g74 g75 g76 g77 g78 g79 g80 g81 g82 g83 g84 g85 g86 g87 g88 g89 g90 g91 g92 g93 g94 g95 g96 g97 g98 g99 g100 g101 g102 g103 g104 g105 g106 g107 g108 g109 g110 g111 g112 g113 g114 g115 g116 g117 g118 g119 g120 g121 g122 g123 g124 g125 g126 g127 g128 g129 g130 g131 g132 g133 g134 g135 g136 g137 g138 g139 g140 g141 g142 g143 g144 g145 g146 g147 g148 g149 g150 g151 g152 g153 g154 g155 g156 g157 g158 g159 g160 g161 g162 g163 g164 g165 g166 g167 g168 g169 g170 g171 g172 g173 g174 g175 g176 g177 : Value} (L L2 : List Nat) (vb : Option Addr) (c rk ab ao j n k3 len : Nat) (eid l1 l2 l3 : Int) (nm : ByteArray) (s1 s2 s3 s4 s5 s6 s7 s8 : Int) (Q : Exit → Act → World → Prop)
    (hj : j < len) (hn : n ≤ 255) (hnm : nm.size ≤ 255) (hLl : L.length ≤ 500000000) (hz0 : rk < w0.heap.size) (hab0 : ab < w0.heap.size) (HG : Hid (GrN w0 w (.slice vb L.length c) L))
    (HS : Hid (∀ w' : World, w'.heap[rk]? = w0.heap[rk]? → w'.heap[ab]? = w0.heap[ab]? → w'.cell? ⟨rk, 19, none⟩ = some (.slice (some ⟨ab, ao, none⟩) len k3) ∧ w'.cell? ⟨ab, ao + j * 14, none⟩ = some (.int .i64 eid) ∧ w'.cell? ⟨ab, ao + j * 14 + 1, none⟩ = some (.int .i64 (n : Nat)) ∧ w'.cell? ⟨ab, ao + j * 14 + 2, none⟩ = some (.int .i64 l1) ∧ w'.cell? ⟨ab, ao + j * 14 + 3, none⟩ = some (.int .i64 l2) ∧ w'.cell? ⟨ab, ao + j * 14 + 4, none⟩ = some (.int .i64 l3) ∧ w'.cell? ⟨ab, ao + j * 14 + 5, none⟩ = some (.string nm) ∧ w'.cell? ⟨ab, ao + j * 14 + 6, none⟩ = some (.int .i64 s1) ∧ w'.cell? ⟨ab, ao + j * 14 + 7, none⟩ = some (.int .i64 s2) ∧ w'.cell? ⟨ab, ao + j * 14 + 8, none⟩ = some (.int .i64 s3) ∧ w'.cell? ⟨ab, ao + j * 14 + 9, none⟩ = some (.int .i64 s4) ∧ w'.cell? ⟨ab, ao + j * 14 + 10, none⟩ = some (.int .i64 s5) ∧ w'.cell? ⟨ab, ao + j * 14 + 11, none⟩ = some (.int .i64 s6) ∧ w'.cell? ⟨ab, ao + j * 14 + 12, none⟩ = some (.int .i64 s7) ∧ w'.cell? ⟨ab, ao + j * 14 + 13, none⟩ = some (.int .i64 s8)))
    (HL2 : Hid (L ++ be8 eid ++ ansBy n [l1, l2, l3] nm [s1, s2, s3, s4, s5, s6, s7, s8] = L2))
    (HQ : Hid (∀ (t162 t163 t164 t165 t166 t167 t168 t169 t170 t171 t172 t173 t174 t175 t176 : Value) (va : Option Addr) (vc : Nat) w', GrN w0 w' (.slice va L2.length vc) L2 → Q .normal ⟨#[.slice va L2.length vc, g1, g2, .pointer (some ⟨rk, 0, none⟩), g4, g5, g6, g7, g8, g9, g10, g11, .int .i64 (j : Nat), g13, g14, g15, g16, g17, g18, g19, g20, g21, g22, g23, g24, g25, g26, g27, g28, g29, g30, g31, g32, g33, g34, g35, g36, g37, g38, g39, g40, g41, g42, g43, g44, g45, g46, g47, g48, g49, g50, g51, g52, g53, g54, g55, g56, g57, g58, g59, g60, g61, g62, g63, g64, g65, g66, g67, g68, g69, g70, g71, g72, g73, g74, g75, g76, g77, g78, g79, g80, g81, g82, g83, g84, g85, g86, g87, g88, g89, g90, g91, g92, g93, g94, g95, g96, g97, g98, g99, g100, g101, g102, g103, g104, g105, g106, g107, g108, g109, g110, g111, g112, g113, g114, g115, g116, g117, g118, g119, g120, g121, g122, g123, g124, g125, g126, g127, g128, g129, g130, g131, g132, g133, g134, g135, g136, g137, g138, g139, g140, g141, g142, g143, g144, g145, g146, g147, g148, g149, g150, g151, g152, g153, g154, g155, g156, g157, g158, g159, g160, g161, t162, t163, t164, t165, t166, t167, t168, t169, t170, t171, t172, t173, t174, t175, t176, g177], []⟩ w')) :
    Code.wp Try.prog (reg11 29) Q ⟨#[.slice vb L.length c, g1, g2, .pointer (some ⟨rk, 0, none⟩), g4, g5, g6, g7, g8, g9, g10, g11, .int .i64 (j : Nat), g13, g14, g15, g16, g17, g18, g19, g20, g21, g22, g23, g24, g25, g26, g27, g28, g29, g30, g31, g32, g33, g34, g35, g36, g37, g38, g39, g40, g41, g42, g43, g44, g45, g46, g47, g48, g49, g50, g51, g52, g53, g54, g55, g56, g57, g58, g59, g60, g61, g62, g63, g64, g65, g66, g67, g68, g69, g70, g71, g72, g73, g74, g75, g76, g77, g78, g79, g80, g81, g82, g83, g84, g85, g86, g87, g88, g89, g90, g91, g92, g93, g94, g95, g96, g97, g98, g99, g100, g101, g102, g103, g104, g105, g106, g107, g108, g109, g110, g111, g112, g113, g114, g115, g116, g117, g118, g119, g120, g121, g122, g123, g124, g125, g126, g127, g128, g129, g130, g131, g132, g133, g134, g135, g136, g137, g138, g139, g140, g141, g142, g143, g144, g145, g146, g147, g148, g149, g150, g151, g152, g153, g154, g155, g156, g157, g158, g159, g160, g161, g162, g163, g164, g165, g166, g167, g168, g169, g170, g171, g172, g173, g174, g175, g176, g177], []⟩ w := by
  conv => arg 2; whnf
  dsimp only
  obtain ⟨L1, hL1⟩ : ∃ M, L ++ be8 eid = M := ⟨_, rfl⟩
  have hL1l : L1.length ≤ 500000008 := by rw [← hL1, List.length_append, be8_length]; omega
  have HLa : Hid (L1 ++ ansBy n [l1, l2, l3] nm [s1, s2, s3, s4, s5, s6, s7, s8] = L2) := by
    show _ = _
    rw [← hL1]
    exact HL2.out
  have HL1 := hide hL1
  clear hL1
  have HD0 := hide HG.out.drew
  refine wp_region_noPanic ?_
  refine wp_region_held_drew (S := fun w' => w'.cell? ⟨rk, 19, none⟩ = some (.slice (some ⟨ab, ao, none⟩) len k3) ∧ w'.cell? ⟨ab, ao + j * 14, none⟩ = some (.int .i64 eid) ∧ w'.cell? ⟨ab, ao + j * 14 + 1, none⟩ = some (.int .i64 (n : Nat)) ∧ w'.cell? ⟨ab, ao + j * 14 + 2, none⟩ = some (.int .i64 l1) ∧ w'.cell? ⟨ab, ao + j * 14 + 3, none⟩ = some (.int .i64 l2) ∧ w'.cell? ⟨ab, ao + j * 14 + 4, none⟩ = some (.int .i64 l3) ∧ w'.cell? ⟨ab, ao + j * 14 + 5, none⟩ = some (.string nm) ∧ w'.cell? ⟨ab, ao + j * 14 + 6, none⟩ = some (.int .i64 s1) ∧ w'.cell? ⟨ab, ao + j * 14 + 7, none⟩ = some (.int .i64 s2) ∧ w'.cell? ⟨ab, ao + j * 14 + 8, none⟩ = some (.int .i64 s3) ∧ w'.cell? ⟨ab, ao + j * 14 + 9, none⟩ = some (.int .i64 s4) ∧ w'.cell? ⟨ab, ao + j * 14 + 10, none⟩ = some (.int .i64 s5) ∧ w'.cell? ⟨ab, ao + j * 14 + 11, none⟩ = some (.int .i64 s6) ∧ w'.cell? ⟨ab, ao + j * 14 + 12, none⟩ = some (.int .i64 s7) ∧ w'.cell? ⟨ab, ao + j * 14 + 13, none⟩ = some (.int .i64 s8)) (by kernel_rfl) (HS.out _ (HG.out.blk hz0) (HG.out.blk hab0)) (fun hHeld => ?_)
  refine' wpAnyH_take (i := 0) (oi := { dst := some 162, op := Go.Op.move (Go.Operand.tmp 0), type := 31, pos := "ref.go:175", after := #[], guard := none }) (v := _) rfl (by kernel_rfl) (by kernel_rfl) (by kernel_rfl) (fun _ _ _ h => h) (Or.inl ⟨by rfl, ?_⟩) (by assumption) ?_
  rotate_left
  · intro w hSw; (try dsimp only at hSw); go_simp <;> with_reducible rfl
  simp only [Act.put, List.setIfInBounds_toArray, List.set_cons_zero, List.set_cons_succ]
  refine' wpAnyH_take (i := 1) (oi := { dst := some 163, op := Go.Op.fieldAddr 28 (Go.Operand.tmp 3) 10, type := 0, pos := "ref.go:175", after := #[], guard := none }) (v := _) rfl (by kernel_rfl) (by kernel_rfl) (by kernel_rfl) (fun _ _ _ h => h) (Or.inl ⟨by rfl, ?_⟩) (by assumption) ?_
  rotate_left
  · intro w hSw; (try dsimp only at hSw); go_simp <;> with_reducible rfl
  simp only [Act.put, List.setIfInBounds_toArray, List.set_cons_zero, List.set_cons_succ]
  refine' wpAnyH_take (i := 2) (oi := { dst := some 164, op := Go.Op.load 26 (Go.Operand.tmp 163), type := 26, pos := "ref.go:175", after := #[{ on := 1, ground := Go.Ground.data }], guard := none }) (v := _) rfl (by kernel_rfl) (by kernel_rfl) (by kernel_rfl) (fun _ _ _ h => h) (Or.inl ⟨by rfl, ?_⟩) (by assumption) ?_
  rotate_left
  · intro w hSw; (try dsimp only at hSw); go_simp <;> with_reducible rfl
  simp only [Act.put, List.setIfInBounds_toArray, List.set_cons_zero, List.set_cons_succ]
  refine' wpAnyH_take (i := 3) (oi := { dst := some 165, op := Go.Op.move (Go.Operand.tmp 12), type := 3, pos := "ref.go:175", after := #[], guard := none }) (v := _) rfl (by kernel_rfl) (by kernel_rfl) (by kernel_rfl) (fun _ _ _ h => h) (Or.inl ⟨by rfl, ?_⟩) (by assumption) ?_
  rotate_left
  · intro w hSw; (try dsimp only at hSw); go_simp <;> with_reducible rfl
  simp only [Act.put, List.setIfInBounds_toArray, List.set_cons_zero, List.set_cons_succ]
  refine' wpAnyH_take (i := 4) (oi := { dst := some 166, op := Go.Op.indexAddr 26 (Go.Operand.tmp 164) (Go.Operand.tmp 165), type := 0, pos := "ref.go:175", after := #[{ on := 2, ground := Go.Ground.data }, { on := 3, ground := Go.Ground.data }], guard := none }) (v := _) rfl (by kernel_rfl) (by kernel_rfl) (by kernel_rfl) (fun _ _ _ h => h) (Or.inl ⟨by rfl, ?_⟩) (by assumption) ?_
  rotate_left
  · intro w hSw; (try dsimp only at hSw); go_simp <;> with_reducible rfl
  simp only [Act.put, List.setIfInBounds_toArray, List.set_cons_zero, List.set_cons_succ]
  refine' wpAnyH_take (i := 5) (oi := { dst := some 167, op := Go.Op.fieldAddr 69 (Go.Operand.tmp 166) 0, type := 0, pos := "ref.go:175", after := #[{ on := 4, ground := Go.Ground.data }], guard := none }) (v := _) rfl (by kernel_rfl) (by kernel_rfl) (by kernel_rfl) (fun _ _ _ h => h) (Or.inl ⟨by rfl, ?_⟩) (by assumption) ?_
  rotate_left
  · intro w hSw; (try dsimp only at hSw); go_simp <;> with_reducible rfl
  simp only [Act.put, List.setIfInBounds_toArray, List.set_cons_zero, List.set_cons_succ]
  refine' wpAnyH_take (i := 6) (oi := { dst := some 168, op := Go.Op.load 3 (Go.Operand.tmp 167), type := 3, pos := "ref.go:175", after := #[{ on := 5, ground := Go.Ground.data }], guard := none }) (v := _) rfl (by kernel_rfl) (by kernel_rfl) (by kernel_rfl) (fun _ _ _ h => h) (Or.inl ⟨by rfl, ?_⟩) (by assumption) ?_
  rotate_left
  · intro w hSw; (try dsimp only at hSw); go_simp <;> with_reducible rfl
  simp only [Act.put, List.setIfInBounds_toArray, List.set_cons_zero, List.set_cons_succ]
  refine' wpAnyH_take (i := 8) (oi := { dst := some 170, op := Go.Op.fieldAddr 28 (Go.Operand.tmp 3) 10, type := 0, pos := "ref.go:175", after := #[], guard := none }) (v := _) rfl (by kernel_rfl) (by kernel_rfl) (by kernel_rfl) (fun _ _ _ h => h) (Or.inl ⟨by rfl, ?_⟩) (by assumption) ?_
  rotate_left
  · intro w hSw; (try dsimp only at hSw); go_simp <;> with_reducible rfl
  simp only [Act.put, List.setIfInBounds_toArray, List.set_cons_zero, List.set_cons_succ]
  refine' wpAnyH_take (i := 9) (oi := { dst := some 171, op := Go.Op.load 26 (Go.Operand.tmp 170), type := 26, pos := "ref.go:175", after := #[{ on := 8, ground := Go.Ground.data }], guard := none }) (v := _) rfl (by kernel_rfl) (by kernel_rfl) (by kernel_rfl) (fun _ _ _ h => h) (Or.inl ⟨by rfl, ?_⟩) (by assumption) ?_
  rotate_left
  · intro w hSw; (try dsimp only at hSw); go_simp <;> with_reducible rfl
  simp only [Act.put, List.setIfInBounds_toArray, List.set_cons_zero, List.set_cons_succ]
  refine' wpAnyH_take (i := 10) (oi := { dst := some 172, op := Go.Op.move (Go.Operand.tmp 12), type := 3, pos := "ref.go:175", after := #[], guard := none }) (v := _) rfl (by kernel_rfl) (by kernel_rfl) (by kernel_rfl) (fun _ _ _ h => h) (Or.inl ⟨by rfl, ?_⟩) (by assumption) ?_
  rotate_left
  · intro w hSw; (try dsimp only at hSw); go_simp <;> with_reducible rfl
  simp only [Act.put, List.setIfInBounds_toArray, List.set_cons_zero, List.set_cons_succ]
  refine' wpAnyH_take (i := 11) (oi := { dst := some 173, op := Go.Op.indexAddr 26 (Go.Operand.tmp 171) (Go.Operand.tmp 172), type := 0, pos := "ref.go:175", after := #[{ on := 9, ground := Go.Ground.data }, { on := 10, ground := Go.Ground.data }], guard := none }) (v := _) rfl (by kernel_rfl) (by kernel_rfl) (by kernel_rfl) (fun _ _ _ h => h) (Or.inl ⟨by rfl, ?_⟩) (by assumption) ?_
  rotate_left
  · intro w hSw; (try dsimp only at hSw); go_simp <;> with_reducible rfl
  simp only [Act.put, List.setIfInBounds_toArray, List.set_cons_zero, List.set_cons_succ]
  refine' wpAnyH_take (i := 12) (oi := { dst := some 174, op := Go.Op.fieldAddr 69 (Go.Operand.tmp 173) 1, type := 0, pos := "ref.go:175", after := #[{ on := 11, ground := Go.Ground.data }], guard := none }) (v := _) rfl (by kernel_rfl) (by kernel_rfl) (by kernel_rfl) (fun _ _ _ h => h) (Or.inl ⟨by rfl, ?_⟩) (by assumption) ?_
  rotate_left
  · intro w hSw; (try dsimp only at hSw); go_simp <;> with_reducible rfl
  simp only [Act.put, List.setIfInBounds_toArray, List.set_cons_zero, List.set_cons_succ]
  refine' wpAnyH_take (i := 13) (oi := { dst := some 175, op := Go.Op.load 67 (Go.Operand.tmp 174), type := 67, pos := "ref.go:175", after := #[{ on := 12, ground := Go.Ground.data }], guard := none }) (v := _) rfl (by kernel_rfl) (by kernel_rfl) (by kernel_rfl) (fun _ _ _ h => h) (Or.inl ⟨by rfl, ?_⟩) (by assumption) ?_
  rotate_left
  · intro w hSw; (try dsimp only at hSw); go_simp <;> with_reducible rfl
  simp only [Act.put, List.setIfInBounds_toArray, List.set_cons_zero, List.set_cons_succ]
  refine wpAnyH_ready (rs := [7]) (by kernel_rfl) (by simp) ?_
  refine AllReadyH.cons rfl (fun K hK => ?_) AllReadyH.nil
  go_simp
  go_wp2_with (first | (go_at_call 32; (with_reducible refine (rint _ L eid (by omega) HD0.out.own).mono ?_); rintro e' q1 ⟨u1, rfl, hG⟩; rw [HL1.out] at hG; obtain ⟨va1, vc1, rfl⟩ := own_form hG.own; have HQ1 := hide (show GrN w0 q1 _ L1 from HD0.out.trans hG); clear hG) | fail)
  
  refine hK.out _ _ ?_ (fun hHeld => ?_)
  · exact HS.out _ (HQ1.out.blk hz0) (HQ1.out.blk hab0)
  clear hK K
  try simp only [Act.put, List.setIfInBounds_toArray, List.set_cons_zero, List.set_cons_succ]
  refine wpAnyH_ready (rs := [14]) (by kernel_rfl) (by simp) ?_
  refine AllReadyH.cons rfl (fun K hK => ?_) AllReadyH.nil
  go_simp
  go_wp2_with (first | (go_at_call 33; (with_reducible refine (ranswer _ L1 n l1 l2 l3 nm s1 s2 s3 s4 s5 s6 s7 s8 hnm hn (by omega) HQ1.out.own).mono ?_); rintro e' q2 ⟨u2, rfl, hG⟩; rw [HLa.out] at hG; obtain ⟨va2, vc2, rfl⟩ := own_form hG.own; have HQ2 := hide (show GrN w0 q2 _ L2 from HQ1.out.trans hG); clear hG) | fail)
  
  refine hK.out _ _ ?_ (fun hHeld => ?_)
  · exact HS.out _ (HQ2.out.blk hz0) (HQ2.out.blk hab0)
  clear hK K
  try simp only [Act.put, List.setIfInBounds_toArray, List.set_cons_zero, List.set_cons_succ]
  refine' wpAnyH_take (i := 15) (oi := { dst := some 0, op := Go.Op.assign (Go.Operand.tmp 176), type := 31, pos := "ref.go:175", after := #[{ on := 14, ground := Go.Ground.data }, { on := 14, ground := Go.Ground.chain }, { on := 0, ground := Go.Ground.phase }, { on := 1, ground := Go.Ground.phase }, { on := 2, ground := Go.Ground.phase }, { on := 3, ground := Go.Ground.phase }, { on := 4, ground := Go.Ground.phase }, { on := 5, ground := Go.Ground.phase }, { on := 6, ground := Go.Ground.phase }, { on := 7, ground := Go.Ground.phase }, { on := 8, ground := Go.Ground.phase }, { on := 9, ground := Go.Ground.phase }, { on := 10, ground := Go.Ground.phase }, { on := 11, ground := Go.Ground.phase }, { on := 12, ground := Go.Ground.phase }, { on := 13, ground := Go.Ground.phase }, { on := 14, ground := Go.Ground.phase }], guard := none }) (v := _) rfl (by kernel_rfl) (by kernel_rfl) (by kernel_rfl) (fun _ _ _ h => h) (Or.inl ⟨by rfl, ?_⟩) (by assumption) ?_
  rotate_left
  · intro w hSw; (try dsimp only at hSw); go_simp <;> with_reducible rfl
  simp only [Act.put, List.setIfInBounds_toArray, List.set_cons_zero]
  refine wpAnyH_done (by kernel_rfl) ?_ _
  refine NoPanic.normal ?_
  exact HQ.out _ _ _ _ _ _ _ _ _ _ _ _ _ _ _ _ _ _ HQ2.out
end Go.Proofs.Ytghgkjollafeiaa

/-
  The reference's Account: the regions for a hold.
-/
namespace Go.Proofs.Ytghgkjollafeiaa
open Go.RowKit

theorem Gr.drew {u w : World} {x y : Value} {l : List Nat} (h : Gr u w x y l) : Gr u w.drew x y l := ⟨h.own, ⟨h.grown.os, h.grown.tape, h.grown.output, h.grown.size, h.grown.block⟩, h.loc⟩

set_option maxRecDepth 100000 in
set_option maxHeartbeats 12800000 in
theorem reg24_any {w : World} {g1 g2 g3 g4 g5 g6 g7 g8 g9 g11 g12 g13 g14 g15 g16 g17 g18 g19 g20 g21 g22 g23 g24 g25 g26 g27 g28 g29 g30 g31 g32 g33 g34 g35 g36 g37 g38 g39 g40 g41 g42 g43 g44 g45 g46 g47 g48 g49 g50 g51 g52 g53 g54 g55 g56 g57 g58 g59 g60 g61 g62 g63 g64 g65 g66 g67 g68 g69 g70 g71 g72 g73 g74 g75 g76 g77 g78 g79 g80 g81 g82 g83 g84 g85 g86 g87 g88 g89 g90 g91 g92 g93 g94 g95 g96 g97 g98 g99 g100 g101 g102 g103 g104 g105 g106 g107 g108 g109 g110 g111 g112 g113 g114 g115 g116 g117 g118 g119 g120 g121 g122 g123 g124 g125 g126 g127 g128 g129 g130 g131 g132 g133 g134 g135 g136 g137 g138 g139 g140 g141 g142 g143 g144 g145 g146 g147 g148 g149 g150 g151 g152 g153 g154 g155 g156 g157 g158 g159 g160 g161 g162 g163 g164 g165 g166 g167 g168 g169 g170 g171 g172 g173 g174 g175 g176 g177 : Value} (L L2 : List Nat) (vb : Option Addr) (c hb : Nat) (x y : Int) (Q : Exit → Act → World → Prop)
    (hLl : L.length ≤ 600000000) (hzhb : hb < w.heap.size) (hovhb : (Value.slice vb L.length c).ownBlock ≠ some hb) (HO : Hid (w.ownsRow 0 5 1 (.slice vb L.length c) L.length (L.map byteCell)))
    (HS : Hid (∀ w' : World, w'.heap[hb]? = w.heap[hb]? → w'.cell? ⟨hb, 2, none⟩ = some (.int .i64 x) ∧ w'.cell? ⟨hb, 3, none⟩ = some (.int .i64 y)))
    (HL2 : Hid (L ++ be8 x ++ be8 y = L2))
    (HQ : Hid (∀ (t141 t142 t143 t144 t145 t146 t147 : Value) (va : Option Addr) (vc : Nat) w', Gr w w' (.slice vb L.length c) (.slice va L2.length vc) L2 → Q .normal ⟨#[.slice va L2.length vc, g1, g2, g3, g4, g5, g6, g7, g8, g9, .pointer (some ⟨hb, 0, none⟩), g11, g12, g13, g14, g15, g16, g17, g18, g19, g20, g21, g22, g23, g24, g25, g26, g27, g28, g29, g30, g31, g32, g33, g34, g35, g36, g37, g38, g39, g40, g41, g42, g43, g44, g45, g46, g47, g48, g49, g50, g51, g52, g53, g54, g55, g56, g57, g58, g59, g60, g61, g62, g63, g64, g65, g66, g67, g68, g69, g70, g71, g72, g73, g74, g75, g76, g77, g78, g79, g80, g81, g82, g83, g84, g85, g86, g87, g88, g89, g90, g91, g92, g93, g94, g95, g96, g97, g98, g99, g100, g101, g102, g103, g104, g105, g106, g107, g108, g109, g110, g111, g112, g113, g114, g115, g116, g117, g118, g119, g120, g121, g122, g123, g124, g125, g126, g127, g128, g129, g130, g131, g132, g133, g134, g135, g136, g137, g138, g139, g140, t141, t142, t143, t144, t145, t146, t147, g148, g149, g150, g151, g152, g153, g154, g155, g156, g157, g158, g159, g160, g161, g162, g163, g164, g165, g166, g167, g168, g169, g170, g171, g172, g173, g174, g175, g176, g177], []⟩ w')) :
    Code.wp Try.prog (reg11 24) Q ⟨#[.slice vb L.length c, g1, g2, g3, g4, g5, g6, g7, g8, g9, .pointer (some ⟨hb, 0, none⟩), g11, g12, g13, g14, g15, g16, g17, g18, g19, g20, g21, g22, g23, g24, g25, g26, g27, g28, g29, g30, g31, g32, g33, g34, g35, g36, g37, g38, g39, g40, g41, g42, g43, g44, g45, g46, g47, g48, g49, g50, g51, g52, g53, g54, g55, g56, g57, g58, g59, g60, g61, g62, g63, g64, g65, g66, g67, g68, g69, g70, g71, g72, g73, g74, g75, g76, g77, g78, g79, g80, g81, g82, g83, g84, g85, g86, g87, g88, g89, g90, g91, g92, g93, g94, g95, g96, g97, g98, g99, g100, g101, g102, g103, g104, g105, g106, g107, g108, g109, g110, g111, g112, g113, g114, g115, g116, g117, g118, g119, g120, g121, g122, g123, g124, g125, g126, g127, g128, g129, g130, g131, g132, g133, g134, g135, g136, g137, g138, g139, g140, g141, g142, g143, g144, g145, g146, g147, g148, g149, g150, g151, g152, g153, g154, g155, g156, g157, g158, g159, g160, g161, g162, g163, g164, g165, g166, g167, g168, g169, g170, g171, g172, g173, g174, g175, g176, g177], []⟩ w := by
  conv => arg 2; whnf
  dsimp only
  obtain ⟨L1, hL1⟩ : ∃ M, L ++ be8 x = M := ⟨_, rfl⟩
  have hL1l : L1.length ≤ 600000008 := by rw [← hL1, List.length_append, be8_length]; omega
  have HLa : Hid (L1 ++ be8 y = L2) := by
    show _ = _
    rw [← hL1]
    exact HL2.out
  have HL1 := hide hL1
  clear hL1
  have HD0 := hide (Gr.refl HO.out).drew
  refine wp_region_noPanic ?_
  refine wp_region_held_drew (S := fun w' => w'.cell? ⟨hb, 2, none⟩ = some (.int .i64 x) ∧ w'.cell? ⟨hb, 3, none⟩ = some (.int .i64 y)) (by kernel_rfl) (HS.out _ rfl) (fun hHeld => ?_)
  refine' wpAnyH_take (i := 0) (oi := { dst := some 141, op := Go.Op.move (Go.Operand.tmp 0), type := 31, pos := "ref.go:171", after := #[], guard := none }) (v := _) rfl (by kernel_rfl) (by kernel_rfl) (by kernel_rfl) (fun _ _ _ h => h) (Or.inl ⟨by rfl, ?_⟩) (by assumption) ?_
  rotate_left
  · intro w hSw; (try dsimp only at hSw); go_simp <;> with_reducible rfl
  simp only [Act.put, List.setIfInBounds_toArray, List.set_cons_zero, List.set_cons_succ]
  refine' wpAnyH_take (i := 1) (oi := { dst := some 142, op := Go.Op.fieldAddr 65 (Go.Operand.tmp 10) 2, type := 0, pos := "ref.go:171", after := #[], guard := none }) (v := _) rfl (by kernel_rfl) (by kernel_rfl) (by kernel_rfl) (fun _ _ _ h => h) (Or.inl ⟨by rfl, ?_⟩) (by assumption) ?_
  rotate_left
  · intro w hSw; (try dsimp only at hSw); go_simp <;> with_reducible rfl
  simp only [Act.put, List.setIfInBounds_toArray, List.set_cons_zero, List.set_cons_succ]
  refine' wpAnyH_take (i := 2) (oi := { dst := some 143, op := Go.Op.load 3 (Go.Operand.tmp 142), type := 3, pos := "ref.go:171", after := #[{ on := 1, ground := Go.Ground.data }], guard := none }) (v := _) rfl (by kernel_rfl) (by kernel_rfl) (by kernel_rfl) (fun _ _ _ h => h) (Or.inl ⟨by rfl, ?_⟩) (by assumption) ?_
  rotate_left
  · intro w hSw; (try dsimp only at hSw); go_simp <;> with_reducible rfl
  simp only [Act.put, List.setIfInBounds_toArray, List.set_cons_zero, List.set_cons_succ]
  refine' wpAnyH_take (i := 4) (oi := { dst := some 145, op := Go.Op.fieldAddr 65 (Go.Operand.tmp 10) 3, type := 0, pos := "ref.go:171", after := #[], guard := none }) (v := _) rfl (by kernel_rfl) (by kernel_rfl) (by kernel_rfl) (fun _ _ _ h => h) (Or.inl ⟨by rfl, ?_⟩) (by assumption) ?_
  rotate_left
  · intro w hSw; (try dsimp only at hSw); go_simp <;> with_reducible rfl
  simp only [Act.put, List.setIfInBounds_toArray, List.set_cons_zero, List.set_cons_succ]
  refine' wpAnyH_take (i := 5) (oi := { dst := some 146, op := Go.Op.load 3 (Go.Operand.tmp 145), type := 3, pos := "ref.go:171", after := #[{ on := 4, ground := Go.Ground.data }], guard := none }) (v := _) rfl (by kernel_rfl) (by kernel_rfl) (by kernel_rfl) (fun _ _ _ h => h) (Or.inl ⟨by rfl, ?_⟩) (by assumption) ?_
  rotate_left
  · intro w hSw; (try dsimp only at hSw); go_simp <;> with_reducible rfl
  simp only [Act.put, List.setIfInBounds_toArray, List.set_cons_zero, List.set_cons_succ]
  refine wpAnyH_ready (rs := [3]) (by kernel_rfl) (by simp) ?_
  refine AllReadyH.cons rfl (fun K hK => ?_) AllReadyH.nil
  go_simp
  go_wp2_with (first | (go_at_call 32; (with_reducible refine (rint _ L x (by omega) HD0.out.own).mono ?_); rintro e' q1 ⟨u1, rfl, hG⟩; rw [HL1.out] at hG; obtain ⟨va1, vc1, rfl⟩ := own_form hG.own; have HQ1 := hide (HD0.out.trans hG); clear hG) | fail)
  refine hK.out _ _ ?_ (fun hHeld => ?_)
  · exact HS.out _ (HQ1.out.other hzhb hovhb)
  clear hK K
  try simp only [Act.put, List.setIfInBounds_toArray, List.set_cons_zero, List.set_cons_succ]
  refine wpAnyH_ready (rs := [6]) (by kernel_rfl) (by simp) ?_
  refine AllReadyH.cons rfl (fun K hK => ?_) AllReadyH.nil
  go_simp
  go_wp2_with (first | (go_at_call 32; (with_reducible refine (rint _ L1 y (by omega) HQ1.out.own).mono ?_); rintro e' q2 ⟨u2, rfl, hG⟩; rw [HLa.out] at hG; obtain ⟨va2, vc2, rfl⟩ := own_form hG.own; have HQ2 := hide (HQ1.out.trans hG); clear hG) | fail)
  refine hK.out _ _ ?_ (fun hHeld => ?_)
  · exact HS.out _ (HQ2.out.other hzhb hovhb)
  clear hK K
  try simp only [Act.put, List.setIfInBounds_toArray, List.set_cons_zero, List.set_cons_succ]
  refine' wpAnyH_take (i := 7) (oi := { dst := some 0, op := Go.Op.assign (Go.Operand.tmp 147), type := 31, pos := "ref.go:171", after := #[{ on := 6, ground := Go.Ground.data }, { on := 6, ground := Go.Ground.chain }, { on := 0, ground := Go.Ground.phase }, { on := 1, ground := Go.Ground.phase }, { on := 2, ground := Go.Ground.phase }, { on := 3, ground := Go.Ground.phase }, { on := 4, ground := Go.Ground.phase }, { on := 5, ground := Go.Ground.phase }, { on := 6, ground := Go.Ground.phase }], guard := none }) (v := _) rfl (by kernel_rfl) (by kernel_rfl) (by kernel_rfl) (fun _ _ _ h => h) (Or.inl ⟨by rfl, ?_⟩) (by assumption) ?_
  rotate_left
  · intro w hSw; (try dsimp only at hSw); go_simp <;> with_reducible rfl
  simp only [Act.put, List.setIfInBounds_toArray, List.set_cons_zero]
  refine wpAnyH_done (by kernel_rfl) ?_ _
  refine NoPanic.normal ?_
  exact HQ.out _ _ _ _ _ _ _ _ _ _ HQ2.out

set_option maxRecDepth 100000 in
set_option maxHeartbeats 12800000 in
theorem reg23_any {w : World} {g1 g2 g3 g4 g5 g6 g7 g8 g9 g12 g13 g14 g15 g16 g17 g18 g19 g20 g21 g22 g23 g24 g25 g26 g27 g28 g29 g30 g31 g32 g33 g34 g35 g36 g37 g38 g39 g40 g41 g42 g43 g44 g45 g46 g47 g48 g49 g50 g51 g52 g53 g54 g55 g56 g57 g58 g59 g60 g61 g62 g63 g64 g65 g66 g67 g68 g69 g70 g71 g72 g73 g74 g75 g76 g77 g78 g79 g80 g81 g82 g83 g84 g85 g86 g87 g88 g89 g90 g91 g92 g93 g94 g95 g96 g97 g98 g99 g100 g101 g102 g103 g104 g105 g106 g107 g108 g109 g110 g111 g112 g113 g114 g115 g116 g117 g118 g119 g120 g121 g122 g123 g124 g125 g126 g127 g128 g129 g130 g131 g132 g133 g134 g135 g136 g137 g138 g139 g140 g141 g142 g143 g144 g145 g146 g147 g148 g149 g150 g151 g152 g153 g154 g155 g156 g157 g158 g159 g160 g161 g162 g163 g164 g165 g166 g167 g168 g169 g170 g171 g172 g173 g174 g175 g176 g177 : Value} (L L2 : List Nat) (vb : Option Addr) (c hb pb po k m kp : Nat) (x y : Int) (Q : Exit → Act → World → Prop)
    (hLl : L.length ≤ 600000000) (hzhb : hb < w.heap.size) (hovhb : (Value.slice vb L.length c).ownBlock ≠ some hb) (hzpb : pb < w.heap.size) (hovpb : (Value.slice vb L.length c).ownBlock ≠ some pb) (HO : Hid (w.ownsRow 0 5 1 (.slice vb L.length c) L.length (L.map byteCell)))
    (HS : Hid (∀ w' : World, w'.heap[hb]? = w.heap[hb]? → w'.heap[pb]? = w.heap[pb]? → w'.cell? ⟨hb, 1, none⟩ = some (.slice (some ⟨pb, po, none⟩) m kp) ∧ w'.cell? ⟨pb, po + k * 2, none⟩ = some (.int .i64 x) ∧ w'.cell? ⟨pb, po + k * 2 + 1, none⟩ = some (.int .i64 y)))
    (HL2 : Hid (L ++ be8 x ++ be8 y = L2)) (hk : k < m)
    (HQ : Hid (∀ (t126 t127 t128 t129 t130 t131 t132 t133 t134 t135 t136 t137 t138 t139 t140 : Value) (va : Option Addr) (vc : Nat) w', Gr w w' (.slice vb L.length c) (.slice va L2.length vc) L2 → Q .normal ⟨#[.slice va L2.length vc, g1, g2, g3, g4, g5, g6, g7, g8, g9, .pointer (some ⟨hb, 0, none⟩), .int .i64 (k : Nat), g12, g13, g14, g15, g16, g17, g18, g19, g20, g21, g22, g23, g24, g25, g26, g27, g28, g29, g30, g31, g32, g33, g34, g35, g36, g37, g38, g39, g40, g41, g42, g43, g44, g45, g46, g47, g48, g49, g50, g51, g52, g53, g54, g55, g56, g57, g58, g59, g60, g61, g62, g63, g64, g65, g66, g67, g68, g69, g70, g71, g72, g73, g74, g75, g76, g77, g78, g79, g80, g81, g82, g83, g84, g85, g86, g87, g88, g89, g90, g91, g92, g93, g94, g95, g96, g97, g98, g99, g100, g101, g102, g103, g104, g105, g106, g107, g108, g109, g110, g111, g112, g113, g114, g115, g116, g117, g118, g119, g120, g121, g122, g123, g124, g125, t126, t127, t128, t129, t130, t131, t132, t133, t134, t135, t136, t137, t138, t139, t140, g141, g142, g143, g144, g145, g146, g147, g148, g149, g150, g151, g152, g153, g154, g155, g156, g157, g158, g159, g160, g161, g162, g163, g164, g165, g166, g167, g168, g169, g170, g171, g172, g173, g174, g175, g176, g177], []⟩ w')) :
    Code.wp Try.prog (reg11 23) Q ⟨#[.slice vb L.length c, g1, g2, g3, g4, g5, g6, g7, g8, g9, .pointer (some ⟨hb, 0, none⟩), .int .i64 (k : Nat), g12, g13, g14, g15, g16, g17, g18, g19, g20, g21, g22, g23, g24, g25, g26, g27, g28, g29, g30, g31, g32, g33, g34, g35, g36, g37, g38, g39, g40, g41, g42, g43, g44, g45, g46, g47, g48, g49, g50, g51, g52, g53, g54, g55, g56, g57, g58, g59, g60, g61, g62, g63, g64, g65, g66, g67, g68, g69, g70, g71, g72, g73, g74, g75, g76, g77, g78, g79, g80, g81, g82, g83, g84, g85, g86, g87, g88, g89, g90, g91, g92, g93, g94, g95, g96, g97, g98, g99, g100, g101, g102, g103, g104, g105, g106, g107, g108, g109, g110, g111, g112, g113, g114, g115, g116, g117, g118, g119, g120, g121, g122, g123, g124, g125, g126, g127, g128, g129, g130, g131, g132, g133, g134, g135, g136, g137, g138, g139, g140, g141, g142, g143, g144, g145, g146, g147, g148, g149, g150, g151, g152, g153, g154, g155, g156, g157, g158, g159, g160, g161, g162, g163, g164, g165, g166, g167, g168, g169, g170, g171, g172, g173, g174, g175, g176, g177], []⟩ w := by
  conv => arg 2; whnf
  dsimp only
  obtain ⟨L1, hL1⟩ : ∃ M, L ++ be8 x = M := ⟨_, rfl⟩
  have hL1l : L1.length ≤ 600000008 := by rw [← hL1, List.length_append, be8_length]; omega
  have HLa : Hid (L1 ++ be8 y = L2) := by
    show _ = _
    rw [← hL1]
    exact HL2.out
  have HL1 := hide hL1
  clear hL1
  have HD0 := hide (Gr.refl HO.out).drew
  refine wp_region_noPanic ?_
  refine wp_region_held_drew (S := fun w' => w'.cell? ⟨hb, 1, none⟩ = some (.slice (some ⟨pb, po, none⟩) m kp) ∧ w'.cell? ⟨pb, po + k * 2, none⟩ = some (.int .i64 x) ∧ w'.cell? ⟨pb, po + k * 2 + 1, none⟩ = some (.int .i64 y)) (by kernel_rfl) (HS.out _ rfl rfl) (fun hHeld => ?_)
  refine' wpAnyH_take (i := 0) (oi := { dst := some 126, op := Go.Op.move (Go.Operand.tmp 0), type := 31, pos := "ref.go:169", after := #[], guard := none }) (v := _) rfl (by kernel_rfl) (by kernel_rfl) (by kernel_rfl) (fun _ _ _ h => h) (Or.inl ⟨by rfl, ?_⟩) (by assumption) ?_
  rotate_left
  · intro w hSw; (try dsimp only at hSw); go_simp <;> with_reducible rfl
  simp only [Act.put, List.setIfInBounds_toArray, List.set_cons_zero, List.set_cons_succ]
  refine' wpAnyH_take (i := 1) (oi := { dst := some 127, op := Go.Op.fieldAddr 65 (Go.Operand.tmp 10) 1, type := 0, pos := "ref.go:169", after := #[], guard := none }) (v := _) rfl (by kernel_rfl) (by kernel_rfl) (by kernel_rfl) (fun _ _ _ h => h) (Or.inl ⟨by rfl, ?_⟩) (by assumption) ?_
  rotate_left
  · intro w hSw; (try dsimp only at hSw); go_simp <;> with_reducible rfl
  simp only [Act.put, List.setIfInBounds_toArray, List.set_cons_zero, List.set_cons_succ]
  refine' wpAnyH_take (i := 2) (oi := { dst := some 128, op := Go.Op.load 63 (Go.Operand.tmp 127), type := 63, pos := "ref.go:169", after := #[{ on := 1, ground := Go.Ground.data }], guard := none }) (v := _) rfl (by kernel_rfl) (by kernel_rfl) (by kernel_rfl) (fun _ _ _ h => h) (Or.inl ⟨by rfl, ?_⟩) (by assumption) ?_
  rotate_left
  · intro w hSw; (try dsimp only at hSw); go_simp <;> with_reducible rfl
  simp only [Act.put, List.setIfInBounds_toArray, List.set_cons_zero, List.set_cons_succ]
  refine' wpAnyH_take (i := 3) (oi := { dst := some 129, op := Go.Op.move (Go.Operand.tmp 11), type := 3, pos := "ref.go:169", after := #[], guard := none }) (v := _) rfl (by kernel_rfl) (by kernel_rfl) (by kernel_rfl) (fun _ _ _ h => h) (Or.inl ⟨by rfl, ?_⟩) (by assumption) ?_
  rotate_left
  · intro w hSw; (try dsimp only at hSw); go_simp <;> with_reducible rfl
  simp only [Act.put, List.setIfInBounds_toArray, List.set_cons_zero, List.set_cons_succ]
  refine' wpAnyH_take (i := 4) (oi := { dst := some 130, op := Go.Op.indexAddr 63 (Go.Operand.tmp 128) (Go.Operand.tmp 129), type := 0, pos := "ref.go:169", after := #[{ on := 2, ground := Go.Ground.data }, { on := 3, ground := Go.Ground.data }], guard := none }) (v := _) rfl (by kernel_rfl) (by kernel_rfl) (by kernel_rfl) (fun _ _ _ h => h) (Or.inl ⟨by rfl, ?_⟩) (by assumption) ?_
  rotate_left
  · intro w hSw; (try dsimp only at hSw); go_simp <;> with_reducible rfl
  simp only [Act.put, List.setIfInBounds_toArray, List.set_cons_zero, List.set_cons_succ]
  refine' wpAnyH_take (i := 5) (oi := { dst := some 131, op := Go.Op.fieldAddr 84 (Go.Operand.tmp 130) 0, type := 0, pos := "ref.go:169", after := #[{ on := 4, ground := Go.Ground.data }], guard := none }) (v := _) rfl (by kernel_rfl) (by kernel_rfl) (by kernel_rfl) (fun _ _ _ h => h) (Or.inl ⟨by rfl, ?_⟩) (by assumption) ?_
  rotate_left
  · intro w hSw; (try dsimp only at hSw); go_simp <;> with_reducible rfl
  simp only [Act.put, List.setIfInBounds_toArray, List.set_cons_zero, List.set_cons_succ]
  refine' wpAnyH_take (i := 6) (oi := { dst := some 132, op := Go.Op.load 3 (Go.Operand.tmp 131), type := 3, pos := "ref.go:169", after := #[{ on := 5, ground := Go.Ground.data }], guard := none }) (v := _) rfl (by kernel_rfl) (by kernel_rfl) (by kernel_rfl) (fun _ _ _ h => h) (Or.inl ⟨by rfl, ?_⟩) (by assumption) ?_
  rotate_left
  · intro w hSw; (try dsimp only at hSw); go_simp <;> with_reducible rfl
  simp only [Act.put, List.setIfInBounds_toArray, List.set_cons_zero, List.set_cons_succ]
  refine' wpAnyH_take (i := 8) (oi := { dst := some 134, op := Go.Op.fieldAddr 65 (Go.Operand.tmp 10) 1, type := 0, pos := "ref.go:169", after := #[], guard := none }) (v := _) rfl (by kernel_rfl) (by kernel_rfl) (by kernel_rfl) (fun _ _ _ h => h) (Or.inl ⟨by rfl, ?_⟩) (by assumption) ?_
  rotate_left
  · intro w hSw; (try dsimp only at hSw); go_simp <;> with_reducible rfl
  simp only [Act.put, List.setIfInBounds_toArray, List.set_cons_zero, List.set_cons_succ]
  refine' wpAnyH_take (i := 9) (oi := { dst := some 135, op := Go.Op.load 63 (Go.Operand.tmp 134), type := 63, pos := "ref.go:169", after := #[{ on := 8, ground := Go.Ground.data }], guard := none }) (v := _) rfl (by kernel_rfl) (by kernel_rfl) (by kernel_rfl) (fun _ _ _ h => h) (Or.inl ⟨by rfl, ?_⟩) (by assumption) ?_
  rotate_left
  · intro w hSw; (try dsimp only at hSw); go_simp <;> with_reducible rfl
  simp only [Act.put, List.setIfInBounds_toArray, List.set_cons_zero, List.set_cons_succ]
  refine' wpAnyH_take (i := 10) (oi := { dst := some 136, op := Go.Op.move (Go.Operand.tmp 11), type := 3, pos := "ref.go:169", after := #[], guard := none }) (v := _) rfl (by kernel_rfl) (by kernel_rfl) (by kernel_rfl) (fun _ _ _ h => h) (Or.inl ⟨by rfl, ?_⟩) (by assumption) ?_
  rotate_left
  · intro w hSw; (try dsimp only at hSw); go_simp <;> with_reducible rfl
  simp only [Act.put, List.setIfInBounds_toArray, List.set_cons_zero, List.set_cons_succ]
  refine' wpAnyH_take (i := 11) (oi := { dst := some 137, op := Go.Op.indexAddr 63 (Go.Operand.tmp 135) (Go.Operand.tmp 136), type := 0, pos := "ref.go:169", after := #[{ on := 9, ground := Go.Ground.data }, { on := 10, ground := Go.Ground.data }], guard := none }) (v := _) rfl (by kernel_rfl) (by kernel_rfl) (by kernel_rfl) (fun _ _ _ h => h) (Or.inl ⟨by rfl, ?_⟩) (by assumption) ?_
  rotate_left
  · intro w hSw; (try dsimp only at hSw); go_simp <;> with_reducible rfl
  simp only [Act.put, List.setIfInBounds_toArray, List.set_cons_zero, List.set_cons_succ]
  refine' wpAnyH_take (i := 12) (oi := { dst := some 138, op := Go.Op.fieldAddr 84 (Go.Operand.tmp 137) 1, type := 0, pos := "ref.go:169", after := #[{ on := 11, ground := Go.Ground.data }], guard := none }) (v := _) rfl (by kernel_rfl) (by kernel_rfl) (by kernel_rfl) (fun _ _ _ h => h) (Or.inl ⟨by rfl, ?_⟩) (by assumption) ?_
  rotate_left
  · intro w hSw; (try dsimp only at hSw); go_simp <;> with_reducible rfl
  simp only [Act.put, List.setIfInBounds_toArray, List.set_cons_zero, List.set_cons_succ]
  refine' wpAnyH_take (i := 13) (oi := { dst := some 139, op := Go.Op.load 3 (Go.Operand.tmp 138), type := 3, pos := "ref.go:169", after := #[{ on := 12, ground := Go.Ground.data }], guard := none }) (v := _) rfl (by kernel_rfl) (by kernel_rfl) (by kernel_rfl) (fun _ _ _ h => h) (Or.inl ⟨by rfl, ?_⟩) (by assumption) ?_
  rotate_left
  · intro w hSw; (try dsimp only at hSw); go_simp <;> with_reducible rfl
  simp only [Act.put, List.setIfInBounds_toArray, List.set_cons_zero, List.set_cons_succ]
  refine wpAnyH_ready (rs := [7]) (by kernel_rfl) (by simp) ?_
  refine AllReadyH.cons rfl (fun K hK => ?_) AllReadyH.nil
  go_simp
  go_wp2_with (first | (go_at_call 32; (with_reducible refine (rint _ L x (by omega) HD0.out.own).mono ?_); rintro e' q1 ⟨u1, rfl, hG⟩; rw [HL1.out] at hG; obtain ⟨va1, vc1, rfl⟩ := own_form hG.own; have HQ1 := hide (HD0.out.trans hG); clear hG) | fail)
  refine hK.out _ _ ?_ (fun hHeld => ?_)
  · exact HS.out _ (HQ1.out.other hzhb hovhb) (HQ1.out.other hzpb hovpb)
  clear hK K
  try simp only [Act.put, List.setIfInBounds_toArray, List.set_cons_zero, List.set_cons_succ]
  refine wpAnyH_ready (rs := [14]) (by kernel_rfl) (by simp) ?_
  refine AllReadyH.cons rfl (fun K hK => ?_) AllReadyH.nil
  go_simp
  go_wp2_with (first | (go_at_call 32; (with_reducible refine (rint _ L1 y (by omega) HQ1.out.own).mono ?_); rintro e' q2 ⟨u2, rfl, hG⟩; rw [HLa.out] at hG; obtain ⟨va2, vc2, rfl⟩ := own_form hG.own; have HQ2 := hide (HQ1.out.trans hG); clear hG) | fail)
  refine hK.out _ _ ?_ (fun hHeld => ?_)
  · exact HS.out _ (HQ2.out.other hzhb hovhb) (HQ2.out.other hzpb hovpb)
  clear hK K
  try simp only [Act.put, List.setIfInBounds_toArray, List.set_cons_zero, List.set_cons_succ]
  refine' wpAnyH_take (i := 15) (oi := { dst := some 0, op := Go.Op.assign (Go.Operand.tmp 140), type := 31, pos := "ref.go:169", after := #[{ on := 14, ground := Go.Ground.data }, { on := 14, ground := Go.Ground.chain }, { on := 0, ground := Go.Ground.phase }, { on := 1, ground := Go.Ground.phase }, { on := 2, ground := Go.Ground.phase }, { on := 3, ground := Go.Ground.phase }, { on := 4, ground := Go.Ground.phase }, { on := 5, ground := Go.Ground.phase }, { on := 6, ground := Go.Ground.phase }, { on := 7, ground := Go.Ground.phase }, { on := 8, ground := Go.Ground.phase }, { on := 9, ground := Go.Ground.phase }, { on := 10, ground := Go.Ground.phase }, { on := 11, ground := Go.Ground.phase }, { on := 12, ground := Go.Ground.phase }, { on := 13, ground := Go.Ground.phase }, { on := 14, ground := Go.Ground.phase }], guard := none }) (v := _) rfl (by kernel_rfl) (by kernel_rfl) (by kernel_rfl) (fun _ _ _ h => h) (Or.inl ⟨by rfl, ?_⟩) (by assumption) ?_
  rotate_left
  · intro w hSw; (try dsimp only at hSw); go_simp <;> with_reducible rfl
  simp only [Act.put, List.setIfInBounds_toArray, List.set_cons_zero]
  refine wpAnyH_done (by kernel_rfl) ?_ _
  refine NoPanic.normal ?_
  exact HQ.out _ _ _ _ _ _ _ _ _ _ _ _ _ _ _ _ _ _ HQ2.out

set_option maxRecDepth 100000 in
set_option maxHeartbeats 12800000 in
theorem reg19_any {w : World} {g1 g2 g3 g4 g5 g6 g7 g8 g9 g11 g12 g13 g14 g15 g16 g17 g18 g19 g20 g21 g22 g23 g24 g25 g26 g27 g28 g29 g30 g31 g32 g33 g34 g35 g36 g37 g38 g39 g40 g41 g42 g43 g44 g45 g46 g47 g48 g49 g50 g51 g52 g53 g54 g55 g56 g57 g58 g59 g60 g61 g62 g63 g64 g65 g66 g67 g68 g69 g70 g71 g72 g73 g74 g75 g76 g77 g78 g79 g80 g81 g82 g83 g84 g85 g86 g87 g88 g89 g90 g91 g92 g93 g94 g95 g96 g97 g98 g99 g100 g101 g102 g103 g104 g105 g106 g107 g108 g109 g110 g111 g112 g113 g114 g115 g116 g117 g118 g119 g120 g121 g122 g123 g124 g125 g126 g127 g128 g129 g130 g131 g132 g133 g134 g135 g136 g137 g138 g139 g140 g141 g142 g143 g144 g145 g146 g147 g148 g149 g150 g151 g152 g153 g154 g155 g156 g157 g158 g159 g160 g161 g162 g163 g164 g165 g166 g167 g168 g169 g170 g171 g172 g173 g174 g175 g176 g177 : Value} (L L2 : List Nat) (vb : Option Addr) (c hb m kp : Nat) (pa : Option Addr) (x : Int) (Q : Exit → Act → World → Prop)
    (hLl : L.length ≤ 600000000) (hzhb : hb < w.heap.size) (hovhb : (Value.slice vb L.length c).ownBlock ≠ some hb) (HO : Hid (w.ownsRow 0 5 1 (.slice vb L.length c) L.length (L.map byteCell)))
    (HS : Hid (∀ w' : World, w'.heap[hb]? = w.heap[hb]? → w'.cell? ⟨hb, 0, none⟩ = some (.int .i64 x) ∧ w'.cell? ⟨hb, 1, none⟩ = some (.slice pa m kp)))
    (HL2 : Hid (L ++ be8 x ++ [m] = L2)) (hm : m ≤ 255)
    (HQ : Hid (∀ (t109 t110 t111 t112 t113 t114 t115 t116 t117 t118 : Value) (va : Option Addr) (vc : Nat) w', Gr w w' (.slice vb L.length c) (.slice va L2.length vc) L2 → Q .normal ⟨#[.slice va L2.length vc, g1, g2, g3, g4, g5, g6, g7, g8, g9, .pointer (some ⟨hb, 0, none⟩), g11, g12, g13, g14, g15, g16, g17, g18, g19, g20, g21, g22, g23, g24, g25, g26, g27, g28, g29, g30, g31, g32, g33, g34, g35, g36, g37, g38, g39, g40, g41, g42, g43, g44, g45, g46, g47, g48, g49, g50, g51, g52, g53, g54, g55, g56, g57, g58, g59, g60, g61, g62, g63, g64, g65, g66, g67, g68, g69, g70, g71, g72, g73, g74, g75, g76, g77, g78, g79, g80, g81, g82, g83, g84, g85, g86, g87, g88, g89, g90, g91, g92, g93, g94, g95, g96, g97, g98, g99, g100, g101, g102, g103, g104, g105, g106, g107, g108, t109, t110, t111, t112, t113, t114, t115, t116, t117, t118, g119, g120, g121, g122, g123, g124, g125, g126, g127, g128, g129, g130, g131, g132, g133, g134, g135, g136, g137, g138, g139, g140, g141, g142, g143, g144, g145, g146, g147, g148, g149, g150, g151, g152, g153, g154, g155, g156, g157, g158, g159, g160, g161, g162, g163, g164, g165, g166, g167, g168, g169, g170, g171, g172, g173, g174, g175, g176, g177], []⟩ w')) :
    Code.wp Try.prog (reg11 19) Q ⟨#[.slice vb L.length c, g1, g2, g3, g4, g5, g6, g7, g8, g9, .pointer (some ⟨hb, 0, none⟩), g11, g12, g13, g14, g15, g16, g17, g18, g19, g20, g21, g22, g23, g24, g25, g26, g27, g28, g29, g30, g31, g32, g33, g34, g35, g36, g37, g38, g39, g40, g41, g42, g43, g44, g45, g46, g47, g48, g49, g50, g51, g52, g53, g54, g55, g56, g57, g58, g59, g60, g61, g62, g63, g64, g65, g66, g67, g68, g69, g70, g71, g72, g73, g74, g75, g76, g77, g78, g79, g80, g81, g82, g83, g84, g85, g86, g87, g88, g89, g90, g91, g92, g93, g94, g95, g96, g97, g98, g99, g100, g101, g102, g103, g104, g105, g106, g107, g108, g109, g110, g111, g112, g113, g114, g115, g116, g117, g118, g119, g120, g121, g122, g123, g124, g125, g126, g127, g128, g129, g130, g131, g132, g133, g134, g135, g136, g137, g138, g139, g140, g141, g142, g143, g144, g145, g146, g147, g148, g149, g150, g151, g152, g153, g154, g155, g156, g157, g158, g159, g160, g161, g162, g163, g164, g165, g166, g167, g168, g169, g170, g171, g172, g173, g174, g175, g176, g177], []⟩ w := by
  conv => arg 2; whnf
  dsimp only
  obtain ⟨L1, hL1⟩ : ∃ M, L ++ be8 x = M := ⟨_, rfl⟩
  have hL1l : L1.length ≤ 600000008 := by rw [← hL1, List.length_append, be8_length]; omega
  have HLa : Hid (L1 ++ [m] = L2) := by
    show _ = _
    rw [← hL1]
    exact HL2.out
  have HLen : Hid (L1.length + 1 = L2.length) := by show _ = _; rw [← HLa.out, List.length_append]; rfl
  have HL1 := hide hL1
  clear hL1
  have hmod : (m : Int) % 256 = (m : Int) := by omega
  have hw8 : IntKind.u8.wrap (m : Int) = (m : Int) := by rw [IntKind.wrap_u8]; omega
  have HD0 := hide (Gr.refl HO.out).drew
  refine wp_region_noPanic ?_
  refine wp_region_held_drew (S := fun w' => w'.cell? ⟨hb, 0, none⟩ = some (.int .i64 x) ∧ w'.cell? ⟨hb, 1, none⟩ = some (.slice pa m kp)) (by kernel_rfl) (HS.out _ rfl) (fun hHeld => ?_)
  refine' wpAnyH_take (i := 0) (oi := { dst := some 109, op := Go.Op.move (Go.Operand.tmp 0), type := 31, pos := "ref.go:167", after := #[], guard := none }) (v := _) rfl (by kernel_rfl) (by kernel_rfl) (by kernel_rfl) (fun _ _ _ h => h) (Or.inl ⟨by rfl, ?_⟩) (by assumption) ?_
  rotate_left
  · intro w hSw; (try dsimp only at hSw); go_simp <;> with_reducible rfl
  simp only [Act.put, List.setIfInBounds_toArray, List.set_cons_zero, List.set_cons_succ]
  refine' wpAnyH_take (i := 1) (oi := { dst := some 110, op := Go.Op.fieldAddr 65 (Go.Operand.tmp 10) 0, type := 0, pos := "ref.go:167", after := #[], guard := none }) (v := _) rfl (by kernel_rfl) (by kernel_rfl) (by kernel_rfl) (fun _ _ _ h => h) (Or.inl ⟨by rfl, ?_⟩) (by assumption) ?_
  rotate_left
  · intro w hSw; (try dsimp only at hSw); go_simp <;> with_reducible rfl
  simp only [Act.put, List.setIfInBounds_toArray, List.set_cons_zero, List.set_cons_succ]
  refine' wpAnyH_take (i := 2) (oi := { dst := some 111, op := Go.Op.load 3 (Go.Operand.tmp 110), type := 3, pos := "ref.go:167", after := #[{ on := 1, ground := Go.Ground.data }], guard := none }) (v := _) rfl (by kernel_rfl) (by kernel_rfl) (by kernel_rfl) (fun _ _ _ h => h) (Or.inl ⟨by rfl, ?_⟩) (by assumption) ?_
  rotate_left
  · intro w hSw; (try dsimp only at hSw); go_simp <;> with_reducible rfl
  simp only [Act.put, List.setIfInBounds_toArray, List.set_cons_zero, List.set_cons_succ]
  refine' wpAnyH_take (i := 4) (oi := { dst := some 113, op := Go.Op.fieldAddr 65 (Go.Operand.tmp 10) 1, type := 0, pos := "ref.go:167", after := #[], guard := none }) (v := _) rfl (by kernel_rfl) (by kernel_rfl) (by kernel_rfl) (fun _ _ _ h => h) (Or.inl ⟨by rfl, ?_⟩) (by assumption) ?_
  rotate_left
  · intro w hSw; (try dsimp only at hSw); go_simp <;> with_reducible rfl
  simp only [Act.put, List.setIfInBounds_toArray, List.set_cons_zero, List.set_cons_succ]
  refine' wpAnyH_take (i := 5) (oi := { dst := some 114, op := Go.Op.load 63 (Go.Operand.tmp 113), type := 63, pos := "ref.go:167", after := #[{ on := 4, ground := Go.Ground.data }], guard := none }) (v := _) rfl (by kernel_rfl) (by kernel_rfl) (by kernel_rfl) (fun _ _ _ h => h) (Or.inl ⟨by rfl, ?_⟩) (by assumption) ?_
  rotate_left
  · intro w hSw; (try dsimp only at hSw); go_simp <;> with_reducible rfl
  simp only [Act.put, List.setIfInBounds_toArray, List.set_cons_zero, List.set_cons_succ]
  refine' wpAnyH_take (i := 6) (oi := { dst := some 115, op := Go.Op.call { callee := Go.Callee.builtin Go.Builtin.len, args := #[Go.Operand.tmp 114], argTypes := #[63] }, type := 3, pos := "ref.go:167", after := #[{ on := 5, ground := Go.Ground.data }], guard := none }) (v := _) rfl (by kernel_rfl) (by kernel_rfl) (by kernel_rfl) (fun _ _ _ h => h) (Or.inl ⟨by rfl, ?_⟩) (by assumption) ?_
  rotate_left
  · intro w hSw; (try dsimp only at hSw); go_simp <;> with_reducible rfl
  simp only [Act.put, List.setIfInBounds_toArray, List.set_cons_zero, List.set_cons_succ]
  refine' wpAnyH_take (i := 7) (oi := { dst := some 116, op := Go.Op.convert 3 5 (Go.Operand.tmp 115), type := 5, pos := "ref.go:167", after := #[{ on := 6, ground := Go.Ground.data }], guard := none }) (v := _) rfl (by kernel_rfl) (by kernel_rfl) (by kernel_rfl) (fun _ _ _ h => h) (Or.inl ⟨by rfl, ?_⟩) (by assumption) ?_
  rotate_left
  · intro w hSw; (try dsimp only at hSw); go_simp <;> with_reducible rfl
  simp only [Act.put, List.setIfInBounds_toArray, List.set_cons_zero, List.set_cons_succ]
  refine wpAnyH_ready (rs := [3, 8]) (by kernel_rfl) (by simp) ?_
  refine AllReadyH.cons rfl (fun K hK => ?_) (AllReadyH.cons rfl (fun K hK => ?_) AllReadyH.nil)
  · go_simp
    go_wp2_with (first | (go_at_call 32; (with_reducible refine (rint _ L x (by omega) HD0.out.own).mono ?_); rintro e' q1 ⟨u1, rfl, hG⟩; rw [HL1.out] at hG; obtain ⟨va1, vc1, rfl⟩ := own_form hG.own; have HQ1 := hide (HD0.out.trans hG); clear hG) | fail)
    refine hK.out _ _ ?_ (fun hHeld => ?_)
    · exact HS.out _ (HQ1.out.other hzhb hovhb)
    clear hK K
    try simp only [Act.put, List.setIfInBounds_toArray, List.set_cons_zero, List.set_cons_succ]
    refine wpAnyH_ready (rs := [8]) (by kernel_rfl) (by simp) ?_
    refine AllReadyH.cons rfl (fun K hK => ?_) AllReadyH.nil
    go_simp
    go_wp2_with fail
    refine hK.out _ _ ?_ (fun hHeld => ?_)
    · exact HS.out _ ((Below.heap_alloc q1 _ hb (Nat.lt_of_lt_of_le hzhb HQ1.out.grown.size)).trans (HQ1.out.other hzhb hovhb))
    clear hK K
    try simp only [Act.put, List.setIfInBounds_toArray, List.set_cons_zero, List.set_cons_succ]
    refine wpAnyH_ready (rs := [9]) (by kernel_rfl) (by simp) ?_
    refine AllReadyH.cons rfl (fun K hK => ?_) AllReadyH.nil
    refine step_gr_append rfl (.tmp 112) (.tmp 117) rfl HQ1.out.own rfl q1.heap.size 1 1 [m] rfl rfl (by omega) (by exact bytes_new q1 [m] 5) (by omega) (by exact (Keep.refl _ q1).alloc _) ?_
    intro g2 cap2 w2 hG
    rw [HLa.out, HLen.out] at hG
    have HQ2 := hide (HQ1.out.trans hG)
    clear hG
    rw [HLen.out]
    refine hK.out _ _ ?_ (fun hHeld => ?_)
    · exact HS.out _ (HQ2.out.other hzhb hovhb)
    clear hK K
    try simp only [Act.put, List.setIfInBounds_toArray]
    refine' wpAnyH_take (i := 10) (oi := { dst := some 0, op := Go.Op.assign (Go.Operand.tmp 118), type := 31, pos := "ref.go:167", after := #[{ on := 9, ground := Go.Ground.data }, { on := 9, ground := Go.Ground.chain }, { on := 0, ground := Go.Ground.phase }, { on := 1, ground := Go.Ground.phase }, { on := 2, ground := Go.Ground.phase }, { on := 3, ground := Go.Ground.phase }, { on := 4, ground := Go.Ground.phase }, { on := 5, ground := Go.Ground.phase }, { on := 6, ground := Go.Ground.phase }, { on := 7, ground := Go.Ground.phase }, { on := 8, ground := Go.Ground.phase }, { on := 9, ground := Go.Ground.phase }], guard := none }) (v := _) rfl (by kernel_rfl) (by kernel_rfl) (by kernel_rfl) (fun _ _ _ h => h) (Or.inl ⟨by rfl, ?_⟩) (by assumption) ?_
    rotate_left
    · intro w hSw; (try dsimp only at hSw); go_simp <;> with_reducible rfl
    simp only [Act.put]
    refine wpAnyH_done (by kernel_rfl) ?_ _
    refine NoPanic.normal ?_
    exact HQ.out _ _ _ _ _ _ _ _ _ _ _ _ _ HQ2.out
  · go_simp
    go_wp2_with fail
    refine hK.out _ _ ?_ (fun hHeld => ?_)
    · exact HS.out _ (Below.heap_alloc w _ hb hzhb)
    clear hK K
    try simp only [Act.put, List.setIfInBounds_toArray, List.set_cons_zero, List.set_cons_succ]
    have HKa : Hid (Keep (fun _ => True) w (w.alloc (.cells #[.int .u8 (m : Nat)] 5)).drew) := ((Keep.refl _ w).alloc _).drew
    have HBa : Hid (BytesAt (w.alloc (.cells #[.int .u8 (m : Nat)] 5)).drew (some ⟨w.heap.size, 0, none⟩) [m]) := (bytes_new w [m] 5).keep (fun _ _ _ => rfl)
    have HOa := hide (own_kept HO.out (HKa.out.less (fun _ _ _ => trivial)))
    have hsa : (w.alloc (.cells #[.int .u8 (m : Nat)] 5)).drew.heap.size = w.heap.size + 1 := by simp
    generalize (w.alloc (.cells #[.int .u8 (m : Nat)] 5)).drew = wa at *
    refine wpAnyH_ready (rs := [3]) (by kernel_rfl) (by simp) ?_
    refine AllReadyH.cons rfl (fun K hK => ?_) AllReadyH.nil
    go_simp
    go_wp2_with (first | (go_at_call 32; (with_reducible refine (rint _ L x (by omega) HOa.out).mono ?_); rintro e' q1 ⟨u1, rfl, hG⟩; rw [HL1.out] at hG; obtain ⟨va1, vc1, rfl⟩ := own_form hG.own; have HG1 := hide hG; clear hG) | fail)
    have HQ1 := hide (Gr.after HKa.out HG1.out (fun g e => (HO.out.lt g e).2))
    refine hK.out _ _ ?_ (fun hHeld => ?_)
    · exact HS.out _ (HQ1.out.other hzhb hovhb)
    clear hK K
    try simp only [Act.put, List.setIfInBounds_toArray, List.set_cons_zero, List.set_cons_succ]
    have hne : (Value.slice vb L.length c).ownBlock ≠ some w.heap.size := fun e => absurd (HO.out.lt _ e).2 (Nat.lt_irrefl _)
    have HB1 := hide (HBa.out.keep (fun x _ e => by cases e; exact HG1.out.other (x := w.heap.size) (by omega) hne))
    refine wpAnyH_ready (rs := [9]) (by kernel_rfl) (by simp) ?_
    refine AllReadyH.cons rfl (fun K hK => ?_) AllReadyH.nil
    refine step_gr_append rfl (.tmp 112) (.tmp 117) rfl HQ1.out.own rfl w.heap.size 1 1 [m] rfl rfl (by omega) HB1.out (by omega) (Keep.refl _ q1) ?_
    intro g2 cap2 w2 hG
    rw [HLa.out, HLen.out] at hG
    have HQ2 := hide (HQ1.out.trans hG)
    clear hG
    rw [HLen.out]
    refine hK.out _ _ ?_ (fun hHeld => ?_)
    · exact HS.out _ (HQ2.out.other hzhb hovhb)
    clear hK K
    try simp only [Act.put, List.setIfInBounds_toArray]
    refine' wpAnyH_take (i := 10) (oi := { dst := some 0, op := Go.Op.assign (Go.Operand.tmp 118), type := 31, pos := "ref.go:167", after := #[{ on := 9, ground := Go.Ground.data }, { on := 9, ground := Go.Ground.chain }, { on := 0, ground := Go.Ground.phase }, { on := 1, ground := Go.Ground.phase }, { on := 2, ground := Go.Ground.phase }, { on := 3, ground := Go.Ground.phase }, { on := 4, ground := Go.Ground.phase }, { on := 5, ground := Go.Ground.phase }, { on := 6, ground := Go.Ground.phase }, { on := 7, ground := Go.Ground.phase }, { on := 8, ground := Go.Ground.phase }, { on := 9, ground := Go.Ground.phase }], guard := none }) (v := _) rfl (by kernel_rfl) (by kernel_rfl) (by kernel_rfl) (fun _ _ _ h => h) (Or.inl ⟨by rfl, ?_⟩) (by assumption) ?_
    rotate_left
    · intro w hSw; (try dsimp only at hSw); go_simp <;> with_reducible rfl
    simp only [Act.put]
    refine wpAnyH_done (by kernel_rfl) ?_ _
    refine NoPanic.normal ?_
    exact HQ.out _ _ _ _ _ _ _ _ _ _ _ _ _ HQ2.out
end Go.Proofs.Ytghgkjollafeiaa
