/-
  Steps of a region that draws: a call by its contract, an append of bytes.
-/
import Derived.Test.YtkbboingeacgjaaQRef2
import Derived.Test.YtkbboingeacgjaaFPr2
import Derived.Deep.RegionLaw
import Derived.Deep.RegionHeldLaw
import Derived.Deep.CutRange
namespace Go.Proofs.Ytkbboingeacgjaa
open Go.RowKit

theorem enter32 (x y : Value) (w : World) : (callFunc 28 #[x, y]).run Try.prog w = .ok (.enter 28 #[x, y]) w := by kernel_rfl
theorem enter20 (x y : Value) (w : World) : (callFunc 49 #[x, y]).run Try.prog w = .ok (.enter 49 #[x, y]) w := by kernel_rfl
theorem enter33 (x y : Value) (w : World) : (callFunc 39 #[x, y]).run Try.prog w = .ok (.enter 39 #[x, y]) w := by kernel_rfl
theorem enter31 (x y : Value) (w : World) : (callFunc 27 #[x, y]).run Try.prog w = .ok (.enter 27 #[x, y]) w := by kernel_rfl
theorem enter19 (x y : Value) (w : World) : (callFunc 29 #[x, y]).run Try.prog w = .ok (.enter 29 #[x, y]) w := by kernel_rfl
theorem step_gr_append {ops : Array Oper} {o : Oper} {a : Act} {K : Act → World → Prop} {Q : Exit → Act → World → Prop} {E : Prop} {w w1 : World} {l : List Nat} {v : Value} (hgd : o.guard = none) (s x : Operand)
    (ho : o.op = .call { callee := .builtin .append, args := #[s, x], argTypes := #[26, 26] }) (hown : w.ownsRow 0 5 1 v l.length (l.map byteCell)) (hs : a.eval s = v)
    (sb n c : Nat) (m : List Nat) (hx : a.eval x = .slice (some ⟨sb, 0, none⟩) n c) (hm : m.length = n) (hn : 0 < n) (hB : BytesAt w1 (some ⟨sb, 0, none⟩) m) (hl : l.length + n ≤ 2000000000) (h1 : Keep (fun _ => True) w w1)
    (hK : ∀ g cap w2, Gr w w2 v (.slice (some ⟨g, 0, none⟩) (l.length + n) cap) (l ++ m) → K (a.put o.dst (.slice (some ⟨g, 0, none⟩) (l.length + n) cap)) w2) : if Region.wanted o (yielded ops a.tmps) = true then Oper.wp Try.prog o a w1 K Q else E := by
  have hw : Region.wanted o (yielded ops a.tmps) = true := by simp [Region.wanted, hgd]
  rw [if_pos hw]
  exact gr_append_wp s x ho hown hs sb n c m hx hm hn hB hl h1 hK

/-- An answer's bytes. -/
def ansBy (n : Nat) (l : List Int) (nm : ByteArray) (xs : List Int) : List Nat := [n] ++ l.flatMap be8 ++ (if xs.headD 0 = 0 then [0] else [1] ++ tiB nm xs)
/-- Another block is as it was. -/
theorem Gr.other {w w' : World} {v v' : Value} {l : List Nat} (h : Gr w w' v v' l) {x : Nat} (hx : x < w.heap.size) (hv : v.ownBlock ≠ some x) : w'.heap[x]? = w.heap[x]? := h.grown.block x hx (fun e => hv e.symm)
theorem Gr.apart {w w' : World} {v v' : Value} {l : List Nat} (h : Gr w w' v v' l) {x : Nat} (hx : x < w.heap.size) (hv : v.ownBlock ≠ some x) : v'.ownBlock ≠ some x := fun e => by
  rcases h.loc x e with h1 | h1
  · exact hv h1
  · omega

set_option maxRecDepth 100000 in
set_option maxHeartbeats 6400000 in
theorem ranswer {w : World} (v : Value) (l : List Nat) (n : Nat) (x1 x2 x3 : Int) (nm : ByteArray) (s1 s2 s3 s4 s5 s6 s7 s8 : Int) (hx : nm.size ≤ 255) (hn : n ≤ 255) (hl : l.length ≤ 800000000) (h : w.ownsRow 0 5 1 v l.length (l.map byteCell)) :
    Calls Try.prog 39 #[v, .agg #[.int .i64 (n : Nat), .int .i64 x1, .int .i64 x2, .int .i64 x3, .string nm, .int .i64 s1, .int .i64 s2, .int .i64 s3, .int .i64 s4, .int .i64 s5, .int .i64 s6, .int .i64 s7, .int .i64 s8]] w fun e w' => ∃ v', e = .returned v' ∧ Gr w w' v v' (l ++ ansBy n [x1, x2, x3] nm [s1, s2, s3, s4, s5, s6, s7, s8]) := by
  obtain ⟨F, hF⟩ : ∃ F, l ++ ansBy n [x1, x2, x3] nm [s1, s2, s3, s4, s5, s6, s7, s8] = F := ⟨_, rfl⟩
  rw [hF]
  have HF := hide hF
  clear hF
  have hK0 : Keep (fun _ => True) w (w.alloc (.cells #[.int .i64 (n : Nat), .int .i64 x1, .int .i64 x2, .int .i64 x3, .string nm, .int .i64 s1, .int .i64 s2, .int .i64 s3, .int .i64 s4, .int .i64 s5, .int .i64 s6, .int .i64 s7, .int .i64 s8] 43)) := (Keep.refl _ w).alloc _
  have hr : ∀ (i : Nat) (u : Value), (#[.int .i64 (n : Nat), .int .i64 x1, .int .i64 x2, .int .i64 x3, .string nm, .int .i64 s1, .int .i64 s2, .int .i64 s3, .int .i64 s4, .int .i64 s5, .int .i64 s6, .int .i64 s7, .int .i64 s8] : Array Value)[i]? = some u → (w.alloc (.cells #[.int .i64 (n : Nat), .int .i64 x1, .int .i64 x2, .int .i64 x3, .string nm, .int .i64 s1, .int .i64 s2, .int .i64 s3, .int .i64 s4, .int .i64 s5, .int .i64 s6, .int .i64 s7, .int .i64 s8] 43)).cell? ⟨w.heap.size, i, none⟩ = some u := fun i u hu => by
    rw [World.cell?_alloc_at _ _ _ _ rfl]
    exact hu
  have hlt := h.lt
  have hs0 : (w.alloc (.cells #[.int .i64 (n : Nat), .int .i64 x1, .int .i64 x2, .int .i64 x3, .string nm, .int .i64 s1, .int .i64 s2, .int .i64 s3, .int .i64 s4, .int .i64 s5, .int .i64 s6, .int .i64 s7, .int .i64 s8] 43)).heap.size = w.heap.size + 1 := by simp
  have HO0 := hide (own_kept h (hK0.less (fun _ _ _ => trivial)))
  have HK0 := hide hK0
  have HLt := hide hlt
  obtain ⟨va, vc, rfl⟩ := own_form h
  have c0 := hr 0 _ rfl
  have c1 := hr 1 _ rfl
  have c2 := hr 2 _ rfl
  have c3 := hr 3 _ rfl
  have c6 := hr 5 _ rfl
  have HR : Hid (∀ i, i < 9 → (w.alloc (.cells #[.int .i64 (n : Nat), .int .i64 x1, .int .i64 x2, .int .i64 x3, .string nm, .int .i64 s1, .int .i64 s2, .int .i64 s3, .int .i64 s4, .int .i64 s5, .int .i64 s6, .int .i64 s7, .int .i64 s8] 43)).cell? ⟨w.heap.size, 4 + i, none⟩ = (#[.int .i64 (n : Nat), .int .i64 x1, .int .i64 x2, .int .i64 x3, .string nm, .int .i64 s1, .int .i64 s2, .int .i64 s3, .int .i64 s4, .int .i64 s5, .int .i64 s6, .int .i64 s7, .int .i64 s8] : Array Value)[4 + i]?) := fun i hi => by
    rw [World.cell?_alloc_at _ _ _ _ rfl]
  have hov : (Value.slice va l.length vc).ownBlock ≠ some w.heap.size := fun e => by have := hlt _ e; omega
  clear hr h hK0 hlt
  obtain ⟨L2, hL2⟩ : ∃ L, l ++ [n] = L := ⟨_, rfl⟩
  obtain ⟨L3, hL3⟩ : ∃ L, L2 ++ be8 x1 = L := ⟨_, rfl⟩
  obtain ⟨L4, hL4⟩ : ∃ L, L3 ++ be8 x2 = L := ⟨_, rfl⟩
  obtain ⟨L, hL⟩ : ∃ L, L4 ++ be8 x3 = L := ⟨_, rfl⟩
  have hl2 : L2.length = l.length + 1 := by rw [← hL2, List.length_append]; rfl
  have hl3 : L3.length = l.length + 9 := by rw [← hL3, List.length_append, be8_length]; omega
  have hl4 : L4.length = l.length + 17 := by rw [← hL4, List.length_append, be8_length]; omega
  have hl5 : L.length = l.length + 25 := by rw [← hL, List.length_append, be8_length]; omega
  have hb2l : L2.length ≤ 900000000 := by omega
  have hb3l : L3.length ≤ 900000000 := by omega
  have hb4l : L4.length ≤ 900000000 := by omega
  have hLl : L.length ≤ 800000100 := by omega
  have HLt2 := hide hl2
  clear hl2 hl3 hl4 hl5
  have HL2 := hide hL2
  have HL3 := hide hL3
  have HL4 := hide hL4
  have HL := hide hL
  clear hL hL2 hL3 hL4
  have hmod : (n : Int) % 256 = (n : Int) := by omega
  have hw8 : IntKind.u8.wrap (n : Int) = (n : Int) := by rw [IntKind.wrap_u8]; omega
  generalize hrk : w.heap.size = rk at *
  go_enter Try.func39, Try.ntmps39
  go_upto_region 1 with fail
  have HRk := hide hrk
  clear hrk
  generalize w.alloc (.cells #[.int .i64 (n : Nat), .int .i64 x1, .int .i64 x2, .int .i64 x3, .string nm, .int .i64 s1, .int .i64 s2, .int .i64 s3, .int .i64 s4, .int .i64 s5, .int .i64 s6, .int .i64 s7, .int .i64 s8] 43) = w0 at *
  have HZ0 := hide hs0
  have hz0 : rk < w0.heap.size := by omega
  clear hs0
  go_cut [0] from 5 to 33 (fun u wx => ∃ vb c, u = .slice vb L.length c ∧ Hid (Gr w0 wx (.slice va l.length vc) u L))
  case first =>
    have HAll : Hid (∀ w' : World, w'.heap[rk]? = w0.heap[rk]? → w'.cell? ⟨rk, 0, none⟩ = some (.int .i64 (n : Nat)) ∧ w'.cell? ⟨rk, 1, none⟩ = some (.int .i64 x1) ∧ w'.cell? ⟨rk, 2, none⟩ = some (.int .i64 x2) ∧ w'.cell? ⟨rk, 3, none⟩ = some (.int .i64 x3)) := fun w' e => ⟨(World.cell?_of_block (a := ⟨rk, 0, none⟩) e).trans c0, (World.cell?_of_block (a := ⟨rk, 1, none⟩) e).trans c1, (World.cell?_of_block (a := ⟨rk, 2, none⟩) e).trans c2, (World.cell?_of_block (a := ⟨rk, 3, none⟩) e).trans c3⟩
    have hbA : (w0.alloc (.cells #[.int .u8 (n : Nat)] 5)).heap[rk]? = w0.heap[rk]? := Below.heap_alloc w0 _ rk hz0
    go_region_held_law (fun w' => w'.cell? ⟨rk, 0, none⟩ = some (.int .i64 (n : Nat)) ∧ w'.cell? ⟨rk, 1, none⟩ = some (.int .i64 x1) ∧ w'.cell? ⟨rk, 2, none⟩ = some (.int .i64 x2) ∧ w'.cell? ⟨rk, 3, none⟩ = some (.int .i64 x3))
      (first | assumption | exact HAll.out _ hb5 | exact HAll.out _ hb4 | exact HAll.out _ hb3 | exact HAll.out _ hb2 | exact HAll.out _ rfl | exact HAll.out _ hbA)
      (first
      | (go_at_call 28; refine (rint _ L4 x3 (by omega) HG4.out.own).mono ?_; rintro e w5 ⟨v5, rfl, hG⟩; rw [HL.out] at hG; obtain ⟨va5, vc5, rfl⟩ := own_form hG.own; have hb5 := (hG.other (x := rk) (by omega) hov4).trans hb4; have hov5 := hG.apart (x := rk) (by omega) hov4; have hz5 := hG.grown.size; have HG5 := hide hG; clear hG)
      | (go_at_call 28; refine (rint _ L3 x2 (by omega) HG3.out.own).mono ?_; rintro e w4 ⟨v4, rfl, hG⟩; rw [HL4.out] at hG; obtain ⟨va4, vc4, rfl⟩ := own_form hG.own; have hb4 := (hG.other (x := rk) (by omega) hov3).trans hb3; have hov4 := hG.apart (x := rk) (by omega) hov3; have hz4 := hG.grown.size; have HG4 := hide hG; clear hG)
      | (go_at_call 28; refine (rint _ L2 x1 (by omega) HG2.out.own).mono ?_; rintro e w3 ⟨v3, rfl, hG⟩; rw [HL3.out] at hG; obtain ⟨va3, vc3, rfl⟩ := own_form hG.own; have hb3 := (hG.other (x := rk) (by omega) hov2).trans hb2; have hov3 := hG.apart (x := rk) (by omega) hov2; have hz3 := hG.grown.size; have HG3 := hide hG; clear hG)
      | (refine step_gr_append rfl (.tmp 5) (.tmp 9) rfl HO0.out rfl w0.heap.size 1 1 [n] rfl rfl (by omega) (by exact bytes_new w0 [n] 5) (by omega) (by exact ((Keep.refl _ w0).alloc _).drew) ?_; intro g cap w2 hG; rw [HL2.out] at hG; have hb2 := hG.other (x := rk) (by omega) hov; have hov2 := hG.apart (x := rk) (by omega) hov; have hz2 := hG.grown.size; have HG2 := hide hG; clear hG)
      | fail)
    all_goals
      go_wp2_with fail
      go_meet
      case rel => exact ⟨va5, vc5, rfl, ((HG2.out.trans HG3.out).trans HG4.out).trans HG5.out⟩
  case rest =>
    rename World => w1
    obtain ⟨vb, c, rfl, HG⟩ := hcut
    have hb1 := HG.out.other (x := rk) hz0 hov
    have hov1 := HG.out.apart (x := rk) hz0 hov
    have hz1 : rk < w1.heap.size := Nat.lt_of_lt_of_le hz0 HG.out.grown.size
    have c51 := (World.cell?_of_block (a := ⟨rk, 5, none⟩) hb1).trans c6
    have HFin : Hid (∀ w' v', Gr w1 w' (.slice vb L.length c) v' F → Gr w w' (.slice va l.length vc) v' F) := fun w' v' h => by
      have h2 := HG.out.trans h
      exact Gr.after HK0.out h2 (fun g hg => by rw [HRk.out]; exact (HLt.out g hg).2)
    by_cases hz : s1 = 0
    · subst hz
      have HF2 : Hid (L ++ [0] = F) := by
        show _ = _
        rw [← HF.out, ← HL.out, ← HL4.out, ← HL3.out, ← HL2.out]
        simp [ansBy, List.append_assoc]
      go_wp2_with (at_builtin; refine wpList_gr_append rfl _ _ rfl HG.out.own rfl w1.heap.size 1 1 [0] rfl rfl (by omega) (bytes_new w1 [0] 5) (by omega) ((Keep.refl _ w1).alloc _) ?_; intro g2 cap2 w2 hG2; rw [HF2.out] at hG2; have HG2 := hide hG2; clear hG2)
      go_ret
      exact ⟨_, rfl, HFin.out _ _ HG2.out⟩
    · have HF2 : Hid (L ++ ([1] ++ tiB nm [s1, s2, s3, s4, s5, s6, s7, s8]) = F) := by
        show _ = _
        rw [← HF.out, ← HL.out, ← HL4.out, ← HL3.out, ← HL2.out]
        simp [ansBy, List.append_assoc, hz]
      obtain ⟨L5, hL5⟩ : ∃ M, L ++ [1] = M := ⟨_, rfl⟩
      have hl5 : L5.length ≤ 900000000 := by rw [← hL5, List.length_append, List.length_singleton]; omega
      have HL6 : Hid (L5 ++ tiB nm [s1, s2, s3, s4, s5, s6, s7, s8] = F) := by
        show _ = _
        rw [← hL5, List.append_assoc]
        exact HF2.out
      have HL5 := hide hL5
      clear hL5
      have HAll : Hid (∀ w' : World, w'.heap[rk]? = w0.heap[rk]? → w'.cell? ⟨rk, 4, none⟩ = some (.string nm) ∧ w'.cell? ⟨rk, 5, none⟩ = some (.int .i64 s1) ∧ w'.cell? ⟨rk, 6, none⟩ = some (.int .i64 s2) ∧ w'.cell? ⟨rk, 7, none⟩ = some (.int .i64 s3) ∧ w'.cell? ⟨rk, 8, none⟩ = some (.int .i64 s4) ∧ w'.cell? ⟨rk, 9, none⟩ = some (.int .i64 s5) ∧ w'.cell? ⟨rk, 10, none⟩ = some (.int .i64 s6) ∧ w'.cell? ⟨rk, 11, none⟩ = some (.int .i64 s7) ∧ w'.cell? ⟨rk, 12, none⟩ = some (.int .i64 s8)) := fun w' e => ⟨(World.cell?_of_block (a := ⟨rk, 4, none⟩) e).trans (HR.out 0 (by omega)), (World.cell?_of_block (a := ⟨rk, 5, none⟩) e).trans (HR.out 1 (by omega)), (World.cell?_of_block (a := ⟨rk, 6, none⟩) e).trans (HR.out 2 (by omega)), (World.cell?_of_block (a := ⟨rk, 7, none⟩) e).trans (HR.out 3 (by omega)), (World.cell?_of_block (a := ⟨rk, 8, none⟩) e).trans (HR.out 4 (by omega)), (World.cell?_of_block (a := ⟨rk, 9, none⟩) e).trans (HR.out 5 (by omega)), (World.cell?_of_block (a := ⟨rk, 10, none⟩) e).trans (HR.out 6 (by omega)), (World.cell?_of_block (a := ⟨rk, 11, none⟩) e).trans (HR.out 7 (by omega)), (World.cell?_of_block (a := ⟨rk, 12, none⟩) e).trans (HR.out 8 (by omega))⟩
      have hbA : (w1.alloc (.cells #[.int .u8 1] 5)).heap[rk]? = w0.heap[rk]? := (Below.heap_alloc w1 _ rk hz1).trans hb1
      go_upto_region 4 with fail
      go_region_held_law (fun w' => w'.cell? ⟨rk, 4, none⟩ = some (.string nm) ∧ w'.cell? ⟨rk, 5, none⟩ = some (.int .i64 s1) ∧ w'.cell? ⟨rk, 6, none⟩ = some (.int .i64 s2) ∧ w'.cell? ⟨rk, 7, none⟩ = some (.int .i64 s3) ∧ w'.cell? ⟨rk, 8, none⟩ = some (.int .i64 s4) ∧ w'.cell? ⟨rk, 9, none⟩ = some (.int .i64 s5) ∧ w'.cell? ⟨rk, 10, none⟩ = some (.int .i64 s6) ∧ w'.cell? ⟨rk, 11, none⟩ = some (.int .i64 s7) ∧ w'.cell? ⟨rk, 12, none⟩ = some (.int .i64 s8))
        (first | assumption | exact HAll.out _ hb3 | exact HAll.out _ hb2 | exact HAll.out _ hbA | exact HAll.out _ hb1)
        (first
        | (go_at_call 49; refine (rstm _ L5 nm s1 s2 s3 s4 s5 s6 s7 s8 hx (by omega) HG2.out.own).mono ?_; rintro e w3 ⟨v3, rfl, hG⟩; rw [HL6.out] at hG; obtain ⟨va3, vc3, rfl⟩ := own_form hG.own; have hb3 := (hG.other (x := rk) (by omega) hov2).trans hb2; have HG3 := hide hG; clear hG)
        | (refine step_gr_append rfl (.tmp 27) (.tmp 28) rfl HG.out.own rfl w1.heap.size 1 1 [1] rfl rfl (by omega) (by exact bytes_new w1 [1] 5) (by omega) (by exact ((Keep.refl _ w1).alloc _).drew) ?_; intro g2 cap2 w2 hG; rw [HL5.out] at hG; have hb2 := (hG.other (x := rk) (by omega) hov1).trans hb1; have hov2 := hG.apart (x := rk) (by omega) hov1; have hz2 := hG.grown.size; have HG2 := hide hG; clear hG)
        | fail)
      all_goals
        go_wp2_with fail
        go_ret
        exact ⟨_, rfl, HFin.out _ _ (HG2.out.trans HG3.out)⟩
end Go.Proofs.Ytkbboingeacgjaa
