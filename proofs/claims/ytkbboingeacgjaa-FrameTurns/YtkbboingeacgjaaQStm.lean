/-
  A statement, carried either way, walked.
-/
import Derived.Test.YtkbboingeacgjaaQPlan
namespace Go.Proofs.Ytkbboingeacgjaa
open Go.RowKit

theorem ptrs8 (rb o : Nat) : #[Value.pointer (some ⟨rb, o + 1, none⟩), .pointer (some ⟨rb, o + 2, none⟩), .pointer (some ⟨rb, o + 3, none⟩), .pointer (some ⟨rb, o + 4, none⟩), .pointer (some ⟨rb, o + 5, none⟩), .pointer (some ⟨rb, o + 6, none⟩), .pointer (some ⟨rb, o + 7, none⟩), .pointer (some ⟨rb, o + 8, none⟩)].toList = (List.range 8).map fun i => Value.pointer (some ⟨rb, o + 1 + i, none⟩) := by
  simp [List.range_succ, Nat.add_assoc]

set_option maxRecDepth 100000 in
set_option maxHeartbeats 3200000 in
/-- 'from' of a statement alone. -/
theorem cfrom2 (k : Kd) {w : World} {O R : Nat → Prop} {b g : Nat} {s : Sx} (rb o : Nat) (nm : ByteArray) (xs : List Int) (hn : xs.length = 8) (hx : k = .wr → nm.size ≤ 255) (h : StAt k w O R b g s) (hR : R rb) (hO : ¬ O rb) (hc : w.cell? ⟨rb, o, none⟩ = some (.string nm)) (hI : IntsAt w rb (o + 1) xs) (hf : Free k w rb) (hm : Room k s 400) :
    Calls Try.prog 60 #[.agg #[ifc k b], .int .i64 2, .pointer none, .pointer (some ⟨rb, o, none⟩)] w fun r w' => r = .returned (.tuple #[]) ∧ StAt k w' O R b g (tiS k s nm xs).1 ∧ w'.cell? ⟨rb, o, none⟩ = some (.string (tiS k s nm xs).2.1) ∧ IntsAt w' rb (o + 1) (tiS k s nm xs).2.2 ∧ Step (fun x => O x ∨ R x) rb o 9 w w' := by
  have hrbl : rb < w.heap.size := lt_of_cell hc
  have hK0 : Keep (fun _ => True) w (w.alloc (.cells #[ifc k b] 121)) := (Keep.refl _ w).alloc _
  have hs0 : (w.alloc (.cells #[ifc k b] 121)).heap.size = w.heap.size + 1 := by simp
  have hc0 : (w.alloc (.cells #[ifc k b] 121)).cell? ⟨w.heap.size, 0, none⟩ = some (ifc k b) := World.cell?_alloc_at _ _ _ _ rfl
  have hS0 : StAt k (w.alloc (.cells #[ifc k b] 121)) (fun x => O x ∨ x = w.heap.size) R b g s := h.more hK0 (fun x hx => by
    rcases hx with hx | hx
    · exact .inl hx
    · exact .inr (by omega)) (fun x hx => .inl hx) (fun x hx => .inl hx)
  have hI0 : IntsAt (w.alloc (.cells #[ifc k b] 121)) rb (o + 1) xs := fun i hi => (hK0.cell hrbl trivial).trans (hI i hi)
  have hcs0 : (w.alloc (.cells #[ifc k b] 121)).cell? ⟨rb, o, none⟩ = some (.string nm) := (hK0.cell hrbl trivial).trans hc
  have hf0 : Free k (w.alloc (.cells #[ifc k b] 121)) rb := fun e o => (hK0.fz hrbl trivial).trans (hf e o)
  have HK0 := hide hK0
  have HOg := hide h.og
  have HS0 := hide hS0
  have HI0 := hide hI0
  have HCs0 := hide hcs0
  have HF0 := hide hf0
  have HM := hide hm
  have HN := hide hn
  have HX := hide hx
  have hk0 := hc0
  clear h hI hf hm hc hn hx hS0 hI0 hcs0 hf0 hK0 hc0
  generalize hrk : w.heap.size = rk at *
  have hrkr : rk ≠ rb := by omega
  go_enter Try.func60, Try.ntmps60
  go_wp2_with fail
  have HRk := hide hrk
  clear hrk
  generalize w.alloc (.cells #[ifc k b] 121) = w0 at *
  have HC1 : Hid (∀ w1, Keep (fun _ => True) w0 w1 → Calls Try.prog (textF k) #[.pointer (some ⟨b, 0, none⟩), .pointer (some ⟨rb, o, none⟩)] w1 fun r w' => r = .returned (.tuple #[]) ∧ StAt k w' (fun x => O x ∨ x = rk) R b g (textS k s nm).1 ∧ w'.cell? ⟨rb, o, none⟩ = some (.string (textS k s nm).2) ∧ Step (fun x => (O x ∨ x = rk) ∨ R x) rb o 1 w1 w') := fun w1 hK => ctext k rb o nm HX.out (HS0.out.keep hK) hR (fun h => by rcases h with h | h; exact hO h; exact hrkr h.symm) ((hK.cell (by omega) trivial).trans HCs0.out) (fun e o => (hK.fz (by omega) trivial).trans (HF0.out e o)) (fun e => by have := HM.out e; omega)
  have HRm := hide (HM.out.text (m := 64) HX.out (by omega))
  clear HX
  have h2 := mT_wr b
  have h3 := mT_pr b
  rcases k with _ | _
  all_goals
    dsimp only [ifc, tyOf] at hk0
    go_region_with ((first | go_at_call 101 | go_at_call 106); refine (HC1.out _ (Keep.refl _ _).drew).mono ?_; rintro e w2 ⟨rfl, hS2, hc2, hSt2⟩; have hk2 := (hSt2.keep.cell (b := rk) (o := 0) (by show rk < w0.heap.size; omega) ⟨.inl (.inr rfl), hrkr⟩).trans hk0; have HS2 := hide hS2; have HC2 := hide hc2; have HSt2 := hide hSt2; clear hS2 hc2 hSt2)
    all_goals
      have hz2 : rk < w2.heap.size := Nat.lt_of_lt_of_le (show rk < w0.drew.heap.size by show rk < w0.heap.size; omega) HSt2.out.keep.size
      have HI2 := hide (IntsAt.step (w := w0.drew) HI0.out HSt2.out (.inr (Nat.le_refl _)))
      have HF2 := hide (Free.step (w := w0.drew) HF0.out HSt2.out)
      go_wp2_with fail
      go_region_with (go_at_call 62; (first | refine (fnums .wr rb (o + 1) 8 _ (ptrs8 rb o) xs HN.out (by omega) (by omega) HS2.out hR (box_off hO hrkr) HI2.out HF2.out HRm.out).mono ?_ | refine (fnums .pr rb (o + 1) 8 _ (ptrs8 rb o) xs HN.out (by omega) (by omega) HS2.out hR (box_off hO hrkr) HI2.out HF2.out HRm.out).mono ?_); rintro e w3 ⟨rfl, hS3, hI3, hSt3⟩; have HS3 := hide hS3; have HI3 := hide hI3; have HSt3 := hide hSt3; clear hS3 hI3 hSt3)
      all_goals
        go_wp2_with fail
        go_end0
        refine ⟨rfl, HS3.out.less (fun x hx => .inl hx) (fun x hx => hx) HOg.out, (HSt3.out.cell o (by omega)).trans HC2.out, HI3.out, step_box (rk := rk) HK0.out.drew ?_ ((HSt2.out.wide (by omega) (by omega)).trans (HSt3.out.wide (by omega) (by omega)))⟩
        rw [HRk.out]; exact hrbl

set_option maxRecDepth 100000 in
set_option maxHeartbeats 1600000 in
theorem cstatement (k : Kd) {w : World} {O R : Nat → Prop} {b g : Nat} {s : Sx} (rb o : Nat) (nm : ByteArray) (xs : List Int) (hn : xs.length = 8) (hx : k = .wr → nm.size ≤ 255) (h : StAt k w O R b g s) (hR : R rb) (hO : ¬ O rb) (hc : w.cell? ⟨rb, o, none⟩ = some (.string nm)) (hI : IntsAt w rb (o + 1) xs) (hf : Free k w rb) (hm : Room k s 400) :
    Calls Try.prog 57 #[.agg #[ifc k b], .pointer (some ⟨rb, o, none⟩)] w fun r w' => r = .returned (.tuple #[]) ∧ StAt k w' O R b g (tiS k s nm xs).1 ∧ w'.cell? ⟨rb, o, none⟩ = some (.string (tiS k s nm xs).2.1) ∧ IntsAt w' rb (o + 1) (tiS k s nm xs).2.2 ∧ Step (fun x => O x ∨ R x) rb o 9 w w' := by
  have hrbl : rb < w.heap.size := lt_of_cell hc
  have hK0 : Keep (fun _ => True) w (w.alloc (.cells #[ifc k b] 121)) := (Keep.refl _ w).alloc _
  have HC := hide (cfrom2 k rb o nm xs hn hx (h.keep hK0) hR hO ((hK0.cell hrbl trivial).trans hc) (fun i hi => (hK0.cell hrbl trivial).trans (hI i hi)) (fun e o => (hK0.fz hrbl trivial).trans (hf e o)) hm)
  have HK0 := hide hK0
  clear h hI hf hm hc hn hx hK0
  go_enter Try.func57, Try.ntmps57
  go_wp2_with fail
  refine HC.out.mono ?_
  rintro e w1 ⟨rfl, h1, h2, h3, h4⟩
  have H1 := hide h1
  have H2 := hide h2
  have H3 := hide h3
  have H4 := hide h4
  clear h1 h2 h3 h4
  go_wp2_with fail
  go_end0
  exact ⟨rfl, H1.out, H2.out, H3.out, ⟨(HK0.out.less (fun _ _ _ => trivial)).trans H4.out.keep, fun q hq => (H4.out.cell q hq).trans (HK0.out.cell hrbl trivial), fun q => (H4.out.fz q).trans (HK0.out.fz hrbl trivial), fun cs t fr h0 => H4.out.sh cs t fr ((HK0.out.block _ hrbl trivial).trans h0)⟩⟩
end Go.Proofs.Ytkbboingeacgjaa
