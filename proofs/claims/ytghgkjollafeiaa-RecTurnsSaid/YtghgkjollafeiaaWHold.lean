/-
  Holds, written, walked.
-/
import Derived.Test.YtghgkjollafeiaaRec2
import Derived.Test.YtghgkjollafeiaaWList
import Derived.Test.YtghgkjollafeiaaEnc
namespace Go.Proofs.Ytghgkjollafeiaa
open Go.RowKit

theorem mN_wr (b : Nat) (w : World) : Sem.run Try.prog (method 273 110 (.pointer (some ⟨b, 0, none⟩)) "toll/rec.num") w = .ok (89, .pointer (some ⟨b, 0, none⟩)) w := by kernel_rfl
theorem hold_ptrs (rb o : Nat) : #[Value.pointer (some ⟨rb, o + 2, none⟩), .pointer (some ⟨rb, o + 3, none⟩)].toList = (List.range 2).map fun i => Value.pointer (some ⟨rb, o + 2 + i, none⟩) := by
  simp [List.range_succ, Nat.add_assoc]

/-- A part, written. -/
theorem wpart {w : World} {O R : Nat → Prop} {b g : Nat} {l : List Nat} (rb o : Nat) (x y : Int) (h : StAt .wr w O R b g ⟨l, 0⟩) (hR : R rb) (hO : ¬ O rb) (hI : IntsAt w rb o [x, y]) (hl : l.length ≤ 950000000) :
    Calls Try.prog 68 #[.agg #[ifc .wr b], .pointer (some ⟨rb, o, none⟩)] w fun r w' => r = .returned (.tuple #[]) ∧ StAt .wr w' O R b g ⟨l ++ (be8 x ++ be8 y), 0⟩ ∧ KeepC O R w w' := by
  refine (cpart .wr rb o [x, y] rfl h hR hO hI (fun e => by cases e) (fun _ => by show l.length + 16 ≤ _; omega)).mono ?_
  rintro r w' ⟨rfl, hS, hI', hSt⟩
  rw [numsS_wr] at hS hI'
  refine ⟨rfl, ?_, KeepC.step hSt hO (ints_same hI hI')⟩
  have e : [x, y].flatMap be8 = be8 x ++ be8 y := by simp
  rw [← e]
  exact hS

/-- A hold's bytes: its id, its parts, what is over, its time. -/
def holdB (id : Int) (n : Nat) (E : Nat → List Nat) (ov un : Int) : List Nat := be8 id ++ ([n] ++ (List.range n).flatMap E) ++ (be8 ov ++ be8 un)

set_option maxRecDepth 100000 in
set_option maxHeartbeats 3200000 in
theorem whold {w : World} {O R : Nat → Prop} {b g : Nat} {l : List Nat} (rb o : Nat) (id ov un : Int) (a : Option Addr) (n cap : Nat) (hn : n ≤ 255) (X : Nat → Int × Int)
    (h : StAt .wr w O R b g ⟨l, 0⟩) (hl : l.length ≤ 800000000) (hR : R rb) (hO : ¬ O rb) (hc0 : w.cell? ⟨rb, o, none⟩ = some (.int .i64 id)) (hc1 : w.cell? ⟨rb, o + 1, none⟩ = some (.slice a n cap)) (hI : IntsAt w rb (o + 2) [ov, un]) (hcap : n ≤ cap)
    (ha : 0 < n → ∃ ab ao, a = some ⟨ab, ao, none⟩ ∧ R ab ∧ ¬ O ab ∧ ∀ i, i < n → IntsAt w ab (ao + i * 2) [(X i).1, (X i).2]) :
    Calls Try.prog 56 #[.agg #[ifc .wr b], .pointer (some ⟨rb, o, none⟩)] w fun r w' => r = .returned (.tuple #[]) ∧ StAt .wr w' O R b g ⟨l ++ holdB id n (fun i => be8 (X i).1 ++ be8 (X i).2) ov un, 0⟩ ∧ KeepC O R w w' := by
  have hrbl : rb < w.heap.size := lt_of_cell hc0
  have hK0 : Keep (fun _ => True) w (w.alloc (.cells #[ifc .wr b] 77)) := (Keep.refl _ w).alloc _
  have hs0 : (w.alloc (.cells #[ifc .wr b] 77)).heap.size = w.heap.size + 1 := by simp
  have hk0 : (w.alloc (.cells #[ifc .wr b] 77)).cell? ⟨w.heap.size, 0, none⟩ = some (ifc .wr b) := World.cell?_alloc_at _ _ _ _ rfl
  have hS0 : StAt .wr (w.alloc (.cells #[ifc .wr b] 77)) (fun x => O x ∨ x = w.heap.size) R b g ⟨l, 0⟩ := h.more hK0 (fun x hx => by
    rcases hx with hx | hx
    · exact .inl hx
    · exact .inr (by omega)) (fun x hx => .inl hx) (fun x hx => .inl hx)
  obtain ⟨F, hF⟩ : ∃ F, l ++ holdB id n (fun i => be8 (X i).1 ++ be8 (X i).2) ov un = F := ⟨_, rfl⟩
  rw [hF]
  have HF : Hid (l ++ be8 id ++ [n] ++ (List.range n).flatMap (fun i => be8 (X i).1 ++ be8 (X i).2) ++ [ov, un].flatMap be8 = F) := by
    show _ = _
    rw [← hF]
    unfold holdB
    simp [List.append_assoc]
  have hflat := flat_le (fun i => be8 (X i).1 ++ be8 (X i).2) 16 n (fun i _ => by rw [List.length_append, be8_length, be8_length]; omega)
  have HOg := hide h.og
  generalize hrk : w.heap.size = rk at *
  have hrkr : rk ≠ rb := by omega
  have H1 : Hid (∀ w1, KeepC O R w w1 → StAt .wr w1 (fun x => O x ∨ x = rk) R b g ⟨l, 0⟩ → Calls Try.prog 89 #[.pointer (some ⟨b, 0, none⟩), .pointer (some ⟨rb, o, none⟩)] w1 fun r w' => r = .returned (.tuple #[]) ∧ StAt .wr w' (fun x => O x ∨ x = rk) R b g ⟨l ++ be8 id, 0⟩ ∧ KeepC (fun x => O x ∨ x = rk) R w1 w') := fun w1 hK hS => by
    obtain ⟨hW, _⟩ := hS
    refine (wnum rb o id (by show l.length ≤ _; omega) hW ((hK.cells rb hR (by omega) o).1.trans hc0) (.inr hR)).mono ?_
    rintro e w' ⟨rfl, hW', hK'⟩
    exact ⟨rfl, ⟨hW', rfl⟩, KeepC.of hK'⟩
  have H2 : Hid (∀ w1, KeepC O R w w1 → StAt .wr w1 (fun x => O x ∨ x = rk) R b g ⟨l ++ be8 id, 0⟩ → Calls Try.prog 67 #[.agg #[ifc .wr b], .pointer (some ⟨rb, o + 1, none⟩), .func (.func 68) #[] #[]] w1 fun r w' => r = .returned (.tuple #[]) ∧ StAt .wr w' (fun x => O x ∨ x = rk) R b g ⟨l ++ be8 id ++ [n] ++ (List.range n).flatMap (fun i => be8 (X i).1 ++ be8 (X i).2), 0⟩ ∧ KeepC (fun x => O x ∨ x = rk) R w1 w') := fun w1 hK hS => by
    refine wlist_part rb (o + 1) a n cap hn (fun i => be8 (X i).1 ++ be8 (X i).2) 16 (by omega) hS (by rw [List.length_append, be8_length]; omega) hR ((hK.cells rb hR (by omega) (o + 1)).1.trans hc1) hcap (fun hp => by obtain ⟨ab, ao, e, _⟩ := ha hp; exact ⟨ab, ao, e⟩) (fun i _ => by rw [List.length_append, be8_length, be8_length]; omega) ?_
    intro i ab ao hi e O' w' l' hO1 hO2 hK' hS' hl'
    obtain ⟨ab', ao', e', hRa, hOa, hX⟩ := ha (by omega)
    rw [e] at e'
    obtain ⟨rfl, rfl⟩ : ab = ab' ∧ ao = ao' := by
      have := Option.some.inj e'
      exact ⟨congrArg Addr.block this, congrArg Addr.off this⟩
    have hlt := lt_of_cell (hX i hi 0 (by simp))
    have hsz := hK.keep.size
    have hIi : IntsAt w' ab (ao + i * 2) [(X i).1, (X i).2] := fun q hq => (hK'.cells ab hRa (by omega) _).1.trans ((hK.cells ab hRa (by omega) _).1.trans (hX i hi q hq))
    exact wpart ab (ao + i * 2) (X i).1 (X i).2 hS' hRa (fun hx => by
      rcases hO2 ab hx with (hx | hx) | hx
      · exact hOa hx
      · omega
      · omega) hIi hl'
  have hI0 : Hid (IntsAt w rb (o + 2) [ov, un]) := hI
  have hm1 := mN_wr b
  have HK0 := hide hK0
  have HS0 := hide hS0
  clear h hI hc0 hc1 ha hF hS0 hK0
  obtain ⟨L2, hL2⟩ : ∃ L2, l ++ be8 id ++ [n] ++ (List.range n).flatMap (fun i => be8 (X i).1 ++ be8 (X i).2) = L2 := ⟨_, rfl⟩
  have hL2l : L2.length ≤ 900000000 := by
    rw [← hL2, List.length_append, List.length_append, List.length_append, be8_length]
    show l.length + 8 + 1 + _ ≤ _
    omega
  rw [hL2] at H2 HF
  obtain ⟨L1, hL1⟩ : ∃ L1, l ++ be8 id = L1 := ⟨_, rfl⟩
  rw [hL1] at H1 H2
  clear hL1 hL2 hflat
  go_enter Try.func56, Try.ntmps56
  go_wp2_with fail
  have HRk := hide hrk
  clear hrk
  generalize w.alloc (.cells #[ifc .wr b] 77) = w0 at *
  have hz0 : rk < w0.heap.size := by omega
  clear hs0
  dsimp only [ifc, tyOf] at hk0
  go_region_with (go_at_call 89; refine (H1.out _ (KeepC.of_all HK0.out.drew) (HS0.out.keep (Keep.refl _ _).drew)).mono ?_; rintro e w2 ⟨rfl, hS2, hK2⟩; have hk2 := (hK2.keep.cell (b := rk) (o := 0) (show rk < w0.drew.heap.size from hz0) (.inr rfl)).trans hk0; have hz2 : rk < w2.heap.size := Nat.lt_of_lt_of_le (show rk < w0.drew.heap.size from hz0) hK2.keep.size; have HS2 := hide hS2; have HK2 := hide (show KeepC O R w w2 from (KeepC.of_all HK0.out.drew).trans (hK2.less (fun x hx => .inl hx))); clear hS2 hK2)
  all_goals
    go_wp2_with fail
    go_region_with (go_at_call 67; refine (H2.out _ HK2.out.drew (HS2.out.keep (Keep.refl _ _).drew)).mono ?_; rintro e w3 ⟨rfl, hS3, hK3⟩; have hk3 := (hK3.keep.cell (b := rk) (o := 0) (show rk < w2.drew.heap.size from hz2) (.inr rfl)).trans hk2; have hz3 : rk < w3.heap.size := Nat.lt_of_lt_of_le (show rk < w2.drew.heap.size from hz2) hK3.keep.size; have HS3 := hide hS3; have HK3 := hide (show KeepC O R w w3 from HK2.out.drew.trans (hK3.less (fun x hx => .inl hx))); clear hS3 hK3)
    all_goals
      have HI3 : Hid (IntsAt w3 rb (o + 2) [ov, un]) := fun i hi => (HK3.out.cells rb hR (by rw [HRk.out]; exact hrbl) _).1.trans (hI0.out i hi)
      go_wp2_with fail
      go_region_with (go_at_call 52; refine (fnums .wr rb (o + 2) 2 _ (hold_ptrs rb o) [ov, un] rfl (by omega) (by omega) HS3.out hR (box_off hO hrkr) HI3.out (fun e => by cases e) (fun _ => by show L2.length + 16 ≤ _; omega)).mono ?_; rintro e w4 ⟨rfl, hS4, hI4, hSt4⟩; have HS4 := hide hS4; have HI4 := hide hI4; have HSt4 := hide hSt4; clear hS4 hI4 hSt4)
      all_goals
        go_end0
        have hS4 := HS4.out
        have hI4 := HI4.out
        rw [numsS_wr] at hS4 hI4
        refine ⟨rfl, ?_, HK3.out.trans ((KeepC.step HSt4.out (box_off hO hrkr) (ints_same HI3.out hI4)).less (fun x hx => .inl hx))⟩
        rw [← HF.out]
        exact hS4.less (fun x hx => .inl hx) (fun x hx => hx) HOg.out
end Go.Proofs.Ytghgkjollafeiaa
