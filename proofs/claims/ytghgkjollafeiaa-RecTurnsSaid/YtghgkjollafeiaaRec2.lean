/-
  Either carrier: how many there are, an errno, a flag.
-/
import Derived.Test.YtghgkjollafeiaaRec
import Derived.Test.YtghgkjollafeiaaPlan
namespace Go.Proofs.Ytghgkjollafeiaa
open Go.RowKit

def countF : Kd → Nat
  | .wr => 86
  | .pr => 92
def errnoF : Kd → Nat
  | .wr => 87
  | .pr => 93
def flagF : Kd → Nat
  | .wr => 88
  | .pr => 94

theorem keep_pr {w w' : World} {O R : Nat → Prop} {b : Nat} (ho : ¬ O b ∧ ¬ R b) (h : Keep (fun x => x ≠ b) w w') : Keep (fun x => O x ∨ R x) w w' := h.less (fun z _ k e => by
  subst e
  rcases k with k | k
  · exact ho.1 k
  · exact ho.2 k)

theorem ccount (k : Kd) {w : World} {O R : Nat → Prop} {b g : Nat} {s : Sx} (n : Nat) (hn : k = .wr → n ≤ 255) (h : StAt k w O R b g s) (hm : Room k s 0) :
    Calls Try.prog (countF k) #[.pointer (some ⟨b, 0, none⟩), .int .i64 (n : Nat)] w fun r w' => r = .returned (.int .i64 ((countS k s n).2 : Nat)) ∧ StAt k w' O R b g (countS k s n).1 ∧ Keep (fun x => O x ∨ R x) w w' ∧ (countS k s n).2 < 256 := by
  cases k with
  | wr =>
    obtain ⟨hW, he⟩ := h
    have h1 := hn rfl
    refine (wcount n h1 (hm rfl) hW).mono ?_
    rintro e w' ⟨rfl, hW', hK⟩
    exact ⟨rfl, ⟨hW', he⟩, hK, by show n < 256; omega⟩
  | pr =>
    have h' : PrAt w O R b g s := h
    refine (pcount _ h').mono ?_
    rintro e w' ⟨rfl, hP, hK, hl⟩
    exact ⟨rfl, hP, keep_pr h'.ob hK, hl⟩

theorem cflag (k : Kd) {w : World} {O R : Nat → Prop} {b g : Nat} {s : Sx} (x : Bool) (h : StAt k w O R b g s) (hm : Room k s 0) :
    Calls Try.prog (flagF k) #[.pointer (some ⟨b, 0, none⟩), .bool x] w fun r w' => r = .returned (.bool (flagS k s x).2) ∧ StAt k w' O R b g (flagS k s x).1 ∧ Keep (fun x => O x ∨ R x) w w' := by
  cases k with
  | wr =>
    obtain ⟨hW, he⟩ := h
    refine (wflag x (hm rfl) hW).mono ?_
    rintro e w' ⟨rfl, hW', hK⟩
    exact ⟨rfl, ⟨hW', he⟩, hK⟩
  | pr =>
    have h' : PrAt w O R b g s := h
    refine (pflag _ h').mono ?_
    rintro e w' ⟨rfl, hP, hK⟩
    exact ⟨rfl, hP, keep_pr h'.ob hK⟩

theorem cerrno (k : Kd) {w : World} {O R : Nat → Prop} {b g : Nat} {s : Sx} (rb o : Nat) (x : Int) (hx : k = .wr → 0 ≤ x ∧ x ≤ 255) (h : StAt k w O R b g s) (hR : R rb) (hO : ¬ O rb) (hc : w.cell? ⟨rb, o, none⟩ = some (.int .i64 x)) (hf : Free k w rb) (hm : Room k s 0) :
    Calls Try.prog (errnoF k) #[.pointer (some ⟨b, 0, none⟩), .pointer (some ⟨rb, o, none⟩)] w fun r w' => r = .returned (.tuple #[]) ∧ StAt k w' O R b g (errnoS k s x).1 ∧ w'.cell? ⟨rb, o, none⟩ = some (.int .i64 (errnoS k s x).2) ∧ Step (fun x => O x ∨ R x) rb o 1 w w' := by
  have hrl := lt_of_cell hc
  cases k with
  | wr =>
    obtain ⟨hW, he⟩ := h
    obtain ⟨h0, h1⟩ := hx rfl
    obtain ⟨n, rfl⟩ := Int.eq_ofNat_of_zero_le h0
    refine (werrno rb o n (by omega) (hm rfl) hW hc).mono ?_
    rintro e w' ⟨rfl, hW', hK⟩
    exact ⟨rfl, ⟨hW', he⟩, (hK.cell hrl (.inr hR)).trans hc, Step.of hK hrl (.inr hR)⟩
  | pr => exact perrno rb o _ h hR hO hc (hf rfl o)
end Go.Proofs.Ytghgkjollafeiaa

/-
  Lots and parts, carried either way, walked.
-/
namespace Go.Proofs.Ytghgkjollafeiaa
open Go.RowKit

theorem clot_ptrs (rb o : Nat) : #[Value.pointer (some ⟨rb, o, none⟩), Value.pointer (some ⟨rb, o + 1, none⟩), Value.pointer (some ⟨rb, o + 2, none⟩), Value.pointer (some ⟨rb, o + 3, none⟩), Value.pointer (some ⟨rb, o + 4, none⟩), Value.pointer (some ⟨rb, o + 5, none⟩), Value.pointer (some ⟨rb, o + 6, none⟩), Value.pointer (some ⟨rb, o + 7, none⟩), Value.pointer (some ⟨rb, o + 8, none⟩)].toList = (List.range 9).map fun i => Value.pointer (some ⟨rb, o + i, none⟩) := by
  simp [List.range_succ]

set_option maxRecDepth 100000 in
set_option maxHeartbeats 3200000 in
theorem clot (k : Kd) {w : World} {O R : Nat → Prop} {b g : Nat} {s : Sx} (rb o : Nat) (xs : List Int) (hn : xs.length = 9) (h : StAt k w O R b g s) (hR : R rb) (hO : ¬ O rb) (hI : IntsAt w rb o xs) (hf : Free k w rb) (hm : Room k s 72) :
    Calls Try.prog 54 #[.agg #[ifc k b], .pointer (some ⟨rb, o, none⟩)] w fun r w' => r = .returned (.tuple #[]) ∧ StAt k w' O R b g (numsS k s xs).1 ∧ IntsAt w' rb o (numsS k s xs).2 ∧ Step (fun x => O x ∨ R x) rb o 9 w w' := by
  have hrbl : rb < w.heap.size := lt_of_cell (hI 0 (by omega))
  have hK0 : Keep (fun _ => True) w (w.alloc (.cells #[ifc k b] 77)) := (Keep.refl _ w).alloc _
  have hs0 : (w.alloc (.cells #[ifc k b] 77)).heap.size = w.heap.size + 1 := by simp
  have hk0 : (w.alloc (.cells #[ifc k b] 77)).cell? ⟨w.heap.size, 0, none⟩ = some (ifc k b) := World.cell?_alloc_at _ _ _ _ rfl
  have hS0 : StAt k (w.alloc (.cells #[ifc k b] 77)) (fun x => O x ∨ x = w.heap.size) R b g s := h.more hK0 (fun x hx => by
    rcases hx with hx | hx
    · exact .inl hx
    · exact .inr (by omega)) (fun x hx => .inl hx) (fun x hx => .inl hx)
  have hI0 : IntsAt (w.alloc (.cells #[ifc k b] 77)) rb o xs := fun i hi => (hK0.cell hrbl trivial).trans (hI i hi)
  have hf0 : Free k (w.alloc (.cells #[ifc k b] 77)) rb := fun e o => (hK0.fz hrbl trivial).trans (hf e o)
  have HK0 := hide hK0
  have HOg := hide h.og
  have HS0 := hide hS0
  have HI0 := hide hI0
  have HF0 := hide hf0
  have HM := hide hm
  have HN := hide hn
  clear h hI hf hm hn hS0 hI0 hf0 hK0
  generalize hrk : w.heap.size = rk at *
  have hrkr : rk ≠ rb := by omega
  go_enter Try.func54, Try.ntmps54
  go_wp2_with fail
  have HRk := hide hrk
  clear hrk
  generalize w.alloc (.cells #[ifc k b] 77) = w0 at *
  have hz0 : rk < w0.heap.size := by omega
  clear hs0
  rcases k with _ | _
  all_goals
    dsimp only [ifc, tyOf] at hk0
    go_region_with (go_at_call 52; (first | refine (fnums .wr rb o 9 _ (clot_ptrs rb o) xs HN.out (by omega) (by omega) HS0.out hR (box_off hO hrkr) HI0.out HF0.out HM.out).mono ?_ | refine (fnums .pr rb o 9 _ (clot_ptrs rb o) xs HN.out (by omega) (by omega) HS0.out hR (box_off hO hrkr) HI0.out HF0.out HM.out).mono ?_); rintro e w3 ⟨rfl, hS3, hI3, hSt3⟩; have HS3 := hide hS3; have HI3 := hide hI3; have HSt3 := hide hSt3; clear hS3 hI3 hSt3)
    all_goals
      go_end0
      refine ⟨rfl, HS3.out.less (fun x hx => .inl hx) (fun x hx => hx) HOg.out, HI3.out, step_box (rk := rk) HK0.out ?_ HSt3.out⟩
      rw [HRk.out]; exact hrbl

theorem cpart_ptrs (rb o : Nat) : #[Value.pointer (some ⟨rb, o, none⟩), Value.pointer (some ⟨rb, o + 1, none⟩)].toList = (List.range 2).map fun i => Value.pointer (some ⟨rb, o + i, none⟩) := by
  simp [List.range_succ]

set_option maxRecDepth 100000 in
set_option maxHeartbeats 3200000 in
theorem cpart (k : Kd) {w : World} {O R : Nat → Prop} {b g : Nat} {s : Sx} (rb o : Nat) (xs : List Int) (hn : xs.length = 2) (h : StAt k w O R b g s) (hR : R rb) (hO : ¬ O rb) (hI : IntsAt w rb o xs) (hf : Free k w rb) (hm : Room k s 16) :
    Calls Try.prog 68 #[.agg #[ifc k b], .pointer (some ⟨rb, o, none⟩)] w fun r w' => r = .returned (.tuple #[]) ∧ StAt k w' O R b g (numsS k s xs).1 ∧ IntsAt w' rb o (numsS k s xs).2 ∧ Step (fun x => O x ∨ R x) rb o 2 w w' := by
  have hrbl : rb < w.heap.size := lt_of_cell (hI 0 (by omega))
  have hK0 : Keep (fun _ => True) w (w.alloc (.cells #[ifc k b] 77)) := (Keep.refl _ w).alloc _
  have hs0 : (w.alloc (.cells #[ifc k b] 77)).heap.size = w.heap.size + 1 := by simp
  have hk0 : (w.alloc (.cells #[ifc k b] 77)).cell? ⟨w.heap.size, 0, none⟩ = some (ifc k b) := World.cell?_alloc_at _ _ _ _ rfl
  have hS0 : StAt k (w.alloc (.cells #[ifc k b] 77)) (fun x => O x ∨ x = w.heap.size) R b g s := h.more hK0 (fun x hx => by
    rcases hx with hx | hx
    · exact .inl hx
    · exact .inr (by omega)) (fun x hx => .inl hx) (fun x hx => .inl hx)
  have hI0 : IntsAt (w.alloc (.cells #[ifc k b] 77)) rb o xs := fun i hi => (hK0.cell hrbl trivial).trans (hI i hi)
  have hf0 : Free k (w.alloc (.cells #[ifc k b] 77)) rb := fun e o => (hK0.fz hrbl trivial).trans (hf e o)
  have HK0 := hide hK0
  have HOg := hide h.og
  have HS0 := hide hS0
  have HI0 := hide hI0
  have HF0 := hide hf0
  have HM := hide hm
  have HN := hide hn
  clear h hI hf hm hn hS0 hI0 hf0 hK0
  generalize hrk : w.heap.size = rk at *
  have hrkr : rk ≠ rb := by omega
  go_enter Try.func68, Try.ntmps68
  go_wp2_with fail
  have HRk := hide hrk
  clear hrk
  generalize w.alloc (.cells #[ifc k b] 77) = w0 at *
  have hz0 : rk < w0.heap.size := by omega
  clear hs0
  rcases k with _ | _
  all_goals
    dsimp only [ifc, tyOf] at hk0
    go_region_with (go_at_call 52; (first | refine (fnums .wr rb o 2 _ (cpart_ptrs rb o) xs HN.out (by omega) (by omega) HS0.out hR (box_off hO hrkr) HI0.out HF0.out HM.out).mono ?_ | refine (fnums .pr rb o 2 _ (cpart_ptrs rb o) xs HN.out (by omega) (by omega) HS0.out hR (box_off hO hrkr) HI0.out HF0.out HM.out).mono ?_); rintro e w3 ⟨rfl, hS3, hI3, hSt3⟩; have HS3 := hide hS3; have HI3 := hide hI3; have HSt3 := hide hSt3; clear hS3 hI3 hSt3)
    all_goals
      go_end0
      refine ⟨rfl, HS3.out.less (fun x hx => .inl hx) (fun x hx => hx) HOg.out, HI3.out, step_box (rk := rk) HK0.out ?_ HSt3.out⟩
      rw [HRk.out]; exact hrbl
end Go.Proofs.Ytghgkjollafeiaa
