/-
  A plan, carried either way, walked.
-/
import Derived.Test.YtkbboingeacgjaaQRec
namespace Go.Proofs.Ytkbboingeacgjaa
open Go.RowKit

theorem mT_wr (b : Nat) (w : World) : Sem.run Try.prog (method 269 123 (.pointer (some ⟨b, 0, none⟩)) "toll/rec.text") w = .ok (101, .pointer (some ⟨b, 0, none⟩)) w := by kernel_rfl
theorem mT_pr (b : Nat) (w : World) : Sem.run Try.prog (method 269 128 (.pointer (some ⟨b, 0, none⟩)) "toll/rec.text") w = .ok (106, .pointer (some ⟨b, 0, none⟩)) w := by kernel_rfl

theorem ptrs_of (w : World) (rb o n : Nat) (cs : Array Value) (h : cs.toList = (List.range n).map fun i => Value.pointer (some ⟨rb, o + i, none⟩)) (i : Nat) (hi : i < n) : (w.alloc (.cells cs 135)).cell? ⟨w.heap.size, i, none⟩ = some (.pointer (some ⟨rb, o + i, none⟩)) := by
  rw [World.cell?_alloc_at _ _ _ _ rfl, ← Array.getElem?_toList, h]
  simp [hi]
theorem ptrs9 (rb o : Nat) : #[Value.pointer (some ⟨rb, o + 1, none⟩), .pointer (some ⟨rb, o + 2, none⟩), .pointer (some ⟨rb, o + 3, none⟩), .pointer (some ⟨rb, o + 4, none⟩), .pointer (some ⟨rb, o + 5, none⟩), .pointer (some ⟨rb, o + 6, none⟩), .pointer (some ⟨rb, o + 7, none⟩), .pointer (some ⟨rb, o + 8, none⟩), .pointer (some ⟨rb, o + 9, none⟩)].toList = (List.range 9).map fun i => Value.pointer (some ⟨rb, o + 1 + i, none⟩) := by
  simp [List.range_succ, Nat.add_assoc]

/-- A fresh row of pointers to a record's ints: 'nums' of it. -/
theorem fnums (k : Kd) {w : World} {O R : Nat → Prop} {b g : Nat} {s : Sx} (rb o n : Nat) (cs : Array Value) (hcs : cs.toList = (List.range n).map fun i => Value.pointer (some ⟨rb, o + i, none⟩)) (xs : List Int) (hn : xs.length = n) (hn0 : 0 < n) (hn2 : n ≤ 100) (h : StAt k w O R b g s) (hR : R rb) (hO : ¬ O rb) (hI : IntsAt w rb o xs) (hf : Free k w rb) (hm : Room k s (8 * n)) :
    Calls Try.prog 62 #[.agg #[ifc k b], .slice (some ⟨w.heap.size, 0, none⟩) n n] (w.alloc (.cells cs 135)).drew fun r w' => r = .returned (.tuple #[]) ∧ StAt k w' O R b g (numsS k s xs).1 ∧ IntsAt w' rb o (numsS k s xs).2 ∧ Step (fun x => O x ∨ R x) rb o n w w' := by
  have hrbl : rb < w.heap.size := lt_of_cell (hI 0 (by omega))
  have hw1 : (w.alloc (.cells cs 135)).drew.heap = (w.alloc (.cells cs 135)).heap ∧ (w.alloc (.cells cs 135)).drew.os = w.os ∧ (w.alloc (.cells cs 135)).drew.tape = w.tape ∧ (w.alloc (.cells cs 135)).drew.output = w.output := ⟨rfl, rfl, rfl, rfl⟩
  have hcell : ∀ i, i < n → (w.alloc (.cells cs 135)).drew.cell? ⟨w.heap.size, i, none⟩ = some (.pointer (some ⟨rb, o + i, none⟩)) := fun i hi => ptrs_of w rb o n cs hcs i hi
  generalize (w.alloc (.cells cs 135)).drew = w1 at *
  have hK : Keep (fun _ => True) w w1 := ⟨hw1.2.1, hw1.2.2.1, hw1.2.2.2, by rw [hw1.1]; simp, fun x hx _ => by rw [hw1.1]; exact Below.heap_alloc w _ x hx⟩
  have hsz : w1.heap.size = w.heap.size + 1 := by rw [hw1.1]; simp
  have hS : StAt k w1 (fun x => O x ∨ x = w.heap.size) R b g s := h.more hK (fun x hx => by
    rcases hx with hx | hx
    · exact .inl hx
    · exact .inr (by omega)) (fun x hx => .inl hx) (fun x hx => .inl hx)
  refine (cnums k rb o w.heap.size n xs hn hn0 hn2 hS hR (fun h => by rcases h with h | h; exact hO h; omega) (fun i hi => (hK.cell hrbl trivial).trans (hI i hi)) (fun e o => (hK.fz hrbl trivial).trans (hf e o)) hm (.inr rfl) hcell).mono ?_
  · rintro r w' ⟨rfl, h1, h2, h3⟩
    refine ⟨rfl, h1.less (fun x hx => .inl hx) (fun x hx => hx) h.og, h2, ⟨(hK.less (fun _ _ _ => trivial)).trans (h3.keep.less (fun x _ hx => ⟨hx.1.imp .inl id, hx.2⟩)), fun q hq => (h3.cell q hq).trans (hK.cell hrbl trivial), fun q => (h3.fz q).trans (hK.fz hrbl trivial), fun cs t fr h0 => h3.sh cs t fr ((hK.block _ hrbl trivial).trans h0)⟩⟩

/-- The carrier's box is nobody's. -/
theorem step_box {O R : Nat → Prop} {rk rb off n : Nat} {w w0 w' : World} (hK : Keep (fun _ => True) w w0) (hrb : rb < w.heap.size) (hs : Step (fun x => (O x ∨ x = rk) ∨ R x) rb off n w0 w') : Step (fun x => O x ∨ R x) rb off n w w' :=
  ⟨(hK.less (fun _ _ _ => trivial)).trans (hs.keep.less (fun _x _ hx => ⟨hx.1.imp .inl id, hx.2⟩)), fun q hq => (hs.cell q hq).trans (hK.cell hrb trivial), fun q => (hs.fz q).trans (hK.fz hrb trivial), fun cs t fr h0 => hs.sh cs t fr ((hK.block _ hrb trivial).trans h0)⟩
theorem textS_len (s : Sx) (nm : ByteArray) : (textS .wr s nm).1.l.length = s.l.length + 1 + nm.size := by
  show (s.l ++ [nm.size] ++ natBytes nm).length = _
  rw [List.length_append, List.length_append, natBytes_length]
  rfl
theorem Room.text {k : Kd} {s : Sx} {nm : ByteArray} {n m : Nat} (h : Room k s n) (hx : k = .wr → nm.size ≤ 255) (hm : m + 256 ≤ n) : Room k (textS k s nm).1 m := by
  intro e
  subst e
  rw [textS_len]
  have h1 := h rfl
  have h2 := hx rfl
  omega
theorem box_off {O : Nat → Prop} {rb rk : Nat} (hO : ¬ O rb) (h : rk ≠ rb) : ¬ (O rb ∨ rb = rk) := fun k => by
  rcases k with k | k
  · exact hO k
  · exact h k.symm

/-- A text, then ints: a plan, and a statement. -/
def tiS (k : Kd) (s : Sx) (nm : ByteArray) (xs : List Int) : Sx × ByteArray × List Int := ((numsS k (textS k s nm).1 xs).1, (textS k s nm).2, (numsS k (textS k s nm).1 xs).2)

set_option maxRecDepth 100000 in
set_option maxHeartbeats 3200000 in
theorem cplan (k : Kd) {w : World} {O R : Nat → Prop} {b g : Nat} {s : Sx} (rb o : Nat) (nm : ByteArray) (xs : List Int) (hn : xs.length = 9) (hx : k = .wr → nm.size ≤ 255) (h : StAt k w O R b g s) (hR : R rb) (hO : ¬ O rb) (hc : w.cell? ⟨rb, o, none⟩ = some (.string nm)) (hI : IntsAt w rb (o + 1) xs) (hf : Free k w rb) (hm : Room k s 400) :
    Calls Try.prog 85 #[.agg #[ifc k b], .pointer (some ⟨rb, o, none⟩)] w fun r w' => r = .returned (.tuple #[]) ∧ StAt k w' O R b g (tiS k s nm xs).1 ∧ w'.cell? ⟨rb, o, none⟩ = some (.string (tiS k s nm xs).2.1) ∧ IntsAt w' rb (o + 1) (tiS k s nm xs).2.2 ∧ Step (fun x => O x ∨ R x) rb o 10 w w' := by
  have hrbl : rb < w.heap.size := lt_of_cell hc
  have hK0 : Keep (fun _ => True) w (w.alloc (.cells #[ifc k b] 121)) := (Keep.refl _ w).alloc _
  have hs0 : (w.alloc (.cells #[ifc k b] 121)).heap.size = w.heap.size + 1 := by simp
  have hc0 : (w.alloc (.cells #[ifc k b] 121)).cell? ⟨w.heap.size, 0, none⟩ = some (ifc k b) := World.cell?_alloc_at _ _ _ _ rfl
  have hS0 : StAt k (w.alloc (.cells #[ifc k b] 121)) (fun x => O x ∨ x = w.heap.size) R b g s := h.more hK0 (fun x hx => by
    rcases hx with hx | hx
    · exact .inl hx
    · exact .inr (by omega)) (fun x hx => .inl hx) (fun x hx => .inl hx)
  have hI0 : IntsAt (w.alloc (.cells #[ifc k b] 121)) rb (o + 1) xs := fun i hi => (hK0.cell hrbl trivial).trans (hI i hi)
  have hcs0 : (w.alloc (.cells #[ifc k b] 121)).cell? ⟨rb, o, none⟩ = some (.string nm) := (hK0.cell hrbl trivial).trans hc
  have hf0 : Free k (w.alloc (.cells #[ifc k b] 121)) rb := fun e o => (hK0.fz hrbl trivial).trans (hf e o)
  have HK0 := hide hK0
  have HOg := hide h.og
  have HS0 := hide hS0
  have HI0 := hide hI0
  have HCs0 := hide hcs0
  have HF0 := hide hf0
  have HM := hide hm
  have HN := hide hn
  have HX := hide hx
  have hk0 := hc0
  clear h hI hf hm hc hn hx hS0 hI0 hcs0 hf0 hK0 hc0
  generalize hrk : w.heap.size = rk at *
  have hrkr : rk ≠ rb := by omega
  go_enter Try.func85, Try.ntmps85
  go_wp2_with fail
  have HRk := hide hrk
  clear hrk
  generalize w.alloc (.cells #[ifc k b] 121) = w0 at *
  have HC1 : Hid (∀ w1, Keep (fun _ => True) w0 w1 → Calls Try.prog (textF k) #[.pointer (some ⟨b, 0, none⟩), .pointer (some ⟨rb, o, none⟩)] w1 fun r w' => r = .returned (.tuple #[]) ∧ StAt k w' (fun x => O x ∨ x = rk) R b g (textS k s nm).1 ∧ w'.cell? ⟨rb, o, none⟩ = some (.string (textS k s nm).2) ∧ Step (fun x => (O x ∨ x = rk) ∨ R x) rb o 1 w1 w') := fun w1 hK => ctext k rb o nm HX.out (HS0.out.keep hK) hR (fun h => by rcases h with h | h; exact hO h; exact hrkr h.symm) ((hK.cell (by omega) trivial).trans HCs0.out) (fun e o => (hK.fz (by omega) trivial).trans (HF0.out e o)) (fun e => by have := HM.out e; omega)
  have HRm := hide (HM.out.text (m := 72) HX.out (by omega))
  clear HX
  have h2 := mT_wr b
  have h3 := mT_pr b
  rcases k with _ | _
  all_goals
    dsimp only [ifc, tyOf] at hk0
    go_region_with ((first | go_at_call 101 | go_at_call 106); refine (HC1.out _ (Keep.refl _ _).drew).mono ?_; rintro e w2 ⟨rfl, hS2, hc2, hSt2⟩; have hk2 := (hSt2.keep.cell (b := rk) (o := 0) (by show rk < w0.heap.size; omega) ⟨.inl (.inr rfl), hrkr⟩).trans hk0; have HS2 := hide hS2; have HC2 := hide hc2; have HSt2 := hide hSt2; clear hS2 hc2 hSt2)
    all_goals
      have hz2 : rk < w2.heap.size := Nat.lt_of_lt_of_le (show rk < w0.drew.heap.size by show rk < w0.heap.size; omega) HSt2.out.keep.size
      have HI2 := hide (IntsAt.step (w := w0.drew) HI0.out HSt2.out (.inr (Nat.le_refl _)))
      have HF2 := hide (Free.step (w := w0.drew) HF0.out HSt2.out)
      go_wp2_with fail
      go_region_with (go_at_call 62; (first | refine (fnums .wr rb (o + 1) 9 _ (ptrs9 rb o) xs HN.out (by omega) (by omega) HS2.out hR (box_off hO hrkr) HI2.out HF2.out HRm.out).mono ?_ | refine (fnums .pr rb (o + 1) 9 _ (ptrs9 rb o) xs HN.out (by omega) (by omega) HS2.out hR (box_off hO hrkr) HI2.out HF2.out HRm.out).mono ?_); rintro e w3 ⟨rfl, hS3, hI3, hSt3⟩; have HS3 := hide hS3; have HI3 := hide hI3; have HSt3 := hide hSt3; clear hS3 hI3 hSt3)
      all_goals
        go_end0
        refine ⟨rfl, HS3.out.less (fun x hx => .inl hx) (fun x hx => hx) HOg.out, (HSt3.out.cell o (by omega)).trans HC2.out, HI3.out, step_box (rk := rk) HK0.out.drew ?_ ((HSt2.out.wide (by omega) (by omega)).trans (HSt3.out.wide (by omega) (by omega)))⟩
        rw [HRk.out]; exact hrbl
end Go.Proofs.Ytkbboingeacgjaa
