/-
  An entry of the window, carried either way, walked.
-/
import Derived.Test.YtghgkjollafeiaaStm
import Derived.Test.YtghgkjollafeiaaRec2
import Derived.Test.YtghgkjollafeiaaWHold
namespace Go.Proofs.Ytghgkjollafeiaa
open Go.RowKit

theorem mR_pr (b : Nat) (w : World) : Sem.run Try.prog (method 273 130 (.pointer (some ⟨b, 0, none⟩)) "toll/rec.refuse") w = .ok (69, .pointer (some ⟨b, 0, none⟩)) w := by kernel_rfl
theorem mF_pr (b : Nat) (w : World) : Sem.run Try.prog (method 273 130 (.pointer (some ⟨b, 0, none⟩)) "toll/rec.flag") w = .ok (94, .pointer (some ⟨b, 0, none⟩)) w := by kernel_rfl
theorem mF_wr (b : Nat) (w : World) : Sem.run Try.prog (method 273 110 (.pointer (some ⟨b, 0, none⟩)) "toll/rec.flag") w = .ok (88, .pointer (some ⟨b, 0, none⟩)) w := by kernel_rfl
theorem mE_pr (b : Nat) (w : World) : Sem.run Try.prog (method 273 130 (.pointer (some ⟨b, 0, none⟩)) "toll/rec.errno") w = .ok (93, .pointer (some ⟨b, 0, none⟩)) w := by kernel_rfl
theorem mE_wr (b : Nat) (w : World) : Sem.run Try.prog (method 273 110 (.pointer (some ⟨b, 0, none⟩)) "toll/rec.errno") w = .ok (87, .pointer (some ⟨b, 0, none⟩)) w := by kernel_rfl
theorem mN_pr' (b : Nat) (w : World) : Sem.run Try.prog (method 273 130 (.pointer (some ⟨b, 0, none⟩)) "toll/rec.num") w = .ok (95, .pointer (some ⟨b, 0, none⟩)) w := by kernel_rfl

/-- An entry. -/
structure EntD where
  id : Int
  er : Int
  l : List Int
  nm : ByteArray
  xs : List Int
structure EntAt (w : World) (rb o : Nat) (d : EntD) : Prop where
  c0 : w.cell? ⟨rb, o, none⟩ = some (.int .i64 d.id)
  c1 : w.cell? ⟨rb, o + 1, none⟩ = some (.int .i64 d.er)
  l : IntsAt w rb (o + 2) d.l
  c5 : w.cell? ⟨rb, o + 5, none⟩ = some (.string d.nm)
  xs : IntsAt w rb (o + 6) d.xs
theorem EntAt.keep {w w' : World} {rb o : Nat} {d : EntD} (h : EntAt w rb o d) (hK : ∀ q, w'.cell? ⟨rb, q, none⟩ = w.cell? ⟨rb, q, none⟩) : EntAt w' rb o d :=
  ⟨(hK _).trans h.c0, (hK _).trans h.c1, fun i hi => (hK _).trans (h.l i hi), (hK _).trans h.c5, fun i hi => (hK _).trans (h.xs i hi)⟩

def ent1 (k : Kd) (s : Sx) (d : EntD) : Sx × Int := numS k s d.id
def ent2 (k : Kd) (s : Sx) (d : EntD) : Sx × Int := errnoS k (ent1 k s d).1 d.er
def ent3 (k : Kd) (s : Sx) (d : EntD) : Sx × List Int := numsS k (ent2 k s d).1 d.l
def ent4 (k : Kd) (s : Sx) (d : EntD) : Sx × Bool := flagS k (ent3 k s d).1 (!decide (d.xs.headD 0 = 0))
def ent5 (k : Kd) (s : Sx) (d : EntD) : Sx × ByteArray × List Int := tiS k (ent4 k s d).1 d.nm d.xs
def entS (k : Kd) (s : Sx) (d : EntD) : Sx × EntD :=
  if (ent4 k s d).2 then (if (ent5 k s d).2.2.headD 0 = 0 then refuseS (ent5 k s d).1 11 else (ent5 k s d).1, ⟨(ent1 k s d).2, (ent2 k s d).2, (ent3 k s d).2, (ent5 k s d).2.1, (ent5 k s d).2.2⟩)
  else ((ent4 k s d).1, ⟨(ent1 k s d).2, (ent2 k s d).2, (ent3 k s d).2, d.nm, d.xs⟩)

theorem ptrs_e (rb o : Nat) : #[Value.pointer (some ⟨rb, o + 2, none⟩), Value.pointer (some ⟨rb, o + 3, none⟩), Value.pointer (some ⟨rb, o + 4, none⟩)].toList = (List.range 3).map fun i => Value.pointer (some ⟨rb, o + 2 + i, none⟩) := by
  simp [List.range_succ, Nat.add_assoc]
theorem ptrs_s (rb o : Nat) : #[Value.pointer (some ⟨rb, o + 6, none⟩), .pointer (some ⟨rb, o + 7, none⟩), .pointer (some ⟨rb, o + 8, none⟩), .pointer (some ⟨rb, o + 9, none⟩), .pointer (some ⟨rb, o + 10, none⟩), .pointer (some ⟨rb, o + 11, none⟩), .pointer (some ⟨rb, o + 12, none⟩), .pointer (some ⟨rb, o + 13, none⟩)].toList = (List.range 8).map fun i => Value.pointer (some ⟨rb, o + 6 + i, none⟩) := by
  simp [List.range_succ, Nat.add_assoc]
theorem Step.box {O R : Nat → Prop} {rk rb off n : Nat} {w w0 w' : World} (hK : Keep (fun _ => True) w w0) (hrb : rb < w.heap.size) (hs : Step (fun x => (O x ∨ x = rk) ∨ R x) rb off n w0 w') : Step (fun x => O x ∨ R x) rb off n w w' := step_box hK hrb hs
theorem Step.undrew {P : Nat → Prop} {rb off n : Nat} {w w' : World} (h : Step P rb off n w.drew w') : Step P rb off n w w' := ⟨⟨h.keep.os, h.keep.tape, h.keep.output, h.keep.size, h.keep.block⟩, h.cell, h.fz, h.sh⟩

theorem Free.drew {k : Kd} {w : World} {rb : Nat} (h : Free k w rb) : Free k w.drew rb := h
theorem StAt.drew {k : Kd} {w : World} {O R : Nat → Prop} {b g : Nat} {s : Sx} (h : StAt k w O R b g s) : StAt k w.drew O R b g s := h.keep (Keep.refl _ _).drew

/-- What is behind a flag that says that there is no statement. -/
theorem ent_none {k : Kd} {O R : Nat → Prop} {rk rb o : Nat} {w w0 w1 w2 w3 w4 : World} {d : EntD} {x1 x2 : Int} {x3 : List Int} (_hl3 : x3.length = 3) (hK : Keep (fun _ => True) w w0) (hrb : rb < w.heap.size) (hE : EntAt w0 rb o d)
    (h1 : Step (fun x => (O x ∨ x = rk) ∨ R x) rb o 1 w0 w1) (a1 : w1.cell? ⟨rb, o, none⟩ = some (.int .i64 x1)) (h2 : Step (fun x => (O x ∨ x = rk) ∨ R x) rb (o + 1) 1 w1 w2) (a2 : w2.cell? ⟨rb, o + 1, none⟩ = some (.int .i64 x2)) (h3 : Step (fun x => (O x ∨ x = rk) ∨ R x) rb (o + 2) 3 w2 w3) (a3 : IntsAt w3 rb (o + 2) x3)
    (h4 : Keep (fun x => (O x ∨ x = rk) ∨ R x) w3 w4) (hR : R rb) (_hk : k = k) : EntAt w4 rb o ⟨x1, x2, x3, d.nm, d.xs⟩ ∧ Step (fun x => (O x ∨ x = rk) ∨ R x) rb o 14 w0 w4 := by
  have hr0 : rb < w0.heap.size := Nat.lt_of_lt_of_le hrb hK.size
  have hr1 : rb < w1.heap.size := Nat.lt_of_lt_of_le hr0 h1.keep.size
  have hr2 : rb < w2.heap.size := Nat.lt_of_lt_of_le hr1 h2.keep.size
  have hr3 : rb < w3.heap.size := Nat.lt_of_lt_of_le hr2 h3.keep.size
  have c4 : ∀ q, w4.cell? ⟨rb, q, none⟩ = w3.cell? ⟨rb, q, none⟩ := fun q => h4.cell hr3 (.inr hR)
  refine ⟨⟨?_, ?_, fun i hi => ?_, ?_, fun i hi => ?_⟩, (h1.wide (by omega) (by omega)).trans ((h2.wide (by omega) (by omega)).trans ((h3.wide (by omega) (by omega)).trans (Step.of h4 hr3 (.inr hR))))⟩
  · rw [c4, h3.cell o (by omega), h2.cell o (by omega)]; exact a1
  · rw [c4, h3.cell (o + 1) (by omega)]; exact a2
  · rw [c4]; exact a3 i hi
  · rw [c4, h3.cell (o + 5) (by omega), h2.cell (o + 5) (by omega), h1.cell (o + 5) (by omega)]; exact hE.c5
  · rw [c4, h3.cell (o + 6 + i) (by omega), h2.cell (o + 6 + i) (by omega), h1.cell (o + 6 + i) (by omega)]; exact hE.xs i hi

/-- What is behind a statement. -/
theorem ent_some {P : Nat → Prop} {rb o : Nat} {w0 w4 w5 w6 : World} {d : EntD} {nm : ByteArray} {xs : List Int} (hE : EntAt w4 rb o d) (h0 : Step P rb o 14 w0 w4) (h5 : Step P rb (o + 5) 1 w4 w5) (a5 : w5.cell? ⟨rb, o + 5, none⟩ = some (.string nm)) (h6 : Step P rb (o + 6) 8 w5 w6) (a6 : IntsAt w6 rb (o + 6) xs) (hl : d.l.length = 3) :
    EntAt w6 rb o ⟨d.id, d.er, d.l, nm, xs⟩ ∧ Step P rb o 14 w0 w6 := by
  refine ⟨⟨?_, ?_, fun i hi => ?_, ?_, a6⟩, h0.trans ((h5.wide (by omega) (by omega)).trans (h6.wide (by omega) (by omega)))⟩
  · rw [h6.cell o (by omega), h5.cell o (by omega)]; exact hE.c0
  · rw [h6.cell (o + 1) (by omega), h5.cell (o + 1) (by omega)]; exact hE.c1
  · have hi : i < d.l.length := hi
    rw [h6.cell (o + 2 + i) (by omega), h5.cell (o + 2 + i) (by omega)]; exact hE.l i hi
  · rw [h6.cell (o + 5) (by omega)]; exact a5

end Go.Proofs.Ytghgkjollafeiaa
