/-
  Accounts: their cells, and what is carried into them.
-/
import Derived.Test.YtghgkjollafeiaaPE
import Derived.Test.YtghgkjollafeiaaPH
import Derived.Test.YtghgkjollafeiaaPLl
namespace Go.Proofs.Ytghgkjollafeiaa
open Go.RowKit

/-- An account's cells. -/
structure AccAt (w : World) (rb : Nat) (nm key pn : ByteArray) (px t : List Int) (v1 : Value) (n : List Int) (v2 v3 : Value) : Prop where
  lp : px.length = 9
  lt : t.length = 3
  ln : n.length = 2
  nm : w.cell? ⟨rb, 0, none⟩ = some (.string nm)
  key : w.cell? ⟨rb, 1, none⟩ = some (.string key)
  pn : w.cell? ⟨rb, 2, none⟩ = some (.string pn)
  px : IntsAt w rb (2 + 1) px
  t : IntsAt w rb 12 t
  v1 : w.cell? ⟨rb, 15, none⟩ = some v1
  n : IntsAt w rb 16 n
  v2 : w.cell? ⟨rb, 18, none⟩ = some v2
  v3 : w.cell? ⟨rb, 19, none⟩ = some v3
def accL (nm key pn : ByteArray) (px t : List Int) (v1 : Value) (n : List Int) (v2 v3 : Value) : List Value :=
  .string nm :: .string key :: .string pn :: (intC px ++ (intC t ++ v1 :: (intC n ++ [v2, v3])))
theorem intC_length (l : List Int) : (intC l).length = l.length := by unfold intC; rw [List.length_map]
theorem accL_length {nm key pn : ByteArray} {px t : List Int} {v1 : Value} {n : List Int} {v2 v3 : Value} (h1 : px.length = 9) (h2 : t.length = 3) (h3 : n.length = 2) : (accL nm key pn px t v1 n v2 v3).length = 20 := by
  simp [accL, intC_length, h1, h2, h3]
theorem rangeAt_cons {w : World} {q o : Nat} {v : Value} {l : List Value} (h : w.rangeAt q o (v :: l)) : w.cell? ⟨q, o, none⟩ = some v ∧ w.rangeAt q (o + 1) l := ⟨h 0 v rfl, fun j u hj => by
  have := h (j + 1) u hj
  rw [show o + (j + 1) = o + 1 + j by omega] at this
  exact this⟩
theorem cons_rangeAt {w : World} {q o : Nat} {v : Value} {l : List Value} (h : w.cell? ⟨q, o, none⟩ = some v) (k : w.rangeAt q (o + 1) l) : w.rangeAt q o (v :: l) := fun j u hj => by
  match j, hj with
  | 0, hj => rw [← Option.some.inj hj]; exact h
  | j + 1, hj =>
    rw [show o + (j + 1) = o + 1 + j by omega]
    exact k j u hj
theorem app_rangeAt {w : World} {q o : Nat} {xs ys : List Value} (h : w.rangeAt q o xs) (k : w.rangeAt q (o + xs.length) ys) : w.rangeAt q o (xs ++ ys) := fun j u hj => by
  by_cases hlt : j < xs.length
  · rw [List.getElem?_append_left hlt] at hj
    exact h j u hj
  · rw [List.getElem?_append_right (by omega)] at hj
    have := k _ u hj
    rw [show o + xs.length + (j - xs.length) = o + j by omega] at this
    exact this
theorem AccAt.of {w : World} {rb : Nat} {nm key pn : ByteArray} {px t : List Int} {v1 : Value} {n : List Int} {v2 v3 : Value} (h : w.rangeAt rb 0 (accL nm key pn px t v1 n v2 v3)) (h1 : px.length = 9) (h2 : t.length = 3) (h3 : n.length = 2) : AccAt w rb nm key pn px t v1 n v2 v3 := by
  obtain ⟨a0, h⟩ := rangeAt_cons h
  obtain ⟨a1, h⟩ := rangeAt_cons h
  obtain ⟨a2, h⟩ := rangeAt_cons h
  have a3 := rangeAt_left h
  have h := rangeAt_right h
  rw [intC_length, h1] at h
  have a4 := rangeAt_left h
  have h := rangeAt_right h
  rw [intC_length, h2] at h
  obtain ⟨a5, h⟩ := rangeAt_cons h
  have a6 := rangeAt_left h
  have h := rangeAt_right h
  rw [intC_length, h3] at h
  obtain ⟨a7, h⟩ := rangeAt_cons h
  obtain ⟨a8, h⟩ := rangeAt_cons h
  exact ⟨h1, h2, h3, a0, a1, a2, ints_range a3, ints_range a4, a5, ints_range a6, a7, a8⟩
theorem AccAt.range {w : World} {rb : Nat} {nm key pn : ByteArray} {px t : List Int} {v1 : Value} {n : List Int} {v2 v3 : Value} (h : AccAt w rb nm key pn px t v1 n v2 v3) : w.rangeAt rb 0 (accL nm key pn px t v1 n v2 v3) := by
  refine cons_rangeAt h.nm (cons_rangeAt h.key (cons_rangeAt h.pn (app_rangeAt (range_ints h.px) ?_)))
  rw [intC_length, h.lp]
  refine app_rangeAt (range_ints h.t) ?_
  rw [intC_length, h.lt]
  refine cons_rangeAt h.v1 (app_rangeAt (range_ints h.n) ?_)
  rw [intC_length, h.ln]
  exact cons_rangeAt h.v2 (cons_rangeAt h.v3 (fun j u hj => by simp at hj))
theorem AccAt.uN {w w' : World} {b rb : Nat} {nm key pn : ByteArray} {px t : List Int} {v1 : Value} {n : List Int} {v2 v3 : Value} {nm' : ByteArray} (h : AccAt w rb nm key pn px t v1 n v2 v3) (hs : PStep b rb 0 1 w w') (h_nm : w'.cell? ⟨rb, 0, none⟩ = some (.string nm')) : AccAt w' rb nm' key pn px t v1 n v2 v3 := ⟨h.lp, h.lt, h.ln, h_nm, ((hs.cell _ (by omega)).trans h.key), ((hs.cell _ (by omega)).trans h.pn), (fun i hi => (hs.cell _ (by have := h.lp; omega)).trans (h.px i hi)), (fun i hi => (hs.cell _ (by have := h.lt; omega)).trans (h.t i hi)), ((hs.cell _ (by omega)).trans h.v1), (fun i hi => (hs.cell _ (by have := h.ln; omega)).trans (h.n i hi)), ((hs.cell _ (by omega)).trans h.v2), ((hs.cell _ (by omega)).trans h.v3)⟩
theorem AccAt.uK {w w' : World} {b rb : Nat} {nm key pn : ByteArray} {px t : List Int} {v1 : Value} {n : List Int} {v2 v3 : Value} {key' : ByteArray} (h : AccAt w rb nm key pn px t v1 n v2 v3) (hs : PStep b rb 1 1 w w') (h_key : w'.cell? ⟨rb, 1, none⟩ = some (.string key')) : AccAt w' rb nm key' pn px t v1 n v2 v3 := ⟨h.lp, h.lt, h.ln, ((hs.cell _ (by omega)).trans h.nm), h_key, ((hs.cell _ (by omega)).trans h.pn), (fun i hi => (hs.cell _ (by have := h.lp; omega)).trans (h.px i hi)), (fun i hi => (hs.cell _ (by have := h.lt; omega)).trans (h.t i hi)), ((hs.cell _ (by omega)).trans h.v1), (fun i hi => (hs.cell _ (by have := h.ln; omega)).trans (h.n i hi)), ((hs.cell _ (by omega)).trans h.v2), ((hs.cell _ (by omega)).trans h.v3)⟩
theorem AccAt.uP {w w' : World} {b rb : Nat} {nm key pn : ByteArray} {px t : List Int} {v1 : Value} {n : List Int} {v2 v3 : Value} {pn' : ByteArray} {px' : List Int} (h : AccAt w rb nm key pn px t v1 n v2 v3) (hs : PStep b rb 2 10 w w') (h_pn : w'.cell? ⟨rb, 2, none⟩ = some (.string pn')) (h_px : IntsAt w' rb (2 + 1) px') (l_px : px'.length = 9) : AccAt w' rb nm key pn' px' t v1 n v2 v3 := ⟨l_px, h.lt, h.ln, ((hs.cell _ (by omega)).trans h.nm), ((hs.cell _ (by omega)).trans h.key), h_pn, h_px, (fun i hi => (hs.cell _ (by have := h.lt; omega)).trans (h.t i hi)), ((hs.cell _ (by omega)).trans h.v1), (fun i hi => (hs.cell _ (by have := h.ln; omega)).trans (h.n i hi)), ((hs.cell _ (by omega)).trans h.v2), ((hs.cell _ (by omega)).trans h.v3)⟩
theorem AccAt.uT {w w' : World} {b rb : Nat} {nm key pn : ByteArray} {px t : List Int} {v1 : Value} {n : List Int} {v2 v3 : Value} {t' : List Int} (h : AccAt w rb nm key pn px t v1 n v2 v3) (hs : PStep b rb 12 3 w w') (h_t : IntsAt w' rb 12 t') (l_t : t'.length = 3) : AccAt w' rb nm key pn px t' v1 n v2 v3 := ⟨h.lp, l_t, h.ln, ((hs.cell _ (by omega)).trans h.nm), ((hs.cell _ (by omega)).trans h.key), ((hs.cell _ (by omega)).trans h.pn), (fun i hi => (hs.cell _ (by have := h.lp; omega)).trans (h.px i hi)), h_t, ((hs.cell _ (by omega)).trans h.v1), (fun i hi => (hs.cell _ (by have := h.ln; omega)).trans (h.n i hi)), ((hs.cell _ (by omega)).trans h.v2), ((hs.cell _ (by omega)).trans h.v3)⟩
theorem AccAt.u1 {w w' : World} {b rb : Nat} {nm key pn : ByteArray} {px t : List Int} {v1 : Value} {n : List Int} {v2 v3 : Value} {v1' : Value} (h : AccAt w rb nm key pn px t v1 n v2 v3) (hs : PStep b rb 15 1 w w') (h_v1 : w'.cell? ⟨rb, 15, none⟩ = some v1') : AccAt w' rb nm key pn px t v1' n v2 v3 := ⟨h.lp, h.lt, h.ln, ((hs.cell _ (by omega)).trans h.nm), ((hs.cell _ (by omega)).trans h.key), ((hs.cell _ (by omega)).trans h.pn), (fun i hi => (hs.cell _ (by have := h.lp; omega)).trans (h.px i hi)), (fun i hi => (hs.cell _ (by have := h.lt; omega)).trans (h.t i hi)), h_v1, (fun i hi => (hs.cell _ (by have := h.ln; omega)).trans (h.n i hi)), ((hs.cell _ (by omega)).trans h.v2), ((hs.cell _ (by omega)).trans h.v3)⟩
theorem AccAt.uM {w w' : World} {b rb : Nat} {nm key pn : ByteArray} {px t : List Int} {v1 : Value} {n : List Int} {v2 v3 : Value} {n' : List Int} (h : AccAt w rb nm key pn px t v1 n v2 v3) (hs : PStep b rb 16 2 w w') (h_n : IntsAt w' rb 16 n') (l_n : n'.length = 2) : AccAt w' rb nm key pn px t v1 n' v2 v3 := ⟨h.lp, h.lt, l_n, ((hs.cell _ (by omega)).trans h.nm), ((hs.cell _ (by omega)).trans h.key), ((hs.cell _ (by omega)).trans h.pn), (fun i hi => (hs.cell _ (by have := h.lp; omega)).trans (h.px i hi)), (fun i hi => (hs.cell _ (by have := h.lt; omega)).trans (h.t i hi)), ((hs.cell _ (by omega)).trans h.v1), h_n, ((hs.cell _ (by omega)).trans h.v2), ((hs.cell _ (by omega)).trans h.v3)⟩
theorem AccAt.u2 {w w' : World} {b rb : Nat} {nm key pn : ByteArray} {px t : List Int} {v1 : Value} {n : List Int} {v2 v3 : Value} {v2' : Value} (h : AccAt w rb nm key pn px t v1 n v2 v3) (hs : PStep b rb 18 1 w w') (h_v2 : w'.cell? ⟨rb, 18, none⟩ = some v2') : AccAt w' rb nm key pn px t v1 n v2' v3 := ⟨h.lp, h.lt, h.ln, ((hs.cell _ (by omega)).trans h.nm), ((hs.cell _ (by omega)).trans h.key), ((hs.cell _ (by omega)).trans h.pn), (fun i hi => (hs.cell _ (by have := h.lp; omega)).trans (h.px i hi)), (fun i hi => (hs.cell _ (by have := h.lt; omega)).trans (h.t i hi)), ((hs.cell _ (by omega)).trans h.v1), (fun i hi => (hs.cell _ (by have := h.ln; omega)).trans (h.n i hi)), h_v2, ((hs.cell _ (by omega)).trans h.v3)⟩
theorem AccAt.u3 {w w' : World} {b rb : Nat} {nm key pn : ByteArray} {px t : List Int} {v1 : Value} {n : List Int} {v2 v3 : Value} {v3' : Value} (h : AccAt w rb nm key pn px t v1 n v2 v3) (hs : PStep b rb 19 1 w w') (h_v3 : w'.cell? ⟨rb, 19, none⟩ = some v3') : AccAt w' rb nm key pn px t v1 n v2 v3' := ⟨h.lp, h.lt, h.ln, ((hs.cell _ (by omega)).trans h.nm), ((hs.cell _ (by omega)).trans h.key), ((hs.cell _ (by omega)).trans h.pn), (fun i hi => (hs.cell _ (by have := h.lp; omega)).trans (h.px i hi)), (fun i hi => (hs.cell _ (by have := h.lt; omega)).trans (h.t i hi)), ((hs.cell _ (by omega)).trans h.v1), (fun i hi => (hs.cell _ (by have := h.ln; omega)).trans (h.n i hi)), ((hs.cell _ (by omega)).trans h.v2), h_v3⟩

/-- An account. -/
structure AccD where
  nm : ByteArray
  key : ByteArray
  pn : ByteArray
  px : List Int
  t : List Int
  lots : List (List Int)
  n : List Int
  holds : List HoldD
  win : List EntD
def noT : ByteArray := ByteArray.empty
def fa1 (s : Sx) : Sx × ByteArray := textS .pr s noT
def fa2 (s : Sx) : Sx × ByteArray := textS .pr (fa1 s).1 noT
def fa3 (s : Sx) : Sx × ByteArray × List Int := tiS .pr (fa2 s).1 noT (nz 9)
def fa4 (s : Sx) : Sx × List Int := numsS .pr (fa3 s).1 (nz 3)
def fa5 (s : Sx) : Sx × List (List Int) := listS F9 (fa4 s).1
def fa6 (s : Sx) : Sx × List Int := numsS .pr (fa5 s).1 (nz 2)
def fa7 (s : Sx) : Sx × List HoldD := listS FH (fa6 s).1
def fa8 (s : Sx) : Sx × List EntD := listS FE (fa7 s).1
def FA (s : Sx) : Sx × AccD := ((fa8 s).1, ⟨(fa1 s).2, (fa2 s).2, (fa3 s).2.1, (fa3 s).2.2, (fa4 s).2, (fa5 s).2, (fa6 s).2, (fa7 s).2, (fa8 s).2⟩)
/-- An account that was parsed: its rows are the call's own (from block B on). -/
def AccG (B : Nat) (w : World) (rb : Nat) (d : AccD) : Prop := ∃ v1 v2 v3 p1 p2 p3, AccAt w rb d.nm d.key d.pn d.px d.t v1 d.n v2 v3 ∧ p1.map Prod.snd = d.lots ∧ RowP B w 82 9 IntsG v1 p1 ∧ p2.map Prod.snd = d.holds ∧ RowP B w 65 4 HoldG v2 p2 ∧ p3.map Prod.snd = d.win ∧ RowP B w 69 14 EntG v3 p3
theorem RowP.step {D : Type} {B b rb off n : Nat} {w w' : World} {t sz : Nat} {good : World → List Value → D → Prop} {v : Value} {ps : List (List Value × D)} (h : RowP B w t sz good v ps) (hG : Stays good) (hb : b < B) (hr : rb < B) (hs : PStep b rb off n w w') : RowP B w' t sz good v ps :=
  h.keep hG hs.keep.size (fun x h1 h2 => hs.keep.block x h2 ⟨by omega, by omega⟩)
theorem ptrs_a3 (rb : Nat) : #[Value.pointer (some ⟨rb, 12, none⟩), Value.pointer (some ⟨rb, 13, none⟩), Value.pointer (some ⟨rb, 14, none⟩)].toList = (List.range 3).map fun i => Value.pointer (some ⟨rb, 12 + i, none⟩) := by
  simp [List.range_succ]
theorem ptrs_a2 (rb : Nat) : #[Value.pointer (some ⟨rb, 16, none⟩), Value.pointer (some ⟨rb, 17, none⟩)].toList = (List.range 2).map fun i => Value.pointer (some ⟨rb, 16 + i, none⟩) := by
  simp [List.range_succ]
end Go.Proofs.Ytghgkjollafeiaa
