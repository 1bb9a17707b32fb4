/-
  How requests, answers, bytes and ints read as arguments.
-/
import Derived.Test.YtkbboingeacgjaaFLaw1
import Derived.Deep.Strs
import Derived.ProofKit
import Derived.Deep.Slices
import Derived.SizedLaws
namespace Go.Proofs.Ytkbboingeacgjaa
open Go.RowKit Go.ChangeShapes Go.WideShapes Go.ChangeAt Go.Deep

theorem bsize (s : ByteArray) : s.size = s.data.toList.length := by rw [Array.length_toList]; rfl

theorem cells9 : Try.prog.cellsOf 9 = 1 := by kernel_rfl

theorem cells3 : Try.prog.cellsOf 3 = 1 := by kernel_rfl

theorem cellsP : Try.prog.cellsOf 23 = 10 := by kernel_rfl

theorem cellsR : Try.prog.cellsOf 25 = 18 := by kernel_rfl

theorem i64_of {x : Int} (h : (Lit.int .i64 x).wf = true) : I64 x := by
  have := bounds_i64 h
  unfold I64
  omega

set_option maxRecDepth 100000 in
/-- The values of such a struct. -/
theorem open_plan {H : Type} {enc : TypeId × Value → H} {W : World} {base : Nat} {spare : Nat → Bool} {held : Bool} {fuel : Nat} {cs : List Value} {y : DataW H × List MemPlace} (h : DataW.trod enc Try.prog W base spare held fuel 23 cs = some y) :
    ∃ (nm : ByteArray) (x1 x2 x3 x4 x5 x6 x7 x8 x9 : Int), cs = [.string nm, .int .i64 x1, .int .i64 x2, .int .i64 x3, .int .i64 x4, .int .i64 x5, .int .i64 x6, .int .i64 x7, .int .i64 x8, .int .i64 x9] ∧ (∀ x ∈ [x1, x2, x3, x4, x5, x6, x7, x8, x9], I64 x) ∧ nm.size ≤ maxLen ∧ ((∀ x ∈ y.1.weights Try.prog 23, x ≤ reachBytes) → nm.size ≤ reachBytes) := by
  obtain ⟨xs, m, _, hy, hl, hlen, hf⟩ := DataW.trod_struct Try.underlying23 h
  rw [cellsP] at hl
  obtain ⟨c0, c1, c2, c3, c4, c5, c6, c7, c8, c9, rfl⟩ : ∃ c0 c1 c2 c3 c4 c5 c6 c7 c8 c9, cs = [c0, c1, c2, c3, c4, c5, c6, c7, c8, c9] := by
    match cs, hl with
    | [c0, c1, c2, c3, c4, c5, c6, c7, c8, c9], _ => exact ⟨c0, c1, c2, c3, c4, c5, c6, c7, c8, c9, rfl⟩
  have hg : ∀ i (hi : i < xs.length), xs[i]? = some xs[i] := fun i hi => List.getElem?_eq_getElem hi
  have hn : xs.length = 10 := hlen
  obtain ⟨nm, e0, g0, hnm⟩ := DataW.trod_string Try.underlying9 ((hf 0 _ rfl).trans (hg 0 (by omega)))
  obtain ⟨x1, e1, _, b1⟩ := DataW.trod_int Try.underlying3 ((hf 1 _ rfl).trans (hg 1 (by omega)))
  obtain ⟨x2, e2, _, b2⟩ := DataW.trod_int Try.underlying3 ((hf 2 _ rfl).trans (hg 2 (by omega)))
  obtain ⟨x3, e3, _, b3⟩ := DataW.trod_int Try.underlying3 ((hf 3 _ rfl).trans (hg 3 (by omega)))
  obtain ⟨x4, e4, _, b4⟩ := DataW.trod_int Try.underlying3 ((hf 4 _ rfl).trans (hg 4 (by omega)))
  obtain ⟨x5, e5, _, b5⟩ := DataW.trod_int Try.underlying3 ((hf 5 _ rfl).trans (hg 5 (by omega)))
  obtain ⟨x6, e6, _, b6⟩ := DataW.trod_int Try.underlying3 ((hf 6 _ rfl).trans (hg 6 (by omega)))
  obtain ⟨x7, e7, _, b7⟩ := DataW.trod_int Try.underlying3 ((hf 7 _ rfl).trans (hg 7 (by omega)))
  obtain ⟨x8, e8, _, b8⟩ := DataW.trod_int Try.underlying3 ((hf 8 _ rfl).trans (hg 8 (by omega)))
  obtain ⟨x9, e9, _, b9⟩ := DataW.trod_int Try.underlying3 ((hf 9 _ rfl).trans (hg 9 (by omega)))
  simp [cells9, cells3] at e0 e1 e2 e3 e4 e5 e6 e7 e8 e9
  subst e0 e1 e2 e3 e4 e5 e6 e7 e8 e9
  refine ⟨nm, x1, x2, x3, x4, x5, x6, x7, x8, x9, rfl, ?_, hnm, fun hs => ?_⟩
  · intro x hx
    simp only [List.mem_cons, List.not_mem_nil, or_false] at hx
    rcases hx with rfl | rfl | rfl | rfl | rfl | rfl | rfl | rfl | rfl
    · exact i64_of b1
    · exact i64_of b2
    · exact i64_of b3
    · exact i64_of b4
    · exact i64_of b5
    · exact i64_of b6
    · exact i64_of b7
    · exact i64_of b8
    · exact i64_of b9
  · rw [hy] at hs
    obtain ⟨z0, z1, z2, z3, z4, z5, z6, z7, z8, z9, rfl⟩ : ∃ z0 z1 z2 z3 z4 z5 z6 z7 z8 z9, xs = [z0, z1, z2, z3, z4, z5, z6, z7, z8, z9] := by
      match xs, hn with
      | [z0, z1, z2, z3, z4, z5, z6, z7, z8, z9], _ => exact ⟨z0, z1, z2, z3, z4, z5, z6, z7, z8, z9, rfl⟩
    simp only [List.getElem_cons_zero] at g0
    simp only [DataW.weights, Try.underlying23] at hs
    have z := hs nm.data.toList.length (DataW.weights_mem_each (j := 0) (t := 9) (d := .lit (.string nm.data.toList)) rfl (by simp [g0]) _ (by simp [DataW.weights]))
    rw [← bsize] at z
    exact z

/-- Its numbers are numbers. -/
def Rq.Nums (r : Rq) : Prop := ∀ x ∈ [r.k, r.id, r.n, r.ttl, r.o, r.p1, r.p2, r.p3, r.p4, r.p5, r.p6, r.p7, r.p8, r.p9], I64 x

set_option maxRecDepth 100000 in
/-- The request that came in. -/
theorem open_req {H : Type} {enc : TypeId × Value → H} {W : World} {base : Nat} {spare : Nat → Bool} {held : Bool} {fuel : Nat} {cs : List Value} {y : DataW H × List MemPlace} (h : DataW.trod enc Try.prog W base spare held fuel 25 cs = some y) (hs : ∀ x ∈ y.1.weights Try.prog 25, x ≤ reachBytes) :
    ∃ r : Rq, cs = rqC r ∧ r.Nums ∧ r.Fits := by
  obtain ⟨xs, m, _, hy, hl, hlen, hf⟩ := DataW.trod_struct Try.underlying25 h
  rw [cellsR] at hl
  obtain ⟨c0, c1, c2, c3, c4, c5, c6, c7, c8, c9, c10, c11, c12, c13, c14, c15, c16, c17, rfl⟩ : ∃ c0 c1 c2 c3 c4 c5 c6 c7 c8 c9 c10 c11 c12 c13 c14 c15 c16 c17, cs = [c0, c1, c2, c3, c4, c5, c6, c7, c8, c9, c10, c11, c12, c13, c14, c15, c16, c17] := by
    match cs, hl with
    | [c0, c1, c2, c3, c4, c5, c6, c7, c8, c9, c10, c11, c12, c13, c14, c15, c16, c17], _ => exact ⟨c0, c1, c2, c3, c4, c5, c6, c7, c8, c9, c10, c11, c12, c13, c14, c15, c16, c17, rfl⟩
  have hg : ∀ i (hi : i < xs.length), xs[i]? = some xs[i] := fun i hi => List.getElem?_eq_getElem hi
  have hn : xs.length = 9 := hlen
  obtain ⟨k, e0, _, b0⟩ := DataW.trod_int Try.underlying3 ((hf 0 _ rfl).trans (hg 0 (by omega)))
  obtain ⟨key, e1, g1, _⟩ := DataW.trod_string Try.underlying9 ((hf 1 _ rfl).trans (hg 1 (by omega)))
  obtain ⟨id, e2, _, b2⟩ := DataW.trod_int Try.underlying3 ((hf 2 _ rfl).trans (hg 2 (by omega)))
  obtain ⟨n, e3, _, b3⟩ := DataW.trod_int Try.underlying3 ((hf 3 _ rfl).trans (hg 3 (by omega)))
  obtain ⟨ttl, e4, _, b4⟩ := DataW.trod_int Try.underlying3 ((hf 4 _ rfl).trans (hg 4 (by omega)))
  obtain ⟨o, e5, _, b5⟩ := DataW.trod_int Try.underlying3 ((hf 5 _ rfl).trans (hg 5 (by omega)))
  obtain ⟨nm, e6, g6, _⟩ := DataW.trod_string Try.underlying9 ((hf 6 _ rfl).trans (hg 6 (by omega)))
  obtain ⟨sec, e7, g7, _⟩ := DataW.trod_string Try.underlying9 ((hf 7 _ rfl).trans (hg 7 (by omega)))
  obtain ⟨pn, p1, p2, p3, p4, p5, p6, p7, p8, p9, e8, bp, _, g8⟩ := open_plan ((hf 8 _ rfl).trans (hg 8 (by omega)))
  simp [cells9, cells3, cellsP] at e0 e1 e2 e3 e4 e5 e6 e7 e8
  obtain ⟨q0, q1, q2, q3, q4, q5, q6, q7, q8, q9⟩ := e8
  subst e0 e1 e2 e3 e4 e5 e6 e7 q0 q1 q2 q3 q4 q5 q6 q7 q8 q9
  refine ⟨⟨k, key, id, n, ttl, o, nm, sec, pn, p1, p2, p3, p4, p5, p6, p7, p8, p9⟩, rfl, ?_, ?_⟩
  · intro x hx
    simp only [List.mem_cons, List.not_mem_nil, or_false] at hx
    rcases hx with rfl | rfl | rfl | rfl | rfl | hx
    · exact i64_of b0
    · exact i64_of b2
    · exact i64_of b3
    · exact i64_of b4
    · exact i64_of b5
    · exact bp x (by simpa using hx)
  · rw [hy] at hs
    obtain ⟨z0, z1, z2, z3, z4, z5, z6, z7, z8, rfl⟩ : ∃ z0 z1 z2 z3 z4 z5 z6 z7 z8, xs = [z0, z1, z2, z3, z4, z5, z6, z7, z8] := by
      match xs, hn with
      | [z0, z1, z2, z3, z4, z5, z6, z7, z8], _ => exact ⟨z0, z1, z2, z3, z4, z5, z6, z7, z8, rfl⟩
    simp only [List.getElem_cons_zero, List.getElem_cons_succ] at g1 g6 g7 g8
    simp only [DataW.weights, Try.underlying25] at hs
    have a1 := hs key.data.toList.length (DataW.weights_mem_each (j := 1) (t := 9) (d := .lit (.string key.data.toList)) rfl (by simp [g1]) _ (by simp [DataW.weights]))
    have a6 := hs nm.data.toList.length (DataW.weights_mem_each (j := 6) (t := 9) (d := .lit (.string nm.data.toList)) rfl (by simp [g6]) _ (by simp [DataW.weights]))
    have a7 := hs sec.data.toList.length (DataW.weights_mem_each (j := 7) (t := 9) (d := .lit (.string sec.data.toList)) rfl (by simp [g7]) _ (by simp [DataW.weights]))
    have a8 := g8 (fun x hx => hs x (DataW.weights_mem_each (j := 8) (t := 23) (d := z8.1) rfl (by simp) _ hx))
    rw [← bsize] at a1 a6 a7
    unfold reachBytes at a1 a6 a7 a8
    exact ⟨by show key.size ≤ _; omega, by show nm.size ≤ _; omega, by show sec.size ≤ _; omega, by show pn.size ≤ _; omega⟩

/-- An answer by itself. -/
structure Aw where
  er : Int
  l1 : Int
  l2 : Int
  l3 : Int
  nm : ByteArray
  z1 : Int
  z2 : Int
  z3 : Int
  z4 : Int
  z5 : Int
  z6 : Int
  z7 : Int
  z8 : Int

def Aw.Nums (a : Aw) : Prop := ∀ x ∈ [a.er, a.l1, a.l2, a.l3, a.z1, a.z2, a.z3, a.z4, a.z5, a.z6, a.z7, a.z8], I64 x

/-- The bytes that came in, out of how they are read. -/
theorem bytes_of {H : Type} {enc : TypeId × Value → H} {W : World} {fuel : Nat} {a : Option Addr} {n c : Nat} {y : DataW H × List MemPlace} (h : DataW.trod enc Try.prog W 0 (fun _ => true) true fuel 26 [.slice a n c] = some y) :
    ∃ l : List Nat, l.length = n ∧ BytesAt W a l ∧ (∀ x ∈ l, x < 256) ∧ (a = none → c = 0) ∧ n ≤ c ∧ c ≤ maxLen ∧ (a = none ∧ c = 0 ∨ l = [] ∨ ∃ ab ao, a = some ⟨ab, ao, none⟩) := by
  rcases open_ints Try.underlying26 Try.underlying5 (by kernel_rfl) h with ⟨hcs, _⟩ | ⟨x, l, c', zs, hcs, _, hl, hm, hz, hx, hcell, hwz⟩
  · have e := List.singleton_inj.1 hcs
    injection e with e1 e2 e3
    subst e1 e2 e3
    exact ⟨[], rfl, .inl rfl, (fun x hx => by cases hx), fun _ => rfl, Nat.le_refl _, Nat.zero_le _, .inl ⟨rfl, rfl⟩⟩
  · have e := List.singleton_inj.1 hcs
    injection e with e1 e2 e3
    subst e1 e2 e3
    have hz' : zs.length = c := by simpa using hz
    obtain ⟨l', h1, h2, h3, h4, h5⟩ := row_bytes (w := W) (a := some x) (len := n) (cap := c) (zs := zs) (.inr ⟨x, rfl, hl, hm, hz', hcell, hwz⟩)
    refine ⟨l', h1, h5, h4, (fun e => by cases e), hl, hm, .inr ?_⟩
    rcases h5 with h | ⟨b, off, e, _⟩
    · exact .inl h
    · exact .inr ⟨b, off, e⟩

end Go.Proofs.Ytkbboingeacgjaa
