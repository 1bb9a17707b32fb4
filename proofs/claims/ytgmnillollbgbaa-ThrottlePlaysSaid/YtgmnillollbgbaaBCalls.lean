/-
  How calls read as arguments.
-/
import Derived.Test.YtgmnillollbgbaaBwStill
namespace Go.Proofs.Ytgmnillollbgbaa.Th
open Go.ChangeShapes Go.WideShapes Go.ChangeAt Go.RowKit
open Go.Deep

/-- A call: its kind, its ticks, its burst, its rate. -/
structure Cl where
  kd : Int
  t : Int
  u : Int
  v : Int
def Cl.nil : Cl := ⟨0, 0, 0, 0⟩
def clC (q : Cl) : List Value := [.int .i64 q.kd, .int .i64 q.t, .int .i64 q.u, .int .i64 q.v]
/-- Its cells in memory. -/
structure ClIn (w : World) (b o : Nat) (q : Cl) : Prop where
  c0 : w.cell? ⟨b, o, none⟩ = some (.int .i64 q.kd)
  c1 : w.cell? ⟨b, o + 1, none⟩ = some (.int .i64 q.t)
  c2 : w.cell? ⟨b, o + 2, none⟩ = some (.int .i64 q.u)
  c3 : w.cell? ⟨b, o + 3, none⟩ = some (.int .i64 q.v)
theorem ClIn.turn0 {w w' : World} {b o : Nat} {q : Cl} (h : ClIn w b o q) (hT : Turn [] w w') : ClIn w' b o q :=
  have hb := hT.block b (lt_of_cell h.c0) (by simp)
  ⟨(World.cell?_of_block hb).trans h.c0, (World.cell?_of_block hb).trans h.c1, (World.cell?_of_block hb).trans h.c2, (World.cell?_of_block hb).trans h.c3⟩
/-- Calls that a slice leads to. -/
def ClsAt (w : World) (a : Option Addr) (l : List Cl) : Prop := l = [] ∨ ∃ b off, a = some ⟨b, off, none⟩ ∧ ∀ i, i < l.length → ClIn w b (off + i * 4) (l.getD i Cl.nil)
theorem ClsAt.turn0 {w w' : World} {a : Option Addr} {l : List Cl} (h : ClsAt w a l) (hT : Turn [] w w') : ClsAt w' a l := by
  rcases h with rfl | ⟨b, off, rfl, h⟩
  · exact .inl rfl
  · exact .inr ⟨b, off, rfl, fun i hi => (h i hi).turn0 hT⟩
theorem ClsAt.at {w : World} {a : Option Addr} {l : List Cl} (h : ClsAt w a l) {i : Nat} (hi : i < l.length) : ∃ b off, a = some ⟨b, off, none⟩ ∧ ClIn w b (off + i * 4) (l.getD i Cl.nil) := by
  rcases h with rfl | ⟨b, off, rfl, h⟩
  · simp at hi
  · exact ⟨b, off, rfl, h i hi⟩

theorem cells_int : Try.prog.cellsOf 3 = 1 := by kernel_rfl
theorem cells_call : Try.prog.cellsOf 30 = 4 := by kernel_rfl

set_option maxRecDepth 100000 in
/-- The values of a call. -/
theorem open_call {H : Type} {enc : TypeId × Value → H} {W : World} {fuel : Nat} {cs : List Value} {y : DataW H × List MemPlace} (h : DataW.trod enc Try.prog W 0 (fun _ => true) true fuel 30 cs = some y) :
    ∃ q : Cl, cs = clC q := by
  obtain ⟨xs, m, _, _, hl, hlen, hf⟩ := DataW.trod_struct Try.underlying30 h
  rw [cells_call] at hl
  obtain ⟨c0, c1, c2, c3, rfl⟩ : ∃ c0 c1 c2 c3, cs = [c0, c1, c2, c3] := by
    match cs, hl with
    | [c0, c1, c2, c3], _ => exact ⟨c0, c1, c2, c3, rfl⟩
  have hg : ∀ i (hi : i < xs.length), xs[i]? = some xs[i] := fun i hi => List.getElem?_eq_getElem hi
  have hn : xs.length = 4 := hlen
  obtain ⟨x0, e0, _, _⟩ := DataW.trod_int Try.underlying3 ((hf 0 _ rfl).trans (hg 0 (by omega)))
  obtain ⟨x1, e1, _, _⟩ := DataW.trod_int Try.underlying3 ((hf 1 _ rfl).trans (hg 1 (by omega)))
  obtain ⟨x2, e2, _, _⟩ := DataW.trod_int Try.underlying3 ((hf 2 _ rfl).trans (hg 2 (by omega)))
  obtain ⟨x3, e3, _, _⟩ := DataW.trod_int Try.underlying3 ((hf 3 _ rfl).trans (hg 3 (by omega)))
  simp [cells_int] at e0 e1 e2 e3
  subst e0 e1 e2 e3
  exact ⟨⟨x0, x1, x2, x3⟩, rfl⟩

/-- The calls that came in, out of how they are read. -/
theorem cls_of {H : Type} {enc : TypeId × Value → H} {W : World} {fuel : Nat} {a : Option Addr} {n c : Nat} {y : DataW H × List MemPlace} (h : DataW.trod enc Try.prog W 0 (fun _ => true) true fuel 22 [.slice a n c] = some y) :
    ∃ l : List Cl, n = l.length ∧ ClsAt W a l ∧ l.length ≤ 9223372036854775807 := by
  rcases open_slice Try.underlying22 h with ⟨hcs, _⟩ | ⟨x, len, cap, m, nf, D, Pl, hcs, _, hl, hm, hmm, rfl, hx⟩
  · have e := List.singleton_inj.1 hcs
    injection e with e1 e2 e3
    subst e1 e2 e3
    exact ⟨[], rfl, .inl rfl, by simp⟩
  · have e := List.singleton_inj.1 hcs
    injection e with e1 e2 e3
    subst e1 e2 e3
    simp only [if_true] at hmm
    subst hmm
    have hmx : n ≤ 9223372036854775807 := by unfold maxLen at hm; omega
    by_cases hn : n = 0
    · subst hn
      exact ⟨[], rfl, .inl rfl, by simp⟩
    have hone : ∀ k, k < n → ∃ q : Cl, ∀ j, j < 4 → W.cell? ((x.add (k * 4)).add j) = (clC q)[j]? := fun k hk => by
      obtain ⟨cs', h1, h2⟩ := hx k (by omega)
      rw [cells_call] at h1
      obtain ⟨_, hlen, hcell⟩ := World.cells?_some h1
      obtain ⟨q, rfl⟩ := open_call h2
      exact ⟨q, fun j hj => hcell j hj⟩
    obtain ⟨u0, e00⟩ := hone 0 (by omega)
    have e00' : W.cell? x = some (.int .i64 u0.kd) := e00 0 (by omega)
    obtain ⟨_, _, _, _, hsp⟩ := World.shape?_of_cell? e00'
    obtain ⟨b, off, sp⟩ := x
    obtain rfl : sp = none := hsp
    have hall : ∀ k, ∃ q : Cl, k < n → ClIn W b (off + k * 4) q := fun k => by
      by_cases hk : k < n
      · obtain ⟨q, hu⟩ := hone k hk
        simp only [Addr.add_mid] at hu
        exact ⟨q, fun _ => ⟨hu 0 (by omega), hu 1 (by omega), hu 2 (by omega), hu 3 (by omega)⟩⟩
      · exact ⟨Cl.nil, fun h => absurd h hk⟩
    obtain ⟨f, hf⟩ := Classical.skolem.1 hall
    refine ⟨(List.range n).map f, by simp, .inr ⟨b, off, rfl, fun i hi => ?_⟩, by simp; exact hmx⟩
    simp only [List.length_map, List.length_range] at hi
    have : ((List.range n).map f).getD i Cl.nil = f i := by
      rw [List.getD_eq_getElem?_getD]
      simp [hi]
    rw [this]
    exact hf i hi

end Go.Proofs.Ytgmnillollbgbaa.Th
