/-
  How calls of holds read as arguments.
-/
import Derived.Test.YtajnhdlefpeclaaHFrame
namespace Go.Proofs.Ytajnhdlefpeclaa.Ho
open Go.ChangeShapes Go.WideShapes Go.ChangeAt Go.RowKit
open Go.Deep

/-- A call: its kind, its time, its hold. -/
structure Cr where
  kd : Int
  now : Int
  h : Hr
def Cr.nil : Cr := ⟨0, 0, Hr.nil⟩
/-- Its cells in memory. -/
structure CrIn (w : World) (b o : Nat) (q : Cr) : Prop where
  kd : w.cell? ⟨b, o, none⟩ = some (.int .i64 q.kd)
  now : w.cell? ⟨b, o + 1, none⟩ = some (.int .i64 q.now)
  id : w.cell? ⟨b, o + 2, none⟩ = some (.int .i64 q.h.x.id)
  ps : w.cell? ⟨b, o + 3, none⟩ = some (.slice q.h.a q.h.x.ps.length q.h.c)
  ov : w.cell? ⟨b, o + 4, none⟩ = some (.int .i64 q.h.x.ov)
  un : w.cell? ⟨b, o + 5, none⟩ = some (.int .i64 q.h.x.un)
theorem CrIn.turn0 {w w' : World} {b o : Nat} {q : Cr} (h : CrIn w b o q) (hT : Turn [] w w') : CrIn w' b o q :=
  have hb := hT.block b (lt_of_cell h.kd) (by simp)
  ⟨(World.cell?_of_block hb).trans h.kd, (World.cell?_of_block hb).trans h.now, (World.cell?_of_block hb).trans h.id, (World.cell?_of_block hb).trans h.ps, (World.cell?_of_block hb).trans h.ov, (World.cell?_of_block hb).trans h.un⟩
/-- Calls that a slice leads to. -/
def CallsAt (w : World) (a : Option Addr) (l : List Cr) : Prop := l = [] ∨ ∃ b off, a = some ⟨b, off, none⟩ ∧ ∀ i, i < l.length → CrIn w b (off + i * 6) (l.getD i Cr.nil) ∧ (l.getD i Cr.nil).h.Ok w
theorem CallsAt.turn0 {w w' : World} {a : Option Addr} {l : List Cr} (h : CallsAt w a l) (hT : Turn [] w w') : CallsAt w' a l := by
  rcases h with rfl | ⟨b, off, rfl, h⟩
  · exact .inl rfl
  · exact .inr ⟨b, off, rfl, fun i hi => ⟨(h i hi).1.turn0 hT, (h i hi).2.turn0 hT⟩⟩
theorem CallsAt.at {w : World} {a : Option Addr} {l : List Cr} (h : CallsAt w a l) {i : Nat} (hi : i < l.length) : ∃ b off, a = some ⟨b, off, none⟩ ∧ CrIn w b (off + i * 6) (l.getD i Cr.nil) ∧ (l.getD i Cr.nil).h.Ok w := by
  rcases h with rfl | ⟨b, off, rfl, h⟩
  · simp at hi
  · exact ⟨b, off, rfl, h i hi⟩

theorem cells_int : Try.prog.cellsOf 3 = 1 := by kernel_rfl
theorem cells_part : Try.prog.cellsOf 42 = 2 := by kernel_rfl
theorem cells_hold : Try.prog.cellsOf 27 = 4 := by kernel_rfl
theorem cells_parts : Try.prog.cellsOf 25 = 1 := by kernel_rfl
theorem cells_call : Try.prog.cellsOf 29 = 6 := by kernel_rfl

set_option maxRecDepth 100000 in
theorem open_part {H : Type} {enc : TypeId × Value → H} {W : World} {base : Nat} {spare : Nat → Bool} {held : Bool} {fuel : Nat} {cs : List Value} {y : DataW H × List MemPlace} (h : DataW.trod enc Try.prog W base spare held fuel 42 cs = some y) :
    ∃ x : Int × Int, cs = [.int .i64 x.1, .int .i64 x.2] := by
  obtain ⟨xs, m, _, _, hl, hlen, hf⟩ := DataW.trod_struct Try.underlying42 h
  rw [cells_part] at hl
  obtain ⟨c0, c1, rfl⟩ : ∃ c0 c1, cs = [c0, c1] := by
    match cs, hl with
    | [c0, c1], _ => exact ⟨c0, c1, rfl⟩
  have hg : ∀ i (hi : i < xs.length), xs[i]? = some xs[i] := fun i hi => List.getElem?_eq_getElem hi
  have hn : xs.length = 2 := hlen
  obtain ⟨x0, e0, _, _⟩ := DataW.trod_int Try.underlying3 ((hf 0 _ rfl).trans (hg 0 (by omega)))
  obtain ⟨x1, e1, _, _⟩ := DataW.trod_int Try.underlying3 ((hf 1 _ rfl).trans (hg 1 (by omega)))
  simp [cells_int] at e0 e1
  subst e0 e1
  exact ⟨(x0, x1), rfl⟩

/-- The parts that came in, out of how they are read. -/
theorem parts_of {H : Type} {enc : TypeId × Value → H} {W : World} {fuel : Nat} {cs : List Value} {y : DataW H × List MemPlace} (h : DataW.trod enc Try.prog W 0 (fun _ => true) true fuel 25 cs = some y) :
    ∃ (a : Option Addr) (c : Nat) (l : List (Int × Int)), cs = [.slice a l.length c] ∧ PartsAt W a l ∧ (a = none → c = 0) := by
  rcases open_slice Try.underlying25 h with ⟨hcs, _⟩ | ⟨x, n, c, m, nf, D, Pl, hcs, _, hl, hm, hmm, rfl, hx⟩
  · exact ⟨none, 0, [], hcs, .inl rfl, fun _ => rfl⟩
  · simp only [if_true] at hmm
    subst hmm
    by_cases hn : n = 0
    · subst hn
      exact ⟨some x, m, [], hcs, .inl rfl, fun e => by cases e⟩
    have hone : ∀ k, k < n → ∃ u : Int × Int, W.cell? ((x.add (k * 2)).add 0) = some (.int .i64 u.1) ∧ W.cell? ((x.add (k * 2)).add 1) = some (.int .i64 u.2) := fun k hk => by
      obtain ⟨cs', h1, h2⟩ := hx k (by omega)
      rw [cells_part] at h1
      obtain ⟨_, hlen, hcell⟩ := World.cells?_some h1
      obtain ⟨u, rfl⟩ := open_part h2
      exact ⟨u, hcell 0 (by omega), hcell 1 (by omega)⟩
    obtain ⟨u0, e00, _⟩ := hone 0 (by omega)
    have e00' : W.cell? x = some (.int .i64 u0.1) := e00
    obtain ⟨_, _, _, _, hsp⟩ := World.shape?_of_cell? e00'
    obtain ⟨b, off, sp⟩ := x
    obtain rfl : sp = none := hsp
    have hall : ∀ k, ∃ u : Int × Int, k < n → W.cell? ⟨b, off + k * 2, none⟩ = some (.int .i64 u.1) ∧ W.cell? ⟨b, off + k * 2 + 1, none⟩ = some (.int .i64 u.2) := fun k => by
      by_cases hk : k < n
      · obtain ⟨u, hu1, hu2⟩ := hone k hk
        simp only [add_spot, Nat.add_zero] at hu1 hu2
        exact ⟨u, fun _ => ⟨hu1, hu2⟩⟩
      · exact ⟨(0, 0), fun h => absurd h hk⟩
    obtain ⟨f, hf⟩ := Classical.skolem.1 hall
    refine ⟨some ⟨b, off, none⟩, m, (List.range n).map f, by rw [hcs]; simp, .inr ⟨b, off, rfl, fun i hi => ?_⟩, (fun e => by cases e)⟩
    simp only [List.length_map, List.length_range] at hi
    have : ((List.range n).map f).getD i (0, 0) = f i := by
      rw [List.getD_eq_getElem?_getD]
      simp [hi]
    rw [this]
    exact hf i hi

set_option maxRecDepth 100000 in
/-- The values of a hold. -/
theorem open_hold {H : Type} {enc : TypeId × Value → H} {W : World} {fuel : Nat} {cs : List Value} {y : DataW H × List MemPlace} (h : DataW.trod enc Try.prog W 0 (fun _ => true) true fuel 27 cs = some y) :
    ∃ r : Hr, cs = hrC r ∧ r.Ok W := by
  obtain ⟨xs, m, _, _, hl, hlen, hf⟩ := DataW.trod_struct Try.underlying27 h
  rw [cells_hold] at hl
  obtain ⟨c0, c1, c2, c3, rfl⟩ : ∃ c0 c1 c2 c3, cs = [c0, c1, c2, c3] := by
    match cs, hl with
    | [c0, c1, c2, c3], _ => exact ⟨c0, c1, c2, c3, rfl⟩
  have hg : ∀ i (hi : i < xs.length), xs[i]? = some xs[i] := fun i hi => List.getElem?_eq_getElem hi
  have hn : xs.length = 4 := hlen
  obtain ⟨x0, e0, _, _⟩ := DataW.trod_int Try.underlying3 ((hf 0 _ rfl).trans (hg 0 (by omega)))
  obtain ⟨a1, cc1, l1, e1, hP, hN⟩ := parts_of ((hf 1 _ rfl).trans (hg 1 (by omega)))
  obtain ⟨x2, e2, _, _⟩ := DataW.trod_int Try.underlying3 ((hf 2 _ rfl).trans (hg 2 (by omega)))
  obtain ⟨x3, e3, _, _⟩ := DataW.trod_int Try.underlying3 ((hf 3 _ rfl).trans (hg 3 (by omega)))
  simp [cells_int, cells_parts] at e0 e1 e2 e3
  subst e0 e1 e2 e3
  exact ⟨⟨⟨x0, l1, x2, x3⟩, a1, cc1⟩, rfl, hP, hN⟩

set_option maxRecDepth 100000 in
/-- The values of a call. -/
theorem open_call {H : Type} {enc : TypeId × Value → H} {W : World} {fuel : Nat} {cs : List Value} {y : DataW H × List MemPlace} (h : DataW.trod enc Try.prog W 0 (fun _ => true) true fuel 29 cs = some y) :
    ∃ q : Cr, cs = .int .i64 q.kd :: .int .i64 q.now :: hrC q.h ∧ q.h.Ok W := by
  obtain ⟨xs, m, _, _, hl, hlen, hf⟩ := DataW.trod_struct Try.underlying29 h
  rw [cells_call] at hl
  obtain ⟨c0, c1, c2, c3, c4, c5, rfl⟩ : ∃ c0 c1 c2 c3 c4 c5, cs = [c0, c1, c2, c3, c4, c5] := by
    match cs, hl with
    | [c0, c1, c2, c3, c4, c5], _ => exact ⟨c0, c1, c2, c3, c4, c5, rfl⟩
  have hg : ∀ i (hi : i < xs.length), xs[i]? = some xs[i] := fun i hi => List.getElem?_eq_getElem hi
  have hn : xs.length = 3 := hlen
  obtain ⟨x0, e0, _, _⟩ := DataW.trod_int Try.underlying3 ((hf 0 _ rfl).trans (hg 0 (by omega)))
  obtain ⟨x1, e1, _, _⟩ := DataW.trod_int Try.underlying3 ((hf 1 _ rfl).trans (hg 1 (by omega)))
  obtain ⟨r, e2, hr⟩ := open_hold ((hf 2 _ rfl).trans (hg 2 (by omega)))
  simp [cells_int, cells_hold, hrC] at e0 e1 e2
  obtain ⟨rfl, rfl, rfl, rfl⟩ := e2
  subst e0 e1
  exact ⟨⟨x0, x1, r⟩, rfl, hr⟩

/-- The calls that came in, out of how they are read. -/
theorem calls_of {H : Type} {enc : TypeId × Value → H} {W : World} {fuel : Nat} {a : Option Addr} {n c : Nat} {y : DataW H × List MemPlace} (h : DataW.trod enc Try.prog W 0 (fun _ => true) true fuel 22 [.slice a n c] = some y) :
    ∃ l : List Cr, n = l.length ∧ CallsAt W a l := by
  rcases open_slice Try.underlying22 h with ⟨hcs, _⟩ | ⟨x, len, cap, m, nf, D, Pl, hcs, _, hl, hm, hmm, rfl, hx⟩
  · have e := List.singleton_inj.1 hcs
    injection e with e1 e2 e3
    subst e1 e2 e3
    exact ⟨[], rfl, .inl rfl⟩
  · have e := List.singleton_inj.1 hcs
    injection e with e1 e2 e3
    subst e1 e2 e3
    simp only [if_true] at hmm
    subst hmm
    by_cases hn : n = 0
    · subst hn
      exact ⟨[], rfl, .inl rfl⟩
    have hone : ∀ k, k < n → ∃ q : Cr, (∀ j, j < 6 → W.cell? ((x.add (k * 6)).add j) = (.int .i64 q.kd :: .int .i64 q.now :: hrC q.h)[j]?) ∧ q.h.Ok W := fun k hk => by
      obtain ⟨cs', h1, h2⟩ := hx k (by omega)
      rw [cells_call] at h1
      obtain ⟨_, hlen, hcell⟩ := World.cells?_some h1
      obtain ⟨q, rfl, hq⟩ := open_call h2
      exact ⟨q, fun j hj => hcell j hj, hq⟩
    obtain ⟨u0, e00, _⟩ := hone 0 (by omega)
    have e00' : W.cell? x = some (.int .i64 u0.kd) := e00 0 (by omega)
    obtain ⟨_, _, _, _, hsp⟩ := World.shape?_of_cell? e00'
    obtain ⟨b, off, sp⟩ := x
    obtain rfl : sp = none := hsp
    have hall : ∀ k, ∃ q : Cr, k < n → CrIn W b (off + k * 6) q ∧ q.h.Ok W := fun k => by
      by_cases hk : k < n
      · obtain ⟨q, hu, hq⟩ := hone k hk
        simp only [add_spot] at hu
        exact ⟨q, fun _ => ⟨⟨hu 0 (by omega), hu 1 (by omega), hu 2 (by omega), hu 3 (by omega), hu 4 (by omega), hu 5 (by omega)⟩, hq⟩⟩
      · exact ⟨Cr.nil, fun h => absurd h hk⟩
    obtain ⟨f, hf⟩ := Classical.skolem.1 hall
    refine ⟨(List.range n).map f, by simp, .inr ⟨b, off, rfl, fun i hi => ?_⟩⟩
    simp only [List.length_map, List.length_range] at hi
    have : ((List.range n).map f).getD i Cr.nil = f i := by
      rw [List.getD_eq_getElem?_getD]
      simp [hi]
    rw [this]
    exact hf i hi

end Go.Proofs.Ytajnhdlefpeclaa.Ho
