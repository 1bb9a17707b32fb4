/-
  The law PagerPlays' code, cut into parts; its frame by slots; what holds at the head of a round.
-/
import Derived.Test.YtjbjcjcahkfgbaaDoorPlain
import Derived.Test.YtjbjcjcahkfgbaaDoorPages3
import Derived.Test.YtjbjcjcahkfgbaaDoorHolds
namespace Go.Proofs.YtjbjcjcahkfgbaaDoor
open Go.RowKit Go.Maps

namespace Cut
def l : Code → Code
  | .seq a _ => a
  | c => c
def r : Code → Code
  | .seq _ b => b
  | c => c
def i : Code → Code
  | .block _ c => c
  | .loop c => c
  | .scope c => c
  | c => c
def t : Code → Code
  | .cond _ a _ => a
  | c => c
def e : Code → Code
  | .cond _ _ b => b
  | c => c
def firstLoop : Code → Option Code
  | .loop c => some c
  | .seq a b => match firstLoop a with
    | some c => some c
    | none => firstLoop b
  | .block _ c => firstLoop c
  | .scope c => firstLoop c
  | .cond _ a b => match firstLoop a with
    | some c => some c
    | none => firstLoop b
  | _ => none
end Cut

/-- A slot of a frame. -/
def nth : List Value → Nat → Value
  | [], _ => .bool false
  | x :: _, 0 => x
  | _ :: xs, n + 1 => nth xs n
def g (L : Array Value) (k : Nat) : Value := nth L.toList k

theorem nth_get (l : List Value) (k : Nat) (h : k < l.length) : nth l k = l[k] := by
  induction l generalizing k with
  | nil => simp at h
  | cons x l ih =>
    cases k with
    | zero => rfl
    | succ k => exact ih k (by simpa using h)

theorem list_nth (l : List Value) (n : Nat) (h : l.length = n) : l = (List.range n).map (nth l) := by
  refine List.ext_getElem (by simp [h]) fun i h1 h2 => ?_
  rw [List.getElem_map, List.getElem_range, nth_get l i h1]

namespace Pl
noncomputable def body : Code := (Tryd.f3.body.bind Cut.firstLoop).getD .skip
noncomputable def b1 : Code := Cut.i (Cut.l (Cut.r body))
noncomputable def rest : Code := Cut.r (Cut.r (Cut.r b1))
noncomputable def sw : Code := Cut.i (Cut.r (Cut.l rest))
noncomputable def tail : Code := Cut.r rest
noncomputable def e0 : Code := Cut.e (Cut.r sw)
noncomputable def e1 : Code := Cut.e (Cut.r e0)
noncomputable def e2 : Code := Cut.e (Cut.r e1)
noncomputable def e3 : Code := Cut.e (Cut.r e2)
noncomputable def e4 : Code := Cut.e (Cut.r e3)
noncomputable def arm0 : Code := Cut.t (Cut.r sw)
noncomputable def arm1 : Code := Cut.t (Cut.r e0)
noncomputable def arm2 : Code := Cut.t (Cut.r e1)
noncomputable def arm3 : Code := Cut.t (Cut.r e2)
noncomputable def arm4 : Code := Cut.t (Cut.r e3)
noncomputable def arm5 : Code := Cut.t (Cut.r e4)

set_option maxRecDepth 100000 in
theorem lit (L : Array Value) (h : L.size = 302) : L = #[g L 0, g L 1, g L 2, g L 3, g L 4, g L 5, g L 6, g L 7, g L 8, g L 9, g L 10, g L 11, g L 12, g L 13, g L 14, g L 15, g L 16, g L 17, g L 18, g L 19, g L 20, g L 21, g L 22, g L 23, g L 24, g L 25, g L 26, g L 27, g L 28, g L 29, g L 30, g L 31, g L 32, g L 33, g L 34, g L 35, g L 36, g L 37, g L 38, g L 39, g L 40, g L 41, g L 42, g L 43, g L 44, g L 45, g L 46, g L 47, g L 48, g L 49, g L 50, g L 51, g L 52, g L 53, g L 54, g L 55, g L 56, g L 57, g L 58, g L 59, g L 60, g L 61, g L 62, g L 63, g L 64, g L 65, g L 66, g L 67, g L 68, g L 69, g L 70, g L 71, g L 72, g L 73, g L 74, g L 75, g L 76, g L 77, g L 78, g L 79, g L 80, g L 81, g L 82, g L 83, g L 84, g L 85, g L 86, g L 87, g L 88, g L 89, g L 90, g L 91, g L 92, g L 93, g L 94, g L 95, g L 96, g L 97, g L 98, g L 99, g L 100, g L 101, g L 102, g L 103, g L 104, g L 105, g L 106, g L 107, g L 108, g L 109, g L 110, g L 111, g L 112, g L 113, g L 114, g L 115, g L 116, g L 117, g L 118, g L 119, g L 120, g L 121, g L 122, g L 123, g L 124, g L 125, g L 126, g L 127, g L 128, g L 129, g L 130, g L 131, g L 132, g L 133, g L 134, g L 135, g L 136, g L 137, g L 138, g L 139, g L 140, g L 141, g L 142, g L 143, g L 144, g L 145, g L 146, g L 147, g L 148, g L 149, g L 150, g L 151, g L 152, g L 153, g L 154, g L 155, g L 156, g L 157, g L 158, g L 159, g L 160, g L 161, g L 162, g L 163, g L 164, g L 165, g L 166, g L 167, g L 168, g L 169, g L 170, g L 171, g L 172, g L 173, g L 174, g L 175, g L 176, g L 177, g L 178, g L 179, g L 180, g L 181, g L 182, g L 183, g L 184, g L 185, g L 186, g L 187, g L 188, g L 189, g L 190, g L 191, g L 192, g L 193, g L 194, g L 195, g L 196, g L 197, g L 198, g L 199, g L 200, g L 201, g L 202, g L 203, g L 204, g L 205, g L 206, g L 207, g L 208, g L 209, g L 210, g L 211, g L 212, g L 213, g L 214, g L 215, g L 216, g L 217, g L 218, g L 219, g L 220, g L 221, g L 222, g L 223, g L 224, g L 225, g L 226, g L 227, g L 228, g L 229, g L 230, g L 231, g L 232, g L 233, g L 234, g L 235, g L 236, g L 237, g L 238, g L 239, g L 240, g L 241, g L 242, g L 243, g L 244, g L 245, g L 246, g L 247, g L 248, g L 249, g L 250, g L 251, g L 252, g L 253, g L 254, g L 255, g L 256, g L 257, g L 258, g L 259, g L 260, g L 261, g L 262, g L 263, g L 264, g L 265, g L 266, g L 267, g L 268, g L 269, g L 270, g L 271, g L 272, g L 273, g L 274, g L 275, g L 276, g L 277, g L 278, g L 279, g L 280, g L 281, g L 282, g L 283, g L 284, g L 285, g L 286, g L 287, g L 288, g L 289, g L 290, g L 291, g L 292, g L 293, g L 294, g L 295, g L 296, g L 297, g L 298, g L 299, g L 300, g L 301] := by
  have e : L.toList = (List.range 302).map (g L) := list_nth L.toList 302 (by simpa using h)
  have e2 : L = ((List.range 302).map (g L)).toArray := by rw [← e]
  exact e2.trans rfl

/-- The law's own variables, by their slots. -/
structure Slots (L : Array Value) (N : Nat) (ca : Option Addr) (cn cc b p : Nat) (vA vD : Value) (root : ByteArray) (sq news wrote j : Nat) : Prop where
  size : L.size = 302
  s0 : g L 0 = .int .i64 (N : Nat)
  s1 : g L 1 = .slice ca cn cc
  s5 : g L 5 = .pointer (some ⟨b, 0, none⟩)
  s7 : g L 7 = .pointer (some ⟨p, 0, none⟩)
  s9 : g L 9 = vA
  s10 : g L 10 = vD
  s11 : g L 11 = .string root
  s12 : g L 12 = .int .i64 (sq : Nat)
  s13 : g L 13 = .int .i64 (news : Nat)
  s14 : g L 14 = .int .i64 (wrote : Nat)
  s15 : g L 15 = .int .i64 (j : Nat)

/-- A round's own: the call, in block cb; its number. -/
structure Slots2 (L : Array Value) (cb : Nat) (kk : Int) : Prop where
  s16 : g L 16 = .pointer (some ⟨cb, 0, none⟩)
  s17 : g L 17 = .int .i64 kk
end Pl

/-- One call that came in: its kind, its number, its bytes. -/
structure CallAt (w : World) (b off : Nat) (kd N : Int) (ak : Option Addr) (ck : Nat) (lk : List Nat) : Prop where
  lt : b < w.heap.size
  c0 : w.cell? ⟨b, off, none⟩ = some (.int .i64 kd)
  c1 : w.cell? ⟨b, off + 1, none⟩ = some (.int .i64 N)
  c2 : w.cell? ⟨b, off + 2, none⟩ = some (.slice ak lk.length ck)
  bytes : BytesAt w ak lk
  nil : ak = none → ck = 0
  byte : ∀ x ∈ lk, x < 256
  len : lk.length ≤ 140737488351232

/-- The calls that came in. -/
def CallsAt (w : World) (a : Option Addr) (n : Nat) : Prop :=
  ∀ k, k < n → ∃ b off kd N ak ck lk, a = some ⟨b, off, none⟩ ∧ CallAt w b (off + k * 3) kd N ak ck lk

theorem CallAt.turn {w w' : World} {b off : Nat} {kd N : Int} {ak : Option Addr} {ck : Nat} {lk : List Nat} (h : CallAt w b off kd N ak ck lk) (hT : Turn [] w w') : CallAt w' b off kd N ak ck lk :=
  ⟨Nat.lt_of_lt_of_le h.lt hT.size, (hT.cell (p := ⟨b, off, none⟩) h.lt (by simp)).trans h.c0, (hT.cell (p := ⟨b, off + 1, none⟩) h.lt (by simp)).trans h.c1, (hT.cell (p := ⟨b, off + 2, none⟩) h.lt (by simp)).trans h.c2, h.bytes.turn hT (by simp), h.nil, h.byte, h.len⟩

/-- The copy of a call that the law makes, in block cb; its bytes lie where they came in. -/
structure CallIn (w0 w : World) (cb : Nat) (kd N : Int) (ak : Option Addr) (ck : Nat) (lk : List Nat) : Prop where
  c0 : w.cell? ⟨cb, 0, none⟩ = some (.int .i64 kd)
  c1 : w.cell? ⟨cb, 1, none⟩ = some (.int .i64 N)
  c2 : w.cell? ⟨cb, 2, none⟩ = some (.slice ak lk.length ck)
  bytes : BytesAt w0 ak lk
  nil : ak = none → ck = 0
  byte : ∀ x ∈ lk, x < 256
  len : lk.length ≤ 140737488351232

theorem CallIn.turn {S : List Nat} {w0 w w' : World} {cb : Nat} {kd N : Int} {ak : Option Addr} {ck : Nat} {lk : List Nat} (h : CallIn w0 w cb kd N ak ck lk) (hT : Turn S w w') (hn : cb ∉ S) : CallIn w0 w' cb kd N ak ck lk :=
  have hl := lt_of_cell h.c0
  ⟨(hT.cell (p := ⟨cb, 0, none⟩) hl hn).trans h.c0, (hT.cell (p := ⟨cb, 1, none⟩) hl hn).trans h.c1, (hT.cell (p := ⟨cb, 2, none⟩) hl hn).trans h.c2, h.bytes, h.nil, h.byte, h.len⟩

/-- What holds of pager, disk and the law's two rows, in a round of number j. -/
structure P3 (w0 w : World) (N b m p sm rb j : Nat) (s : St) (q : Pg) (vA vD : Value) (all done : List (Nat × List Nat)) (news wrote : Nat) : Prop where
  pat : PAt w p b m sm rb s q
  live : s.dead = false
  qlive : q.dead = false
  n : s.n = N
  k : s.k ≤ 2 * j
  left : s.left < 0
  u : q.u ≤ j
  rl : q.root.length ≤ 64
  rowA : PagesOf w vA all
  rowD : PagesOf w vD done
  lenA : all.length ≤ j
  lenD : done.length ≤ j
  offA : ∀ x, vA.ownBlock = some x → x ≠ p ∧ x ≠ b ∧ x ≠ m ∧ x ≠ sm ∧ x ≠ rb ∧ w0.heap.size ≤ x
  offD : ∀ x, vD.ownBlock = some x → x ≠ p ∧ x ≠ b ∧ x ≠ m ∧ x ≠ sm ∧ x ≠ rb ∧ w0.heap.size ≤ x
  two : ∀ x, vA.ownBlock = some x → vD.ownBlock ≠ some x
  plain : Plain s q all done
  wr : s.k = wrote + news
  rbl : rb < w.heap.size
  ge : w0.heap.size ≤ p ∧ w0.heap.size ≤ b ∧ w0.heap.size ≤ m ∧ w0.heap.size ≤ sm
  turn : Turn [] w0 w

theorem P3.rd {w0 w : World} {N b m p sm rb j : Nat} {s : St} {q : Pg} {vA vD : Value} {all done : List (Nat × List Nat)} {news wrote : Nat} (h : P3 w0 w N b m p sm rb j s q vA vD all done news wrote)
    {w' : World} {r : Bool} (hA : PAt w' p b m sm rb s { q with rd := r }) (hT : Turn [p] w w') : P3 w0 w' N b m p sm rb j s { q with rd := r } vA vD all done news wrote :=
  ⟨hA, h.live, h.qlive, h.n, h.k, h.left, h.u, h.rl, h.rowA.turn hT (fun x hx => by have := h.offA x hx; simp; omega), h.rowD.turn hT (fun x hx => by have := h.offD x hx; simp; omega), h.lenA, h.lenD, h.offA, h.offD, h.two, h.plain.rd r, h.wr, Nat.lt_of_lt_of_le h.rbl hT.size, h.ge, h.turn.then hT (by have := h.ge; simp; omega)⟩

theorem P3.turn0 {w0 w : World} {N b m p sm rb j : Nat} {s : St} {q : Pg} {vA vD : Value} {all done : List (Nat × List Nat)} {news wrote : Nat} (h : P3 w0 w N b m p sm rb j s q vA vD all done news wrote)
    {w' : World} (hT : Turn [] w w') : P3 w0 w' N b m p sm rb j s q vA vD all done news wrote :=
  ⟨h.pat.turn0 hT, h.live, h.qlive, h.n, h.k, h.left, h.u, h.rl, h.rowA.turn hT (by simp), h.rowD.turn hT (by simp), h.lenA, h.lenD, h.offA, h.offD, h.two, h.plain, h.wr, Nat.lt_of_lt_of_le h.rbl hT.size, h.ge, h.turn.then hT (by simp)⟩

theorem P3.next {w0 w : World} {N b m p sm rb j : Nat} {s : St} {q : Pg} {vA vD : Value} {all done : List (Nat × List Nat)} {news wrote : Nat} (h : P3 w0 w N b m p sm rb j s q vA vD all done news wrote) :
    P3 w0 w N b m p sm rb (j + 1) s q vA vD all done news wrote :=
  ⟨h.pat, h.live, h.qlive, h.n, by have := h.k; omega, h.left, by have := h.u; omega, h.rl, h.rowA, h.rowD, by have := h.lenA; omega, by have := h.lenD; omega, h.offA, h.offD, h.two, h.plain, h.wr, h.rbl, h.ge, h.turn⟩

theorem Pg.thereI_nat {q : Pg} {N : Nat} {n : Nat} (h4 : 4 ≤ n) (hN : n < N) (ht : q.there n = true) : q.thereI N (n : Nat) = true := by
  unfold Pg.thereI
  have e1 : (4 : Int) ≤ (n : Int) := by omega
  have e2 : (n : Int) < (N : Int) := by omega
  rw [decide_eq_true e1, decide_eq_true e2]
  show (true && true && q.there n) = true
  rw [ht]
  rfl
end Go.Proofs.YtjbjcjcahkfgbaaDoor
