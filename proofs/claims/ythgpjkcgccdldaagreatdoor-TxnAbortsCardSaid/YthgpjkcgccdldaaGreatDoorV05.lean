/-
  Bytes in memory; which blocks have turned; 'append' of bytes to a row of the call's own.
  What a sum is in memory, and what becomes of it where cells are stored; 'Only': one block alone may have turned.
-/
import Derived.Test.YthgpjkcgccdldaaGreatDoorRows
import Derived.WalkKit
import Derived.WalkSpells
import Derived.WalkLawsBesides
import Derived.Laws.NewBlocks
import Derived.Laws.AppendOwnNone
import Derived.Laws.BytesArg
import Derived.Deep.MidRow
import Derived.OpenShut
import Derived.Test.YthgpjkcgccdldaaGreatDoorV02

namespace Go.Proofs.YthgpjkcgccdldaaGreatDoor
open Go.RowKit

set_option maxRecDepth 100000 in
theorem hide {p : Prop} (h : p) : Hid p := h

set_option maxRecDepth 100000 in
theorem ret_int {k : IntKind} {a b : Int} (h : a = b) : Ending.returned (.int k a) = .returned (.int k b) := by rw [h]

set_option maxRecDepth 100000 in
theorem off_ne {b i j : Nat} (h : i ≠ j) : (⟨b, i, none⟩ : Addr) ≠ ⟨b, j, none⟩ := fun e => h (congrArg Addr.off e)

set_option maxRecDepth 100000 in
theorem lt_of_cell {w : World} {b o : Nat} {v : Value} (h : w.cell? ⟨b, o, none⟩ = some v) : b < w.heap.size := by
  unfold World.cell? at h
  rcases Nat.lt_or_ge b w.heap.size with hb | hb
  · exact hb
  · rw [show w.heap[(⟨b, o, none⟩ : Addr).block]? = none from Array.getElem?_eq_none hb] at h; cases h

/-- The blocks that were there, but for those of S, are as they were. -/
structure Turn (S : List Nat) (w w' : World) : Prop where
  os : w'.os = w.os
  tape : w'.tape = w.tape
  output : w'.output = w.output
  size : w.heap.size ≤ w'.heap.size
  block : ∀ k, k < w.heap.size → k ∉ S → w'.heap[k]? = w.heap[k]?

set_option maxRecDepth 100000 in
theorem Turn.refl (S : List Nat) (w : World) : Turn S w w := ⟨rfl, rfl, rfl, Nat.le_refl _, fun _ _ _ => rfl⟩
set_option maxRecDepth 100000 in
theorem Turn.trans {S : List Nat} {u v w : World} (h : Turn S u v) (k : Turn S v w) : Turn S u w :=
  ⟨k.os.trans h.os, k.tape.trans h.tape, k.output.trans h.output, Nat.le_trans h.size k.size, fun i hi hn => (k.block i (Nat.lt_of_lt_of_le hi h.size) hn).trans (h.block i hi hn)⟩
set_option maxRecDepth 100000 in
theorem Turn.mono {S T : List Nat} {w w' : World} (h : Turn S w w') (hS : ∀ k ∈ S, k ∈ T) : Turn T w w' := ⟨h.os, h.tape, h.output, h.size, fun k hk hn => h.block k hk fun hm => hn (hS k hm)⟩
set_option maxRecDepth 100000 in
theorem Turn.drew {S : List Nat} {u w : World} (h : Turn S u w) : Turn S u w.drew := ⟨h.os, h.tape, h.output, h.size, h.block⟩
set_option maxRecDepth 100000 in
theorem Turn.setCell {S : List Nat} {u w : World} (h : Turn S u w) {b : Nat} (hb : b ∈ S) (o : Nat) (v : Value) : Turn S u (w.setCell ⟨b, o, none⟩ v) :=
  ⟨h.os, h.tape, h.output, by rw [World.size_setCell]; exact h.size, fun i hi hn => (Below.heap_setCell w ⟨b, o, none⟩ v i (fun e => hn (by rw [e]; exact hb))).trans (h.block i hi hn)⟩
set_option maxRecDepth 100000 in
theorem Turn.alloc {S : List Nat} {u w : World} (h : Turn S u w) (o : Obj) : Turn S u (w.alloc o) :=
  ⟨h.os, h.tape, h.output, by simp; have := h.size; omega, fun i hi hn => (Below.heap_alloc w o i (Nat.lt_of_lt_of_le hi h.size)).trans (h.block i hi hn)⟩
set_option maxRecDepth 100000 in
theorem Turn.grown {S : List Nat} {u w w' : World} {row : Option Nat} (h : Turn S u w) (hg : w.grownBy w' row) (hr : ∀ k, row = some k → k ∈ S ∨ u.heap.size ≤ k) : Turn S u w' :=
  ⟨hg.os.trans h.os, hg.tape.trans h.tape, hg.output.trans h.output, Nat.le_trans h.size hg.size, fun i hi hn => (hg.block i (Nat.lt_of_lt_of_le hi h.size) (fun e => by
    rcases hr i e.symm with h1 | h1
    · exact hn h1
    · omega)).trans (h.block i hi hn)⟩
set_option maxRecDepth 100000 in
theorem Turn.cell {S : List Nat} {w w' : World} (h : Turn S w w') {p : Addr} (hp : p.block < w.heap.size) (hn : p.block ∉ S) : w'.cell? p = w.cell? p := World.cell?_of_block (w := w) (h.block p.block hp hn)
set_option maxRecDepth 100000 in
theorem Turn.below {S : List Nat} {B : Nat} {w w' : World} (h : Turn S w w') (hB : B ≤ w.heap.size) (hS : ∀ k ∈ S, B ≤ k) : Below B w w' :=
  ⟨h.os, h.tape, h.output, h.size, fun k hk => h.block k (Nat.lt_of_lt_of_le hk hB) fun hm => by have := hS k hm; omega⟩
set_option maxRecDepth 100000 in
theorem Turn.then {S T : List Nat} {u v w : World} (h : Turn S u v) (k : Turn T v w) (hT : ∀ x ∈ T, x ∈ S ∨ u.heap.size ≤ x) : Turn S u w :=
  ⟨k.os.trans h.os, k.tape.trans h.tape, k.output.trans h.output, Nat.le_trans h.size k.size, fun i hi hn => (k.block i (Nat.lt_of_lt_of_le hi h.size) (fun hm => by
    rcases hT i hm with h1 | h1
    · exact hn h1
    · omega)).trans (h.block i hi hn)⟩
set_option maxRecDepth 100000 in
theorem Turn.of_below {w w' : World} (h : Below w.heap.size w w') : Turn [] w w' := ⟨h.os, h.tape, h.output, h.size, fun k hk _ => h.block k hk⟩

/-- A byte as a cell. -/
def byteCell (x : Nat) : Value := .int .u8 (x : Nat)

/-- The bytes that a slice leads to: none are there, or they lie in a row. -/
def BytesAt (w : World) (a : Option Addr) (l : List Nat) : Prop :=
  l = [] ∨ ∃ b off, a = some ⟨b, off, none⟩ ∧ ∀ i, i < l.length → w.cell? ⟨b, off + i, none⟩ = some (.int .u8 (l.getD i 0 : Nat))

set_option maxRecDepth 100000 in
theorem BytesAt.at {w : World} {a : Option Addr} {l : List Nat} (h : BytesAt w a l) {k : Nat} (hk : k < l.length) :
    ∃ b off, a = some ⟨b, off, none⟩ ∧ w.cell? ⟨b, off + k, none⟩ = some (.int .u8 (l[k] : Nat)) := by
  rcases h with rfl | ⟨b, off, rfl, h⟩
  · simp at hk
  · refine ⟨b, off, rfl, ?_⟩
    rw [h k hk, List.getD_eq_getElem?_getD, List.getElem?_eq_getElem hk]; rfl

set_option maxRecDepth 100000 in
theorem BytesAt.keep {w w' : World} {a : Option Addr} {l : List Nat} (h : BytesAt w a l) (hb : ∀ x, l ≠ [] → a = some x → w'.heap[x.block]? = w.heap[x.block]?) : BytesAt w' a l := by
  by_cases hnil : l = []
  · exact .inl hnil
  rcases h with rfl | ⟨b, off, rfl, h⟩
  · exact .inl rfl
  · exact .inr ⟨b, off, rfl, fun i hi => (World.cell?_of_block (a := ⟨b, off + i, none⟩) (hb ⟨b, off, none⟩ hnil rfl)).trans (h i hi)⟩

set_option maxRecDepth 100000 in
theorem BytesAt.lt {w : World} {a : Option Addr} {l : List Nat} (h : BytesAt w a l) (x : Addr) (hl : l ≠ []) (hx : a = some x) : x.block < w.heap.size := by
  have hpos : 0 < l.length := List.length_pos_iff.2 hl
  obtain ⟨b, off, rfl, hc⟩ := h.at hpos
  obtain rfl := Option.some.inj hx
  exact lt_of_cell hc

set_option maxRecDepth 100000 in
theorem BytesAt.turn {S : List Nat} {w w' : World} {a : Option Addr} {l : List Nat} (h : BytesAt w a l) (hT : Turn S w w') (hn : ∀ x, l ≠ [] → a = some x → x.block ∉ S) : BytesAt w' a l :=
  h.keep fun x hl hx => hT.block _ (h.lt x hl hx) (hn x hl hx)

set_option maxRecDepth 100000 in
theorem BytesAt.below {w w' : World} {a : Option Addr} {l : List Nat} (h : BytesAt w a l) (hB : Below w.heap.size w w') : BytesAt w' a l :=
  h.keep fun x hl hx => hB.block _ (h.lt x hl hx)

set_option maxRecDepth 100000 in
theorem BytesAt.set {w : World} {g : Nat} {l : List Nat} (h : BytesAt w (some ⟨g, 0, none⟩) l) (i : Nat) (hi : i < l.length) (y : Nat) :
    BytesAt (w.setCell ⟨g, i, none⟩ (.int .u8 (y : Nat))) (some ⟨g, 0, none⟩) (l.set i y) := by
  refine .inr ⟨g, 0, rfl, fun j hj => ?_⟩
  rw [List.length_set] at hj
  obtain ⟨b, off, e, hc⟩ := h.at hj
  obtain ⟨rfl, rfl⟩ : b = g ∧ off = 0 := by
    have := Option.some.inj e
    exact ⟨(congrArg Addr.block this).symm, (congrArg Addr.off this).symm⟩
  rw [Nat.zero_add] at hc ⊢
  by_cases hij : i = j
  · subst hij
    rw [World.cell?_setCell_same _ _ _ hc, List.getD_eq_getElem?_getD, List.getElem?_set_self hi]
    rfl
  · rw [World.cell?_setCell_other _ _ _ _ (off_ne hij), hc, List.getD_eq_getElem?_getD, List.getElem?_set_ne hij, List.getElem?_eq_getElem hj]
    rfl

set_option maxRecDepth 100000 in
theorem BytesAt.cell0 {w : World} {g : Nat} {l : List Nat} (h : BytesAt w (some ⟨g, 0, none⟩) l) {i : Nat} (hi : i < l.length) : w.cell? ⟨g, i, none⟩ = some (.int .u8 (l[i] : Nat)) := by
  obtain ⟨b', off', e, hc⟩ := h.at hi
  obtain ⟨rfl, rfl⟩ : b' = g ∧ off' = 0 := by
    have := Option.some.inj e
    exact ⟨(congrArg Addr.block this).symm, (congrArg Addr.off this).symm⟩
  rw [Nat.zero_add] at hc
  exact hc

set_option maxRecDepth 100000 in
theorem add_zero (x : Addr) : x.add 0 = x := rfl
set_option maxRecDepth 100000 in
theorem add_spot {b off i : Nat} : (⟨b, off, none⟩ : Addr).add i = ⟨b, off + i, none⟩ := by
  unfold Addr.add
  split
  · subst i; rfl
  · rfl

set_option maxRecDepth 100000 in
/-- The cells of a row of bytes. -/
theorem BytesAt.range {w : World} {b off : Nat} {l : List Nat} (h : BytesAt w (some ⟨b, off, none⟩) l) : w.rangeAt b off (l.map byteCell) := by
  intro j v hj
  rw [List.getElem?_map] at hj
  by_cases hlt : j < l.length
  · rw [List.getElem?_eq_getElem hlt] at hj
    obtain ⟨b', off', e, hc⟩ := h.at hlt
    obtain ⟨rfl, rfl⟩ : b' = b ∧ off' = off := by
      have := Option.some.inj e
      exact ⟨(congrArg Addr.block this).symm, (congrArg Addr.off this).symm⟩
    rw [hc]
    exact hj
  · rw [List.getElem?_eq_none (by omega)] at hj
    cases hj

set_option maxRecDepth 100000 in
/-- A new block of these bytes. -/
theorem bytes_new (w : World) (l : List Nat) (t : TypeId) : BytesAt (w.alloc (.cells (l.map byteCell).toArray t)) (some ⟨w.heap.size, 0, none⟩) l := by
  refine .inr ⟨w.heap.size, 0, rfl, fun i hi => ?_⟩
  rw [Nat.zero_add, World.cell?_alloc_at _ _ _ _ rfl, List.getElem?_toArray, List.getElem?_map, List.getElem?_eq_getElem hi, List.getD_eq_getElem?_getD, List.getElem?_eq_getElem hi]
  rfl

/- Rows of the call's own. -/
set_option maxRecDepth 100000 in
theorem info5 : (Tryz.prog.info? 5).map (fun i => (i.zero, i.size, i.bytes)) = some (some (.int .u8 0), 1, 1) := by kernel_rfl

set_option maxRecDepth 100000 in
theorem src_one (l : List Nat) : ∀ u ∈ l.map byteCell, u.oneCell' = true := by
  intro u hu
  obtain ⟨x, _, rfl⟩ := List.mem_map.1 hu
  rfl

set_option maxRecDepth 100000 in
theorem src_bytes {w : World} {b off : Nat} {l : List Nat} (h : BytesAt w (some ⟨b, off, none⟩) l) : ∀ j u, (l.map byteCell)[j]? = some u → w.cell? ((⟨b, off, none⟩ : Addr).add j) = some u := by
  intro j u hj
  rw [add_spot]
  exact h.range j u hj

set_option maxRecDepth 100000 in
theorem grownBy_refl (w : World) (row : Option Nat) : w.grownBy w row := ⟨rfl, rfl, rfl, Nat.le_refl _, fun _ _ _ => rfl⟩

set_option maxRecDepth 100000 in
theorem append_bytes {ops : Array Oper} {rest : List Oper} {o : Oper} {a : Act} {Q : Exit → Act → World → Prop} {w : World} (hgd : o.guard = none) (s x : Operand)
    (ho : o.op = .call { callee := .builtin .append, args := #[s, x], argTypes := #[68, 68] }) (base : Nat) (v : Value) (n : Nat) (xs : List Nat) (hs : a.eval s = v) (hown : w.ownsRow base 5 1 v n (xs.map byteCell))
    (ak : Option Addr) (m c : Nat) (l : List Nat) (hx : a.eval x = .slice ak m c) (hm : l.length = m) (hnone : ak = none → c = 0) (hb : BytesAt w ak l) (hbound : n + m ≤ 140737488355328) (hbase : base ≤ w.heap.size)
    (h : ∀ v' w', w'.ownsRow base 5 1 v' (n + m) ((xs ++ l).map byteCell) → w.grownBy w' v.ownBlock → (v' = .slice none 0 0 ↔ v = .slice none 0 0 ∧ m = 0) → wpList Tryz.prog ops Q rest (a.put o.dst v') w') :
    wpList Tryz.prog ops Q (o :: rest) a w := by
  obtain ⟨i0, hi, hz0, hz1, hz2⟩ := info_parts info5
  cases ak with
  | none =>
    obtain rfl := hnone rfl
    have hl : l = [] := by
      rcases hb with h | ⟨_, _, e, _⟩
      · exact h
      · cases e
    subst hl
    obtain rfl : 0 = m := hm
    refine wpList_append_own_none hgd s x 68 ho base 5 i0 1 Tryz.underlying68 hi v n _ hs hown hx (h v w ?_ (grownBy_refl _ _) (by simp))
    simpa using hown
  | some ad =>
    refine wpList_append_own w hgd s x 68 ho base 5 i0 (.int .u8 0) 1 1 Tryz.underlying68 hi hz0 hz1 hz2 rfl (by decide) v n (xs.map byteCell) hs hown ad m c (l.map byteCell) hx (by simp [hm]) ?_ (src_one l) (by unfold maxLen; omega) (by omega) hbase ?_
    · by_cases hl : l = []
      · subst hl; intro j u hj; simp at hj
      · rcases hb with h | ⟨b, off, e, hc⟩
        · exact absurd h hl
        · obtain rfl := Option.some.inj e
          exact src_bytes (.inr ⟨b, off, rfl, hc⟩)
    · intro v' w' h1 h2 h3
      exact h v' w' (by rw [List.map_append]; exact h1) h2 h3

set_option maxRecDepth 100000 in
/-- A row of the call's own that is not empty: where it lies. -/
theorem own_bytes {w : World} {base : Nat} {v : Value} {n : Nat} {l : List Nat} (h : w.ownsRow base 5 1 v n (l.map byteCell)) (hn : 0 < n) :
    ∃ g cap, v = .slice (some ⟨g, 0, none⟩) l.length cap ∧ n = l.length ∧ base ≤ g ∧ g < w.heap.size ∧ BytesAt w (some ⟨g, 0, none⟩) l ∧ ∀ o, w.frozen? ⟨g, o, none⟩ = false := by
  obtain ⟨hl, h | ⟨g, cap, cur, rfl, hb, hg, hnc, hm, hsz, hcur⟩⟩ := h
  · omega
  · have e : n = l.length := by simpa using hl.symm
    have hlt : g < w.heap.size := by
      rcases Nat.lt_or_ge g w.heap.size with h | h
      · exact h
      · rw [Array.getElem?_eq_none h] at hg; cases hg
    refine ⟨g, cap, by rw [e], e, hb, hlt, .inr ⟨g, 0, rfl, fun i hi => ?_⟩, fun o => ?_⟩
    · unfold World.cell?
      rw [hg]
      show cur[0 + i]? = _
      have h1 : (cur.toList.take (n * 1))[i]? = (l.map byteCell)[i]? := by rw [hcur]
      rw [List.getElem?_take, if_pos (by omega), List.getElem?_map, List.getElem?_eq_getElem hi] at h1
      rw [Nat.zero_add, ← Array.getElem?_toList, h1, List.getD_eq_getElem?_getD, List.getElem?_eq_getElem hi]
      rfl
    · unfold World.frozen?
      rw [hg]
      simp

set_option maxRecDepth 100000 in
/-- A row of the call's own that is not nil. -/
theorem own_some {w : World} {base : Nat} {v : Value} {n : Nat} {l : List Nat} (h : w.ownsRow base 5 1 v n (l.map byteCell)) (hv : v ≠ .slice none 0 0) :
    ∃ g cap, v = .slice (some ⟨g, 0, none⟩) l.length cap ∧ n = l.length ∧ base ≤ g ∧ g < w.heap.size ∧ BytesAt w (some ⟨g, 0, none⟩) l ∧ ∀ o, w.frozen? ⟨g, o, none⟩ = false := by
  have hn : n = l.length := by have := h.1; simpa using this.symm
  by_cases h0 : 0 < n
  · exact own_bytes h h0
  · have hl : l = [] := List.eq_nil_of_length_eq_zero (by omega)
    subst hl
    obtain ⟨_, ⟨rfl, _⟩ | ⟨g, cap, cur, rfl, hb, hg, _⟩⟩ := h
    · exact absurd rfl hv
    · refine ⟨g, cap, by rw [hn], hn, hb, ?_, .inl rfl, fun o => ?_⟩
      · rcases Nat.lt_or_ge g w.heap.size with h | h
        · exact h
        · rw [Array.getElem?_eq_none h] at hg; cases hg
      · unfold World.frozen?
        rw [hg]
        simp

/-- The text of these bytes. -/
def textOf (l : List Nat) : ByteArray := strOfNums (l.map (fun (x : Nat) => (x : Int)))

set_option maxRecDepth 100000 in
theorem text_of {w : World} {a : Option Addr} {l : List Nat} (h : BytesAt w a l) (cap : Nat) : (convert 68 9 (.slice a l.length cap)).run Tryz.prog w = .ok (.string (textOf l)) w := by
  rcases h with rfl | ⟨b, off, rfl, h⟩
  · cases a with
    | none => exact run_convert_bytes_nil w 68 5 Tryz.underlying68 Tryz.underlying5 _ _ 9 Tryz.underlying9
    | some x =>
      rw [run_convert_bytes_string w 68 9 5 _ _ cap Tryz.underlying68 Tryz.underlying5 Tryz.underlying9]
      rfl
  · refine run_convert_bytes_arg w 68 5 Tryz.underlying68 Tryz.underlying5 b off l.length cap (l.map (fun (x : Nat) => (x : Int))) (by simp) (fun i hi => ?_) 9 Tryz.underlying9
    rw [h i hi]
    simp [List.getD_eq_getElem?_getD, List.getElem?_eq_getElem hi]

set_option maxRecDepth 100000 in
theorem text_at {w : World} {a : Option Addr} {l : List Nat} (h : BytesAt w a l) (n cap : Nat) (hn : l.length = n) : (convert 68 9 (.slice a n cap)).run Tryz.prog w = .ok (.string (textOf l)) w := by
  subst hn
  exact text_of h cap

end Go.Proofs.YthgpjkcgccdldaaGreatDoor

namespace Go.Proofs.YthgpjkcgccdldaaGreatDoor.Sm
open Go.RowKit

/-- Block b alone may have turned; no block has come or gone. -/
structure Only (b : Nat) (w w' : World) : Prop where
  os : w'.os = w.os
  tape : w'.tape = w.tape
  output : w'.output = w.output
  size : w'.heap.size = w.heap.size
  block : ∀ k, k ≠ b → w'.heap[k]? = w.heap[k]?

set_option maxRecDepth 100000 in
theorem Only.refl (b : Nat) (w : World) : Only b w w := ⟨rfl, rfl, rfl, rfl, fun _ _ => rfl⟩
set_option maxRecDepth 100000 in
theorem Only.trans {b : Nat} {u v w : World} (h : Only b u v) (k : Only b v w) : Only b u w :=
  ⟨k.os.trans h.os, k.tape.trans h.tape, k.output.trans h.output, k.size.trans h.size, fun i hi => (k.block i hi).trans (h.block i hi)⟩
set_option maxRecDepth 100000 in
theorem Only.drew {b : Nat} {u w : World} (h : Only b u w) : Only b u w.drew := ⟨h.os, h.tape, h.output, h.size, h.block⟩
set_option maxRecDepth 100000 in
theorem Only.setCell {b : Nat} {u w : World} (h : Only b u w) (o : Nat) (v : Value) : Only b u (w.setCell ⟨b, o, none⟩ v) :=
  ⟨h.os, h.tape, h.output, by rw [World.size_setCell, h.size], fun i hi => (Below.heap_setCell w ⟨b, o, none⟩ v i hi).trans (h.block i hi)⟩
set_option maxRecDepth 100000 in
theorem Only.cell {b : Nat} {w w' : World} (h : Only b w w') {p : Addr} (hp : p.block ≠ b) : w'.cell? p = w.cell? p := World.cell?_of_block (w := w) (h.block p.block hp)
set_option maxRecDepth 100000 in
theorem Only.below {b B : Nat} {w w' : World} (h : Only b w w') (hb : B ≤ b) : Below B w w' :=
  ⟨h.os, h.tape, h.output, by rw [h.size]; exact Nat.le_refl _, fun k hk => h.block k (by omega)⟩

/-- A sum in block b: the once's word, its lock's state, the table, the sum so far. -/
structure SumAt (w : World) (b : Nat) (d m : Int) (t : List Nat) (c : Nat) : Prop where
  done : w.cell? ⟨b, 0, none⟩ = some (.int .u32 d)
  lock : w.cell? ⟨b, 1, none⟩ = some (.int .i32 m)
  row : ∀ i, i < 256 → w.cell? ⟨b, 3 + i, none⟩ = some (.int .u32 (t.getD i 0 : Nat))
  len : t.length = 256
  crc : w.cell? ⟨b, 259, none⟩ = some (.int .u32 (c : Nat))
  fz : ∀ o, w.frozen? ⟨b, o, none⟩ = false

set_option maxRecDepth 100000 in
theorem SumAt.setDone {w : World} {b : Nat} {d m : Int} {t : List Nat} {c : Nat} (h : SumAt w b d m t c) (x : Int) : SumAt (w.setCell ⟨b, 0, none⟩ (.int .u32 x)) b x m t c :=
  ⟨World.cell?_setCell_same _ _ _ h.done, (World.cell?_setCell_other _ _ _ _ (off_ne (by omega))).trans h.lock,
   fun i hi => (World.cell?_setCell_other _ _ _ _ (off_ne (by omega))).trans (h.row i hi), h.len,
   (World.cell?_setCell_other _ _ _ _ (off_ne (by omega))).trans h.crc, fun o => by rw [World.frozen?_setCell]; exact h.fz o⟩

set_option maxRecDepth 100000 in
theorem SumAt.setLock {w : World} {b : Nat} {d m : Int} {t : List Nat} {c : Nat} (h : SumAt w b d m t c) (x : Int) : SumAt (w.setCell ⟨b, 1, none⟩ (.int .i32 x)) b d x t c :=
  ⟨(World.cell?_setCell_other _ _ _ _ (off_ne (by omega))).trans h.done, World.cell?_setCell_same _ _ _ h.lock,
   fun i hi => (World.cell?_setCell_other _ _ _ _ (off_ne (by omega))).trans (h.row i hi), h.len,
   (World.cell?_setCell_other _ _ _ _ (off_ne (by omega))).trans h.crc, fun o => by rw [World.frozen?_setCell]; exact h.fz o⟩

set_option maxRecDepth 100000 in
theorem SumAt.setCrc {w : World} {b : Nat} {d m : Int} {t : List Nat} {c : Nat} (h : SumAt w b d m t c) (x : Nat) : SumAt (w.setCell ⟨b, 259, none⟩ (.int .u32 (x : Nat))) b d m t x :=
  ⟨(World.cell?_setCell_other _ _ _ _ (off_ne (by omega))).trans h.done, (World.cell?_setCell_other _ _ _ _ (off_ne (by omega))).trans h.lock,
   fun i hi => (World.cell?_setCell_other _ _ _ _ (off_ne (by omega))).trans (h.row i hi), h.len,
   World.cell?_setCell_same _ _ _ h.crc, fun o => by rw [World.frozen?_setCell]; exact h.fz o⟩

set_option maxRecDepth 100000 in
theorem SumAt.setRow {w : World} {b : Nat} {d m : Int} {t : List Nat} {c : Nat} (h : SumAt w b d m t c) (i : Nat) (hi : i < 256) (x : Nat) :
    SumAt (w.setCell ⟨b, 3 + i, none⟩ (.int .u32 (x : Nat))) b d m (t.set i x) c := by
  refine ⟨(World.cell?_setCell_other _ _ _ _ (off_ne (by omega))).trans h.done, (World.cell?_setCell_other _ _ _ _ (off_ne (by omega))).trans h.lock, ?_, by rw [List.length_set, h.len],
   (World.cell?_setCell_other _ _ _ _ (off_ne (by omega))).trans h.crc, fun o => by rw [World.frozen?_setCell]; exact h.fz o⟩
  intro j hj
  by_cases e : i = j
  · subst e
    rw [World.cell?_setCell_same _ _ _ (h.row i hi), List.getD_eq_getElem?_getD, List.getElem?_set_self (by rw [h.len]; exact hi)]
    rfl
  · rw [World.cell?_setCell_other _ _ _ _ (off_ne (by omega)), h.row j hj, List.getD_eq_getElem?_getD, List.getD_eq_getElem?_getD, List.getElem?_set_ne e]

set_option maxRecDepth 100000 in
theorem SumAt.drew {w : World} {b : Nat} {d m : Int} {t : List Nat} {c : Nat} (h : SumAt w b d m t c) : SumAt w.drew b d m t c :=
  ⟨h.done, h.lock, h.row, h.len, h.crc, h.fz⟩

set_option maxRecDepth 100000 in
/-- Where the sum's block is as it was, the sum is. -/
theorem SumAt.of_block {w w' : World} {b : Nat} {d m : Int} {t : List Nat} {c : Nat} (h : SumAt w b d m t c) (hb : w'.heap[b]? = w.heap[b]?) : SumAt w' b d m t c :=
  ⟨(World.cell?_of_block (a := ⟨b, 0, none⟩) hb).trans h.done, (World.cell?_of_block (a := ⟨b, 1, none⟩) hb).trans h.lock, fun i hi => (World.cell?_of_block (a := ⟨b, 3 + i, none⟩) hb).trans (h.row i hi), h.len,
   (World.cell?_of_block (a := ⟨b, 259, none⟩) hb).trans h.crc, fun o => (World.frozen?_of_block (a := ⟨b, o, none⟩) hb).trans (h.fz o)⟩

set_option maxRecDepth 100000 in
theorem SumAt.lt {w : World} {b : Nat} {d m : Int} {t : List Nat} {c : Nat} (h : SumAt w b d m t c) : b < w.heap.size := by
  have := h.done
  unfold World.cell? at this
  by_cases hb : b < w.heap.size
  · exact hb
  · simp [hb] at this

/- Numbers of the table's loops. -/
set_option maxRecDepth 100000 in
theorem bit_facts (k : Nat) (hk : k < 8) : 2 * (128 / 2 ^ k) * 2 ^ k = 256 ∧ 0 < 128 / 2 ^ k ∧ 128 / 2 ^ k ≤ 128 ∧ 128 / 2 ^ k / 2 = 128 / 2 ^ (k + 1) := by
  match k, hk with
  | 0, _ => decide
  | 1, _ => decide
  | 2, _ => decide
  | 3, _ => decide
  | 4, _ => decide
  | 5, _ => decide
  | 6, _ => decide
  | 7, _ => decide

set_option maxRecDepth 100000 in
theorem round_facts (B N j : Nat) (h : 2 * B * N = 256) (_hB : 0 < B) (hj : j < N) : 2 * B * j + 2 * B ≤ 256 := by
  have : 2 * B * (j + 1) ≤ 2 * B * N := Nat.mul_le_mul_left _ hj
  rw [Nat.mul_succ] at this
  omega

set_option maxRecDepth 100000 in
theorem round_last (B N j : Nat) (h : 2 * B * N = 256) (hj : N ≤ j) : 256 ≤ 2 * B * j := by
  have : 2 * B * N ≤ 2 * B * j := Nat.mul_le_mul_left _ hj
  omega

end Go.Proofs.YthgpjkcgccdldaaGreatDoor.Sm
