/-
  A key is taken out of a leaf: slices.Clone, slices.IndexFunc, slices.DeleteFunc, leaf.del, walked.
-/
import Derived.Test.YthgpjkcgccdldaaGreatDoorV16
import Derived.Lib.SliceRun

namespace Go.Proofs.YthgpjkcgccdldaaGreatDoor
open Go.RowKit Go.Maps

/-- An append of pairs to a row of the call's own, whatever the slice's type is. -/
theorem append_pairsT {ops : Array Oper} {rest : List Oper} {o : Oper} {a : Act} {Q : Exit → Act → World → Prop} {w : World} (T : TypeId) (hU : Tryz.prog.underlying T = some (.slice 55)) (hgd : o.guard = none) (s x : Operand)
    (ho : o.op = .call { callee := .builtin .append, args := #[s, x], argTypes := #[T, T] }) (base : Nat) (v : Value) (n : Nat) (xs : List (Value × Value)) (hs : a.eval s = v) (hown : w.ownsRow base 55 2 v n (flat xs))
    (ak : Option Addr) (m c : Nat) (l : List (Value × Value)) (hx : a.eval x = .slice ak m c) (hm : l.length = m) (hnone : ak = none → c = 0) (hb : PairsAt w ak l) (h1 : OneCell l) (hbound : n + m ≤ 1000000) (hbase : base ≤ w.heap.size)
    (h : ∀ v' w', w'.ownsRow base 55 2 v' (n + m) (flat (xs ++ l)) → w.grownBy w' v.ownBlock → (v'.ownBlock = v.ownBlock ∨ v'.ownBlock = some w.heap.size) → wpList Tryz.prog ops Q rest (a.put o.dst v') w') :
    wpList Tryz.prog ops Q (o :: rest) a w := by
  obtain ⟨i0, z, hi, hz0, hzc, hz1, hz2⟩ := info_all
  cases ak with
  | none =>
    obtain rfl := hnone rfl
    have hl : l = [] := by
      rcases hb with h | ⟨_, _, e, _⟩
      · exact h
      · cases e
    subst hl
    obtain rfl : 0 = m := hm
    refine wpList_append_own_none hgd s x T ho base 55 i0 2 hU hi v n _ hs hown hx (h v w ?_ (grownBy_refl _ _) (.inl rfl))
    simpa using hown
  | some ad =>
    refine wpList_append_own_at w hgd s x T ho base 55 i0 z 2 32 hU hi hz0 hz1 hz2 hzc (by decide) v n (flat xs) hs hown ad m c (flat l) hx (by rw [flat_length, hm]) hb.src (flat_one h1) (by unfold maxLen; omega) (by omega) hbase ?_
    intro v' w' h1 h2 _ h4
    exact h v' w' (by rw [flat_append]; exact h1) h2 h4

/-- A row of pairs of the call's own, with something in it. -/
theorem own_kvs {w : World} {base n : Nat} {v : Value} {l : List (ByteArray × ByteArray)} (h : w.ownsRow base 55 2 v n (flat (kvCells l))) (hne : 0 < l.length) :
    ∃ g cap, v = .slice (some ⟨g, 0, none⟩) l.length cap ∧ n = l.length ∧ (l.length ≤ cap ∧ cap ≤ 9223372036854775807) ∧ base ≤ g ∧ g < w.heap.size ∧ KVsAt w (some ⟨g, 0, none⟩) l ∧ ∀ o, w.frozen? ⟨g, o, none⟩ = false := by
  have hlt := h.lt
  obtain ⟨a, cap, e, hn, _, hp, _⟩ := own_pairs h
  rw [kvCells_length] at e hn
  obtain ⟨_, ⟨rfl, h0⟩ | ⟨g, cap', cur, rfl, hb, hg, hnc, hm, _⟩⟩ := h
  · omega
  · injection e with e1 e2 e3
    subst e1 e3
    obtain ⟨hl1, hl2⟩ := hlt g rfl
    unfold maxLen at hm
    exact ⟨g, cap', by rw [hn], hn, ⟨by omega, by omega⟩, hb, hl2, hp.kvs, fun o => by unfold World.frozen?; simp [hg]⟩

theorem eq_str (a b : ByteArray) : (a.toList == b.toList) = decide (a = b) := by
  by_cases h : a = b
  · subst h
    simp
  · have : ¬ a.toList = b.toList := fun e => h (by
      apply bytes_ext
      simpa [ByteArray.toList_eq] using e)
    simp [this, h]

theorem clone_eq_some (T : TypeId) (hU : Tryz.prog.underlying T = some (.slice 55)) (x : Addr) (n c : Nat) (w : World) : Sem.run Tryz.prog (binOp .eql T (.slice (some x) n c) (.slice none 0 0)) w = .ok (.bool false) w := Lib.run_eql_slice_nil w T 55 (some x) n c 0 0 hU

/-- A pair of a row, or nothing. -/
def pairAt (l : List (ByteArray × ByteArray)) (y : Nat) : ByteArray × ByteArray := l[y]?.getD (⟨#[]⟩, ⟨#[]⟩)
theorem pairAt_get {l : List (ByteArray × ByteArray)} {y : Nat} (h : y < l.length) : pairAt l y = l[y] := by simp [pairAt, h]

/-- Pairs in a block, by a function. -/
structure PairsF (w : World) (g n : Nat) (f : Nat → ByteArray × ByteArray) : Prop where
  cell : ∀ y, y < n → w.cell? ⟨g, y * 2, none⟩ = some (.string (f y).1) ∧ w.cell? ⟨g, y * 2 + 1, none⟩ = some (.string (f y).2)
  fz : ∀ o, w.frozen? ⟨g, o, none⟩ = false

theorem PairsF.turn0 {w w' : World} {g n : Nat} {f : Nat → ByteArray × ByteArray} (h : PairsF w g n f) (hT : Turn [] w w') (hg : g < w.heap.size) : PairsF w' g n f :=
  ⟨fun y hy => ⟨(hT.cell (p := ⟨g, y * 2, none⟩) hg (by simp)).trans (h.cell y hy).1, (hT.cell (p := ⟨g, y * 2 + 1, none⟩) hg (by simp)).trans (h.cell y hy).2⟩, fun o => (World.frozen?_of_block (a := ⟨g, o, none⟩) (hT.block g hg (by simp))).trans (h.fz o)⟩

theorem PairsF.of {w : World} {g : Nat} {l : List (ByteArray × ByteArray)} (h : KVsAt w (some ⟨g, 0, none⟩) l) (hf : ∀ o, w.frozen? ⟨g, o, none⟩ = false) : PairsF w g l.length (pairAt l) :=
  ⟨fun y hy => by
    obtain ⟨b, off, e, h0, h1⟩ := h.at hy
    injection e with e
    injection e with e1 e2
    subst e1 e2
    rw [pairAt_get hy]
    rw [Nat.zero_add] at h0 h1
    exact ⟨h0, h1⟩, hf⟩

theorem PairsF.kvs {w : World} {g n : Nat} {f : Nat → ByteArray × ByteArray} (h : PairsF w g n f) (l : List (ByteArray × ByteArray)) (hl : l.length ≤ n) (e : ∀ y (h : y < l.length), l[y] = f y) : KVsAt w (some ⟨g, 0, none⟩) l :=
  .inr ⟨g, 0, rfl, fun i hi => by rw [Nat.zero_add, e i hi]; exact h.cell i (by omega)⟩

/-- One pair is stored. -/
theorem PairsF.set {w : World} {g n : Nat} {f : Nat → ByteArray × ByteArray} (h : PairsF w g n f) (x : Nat) (hx : x < n) (k v : ByteArray) : PairsF ((w.setCell ⟨g, x * 2, none⟩ (.string k)).setCell ⟨g, x * 2 + 1, none⟩ (.string v)) g n (fun y => if y = x then (k, v) else f y) ∧ Turn [g] w ((w.setCell ⟨g, x * 2, none⟩ (.string k)).setCell ⟨g, x * 2 + 1, none⟩ (.string v)) := by
  have hT : Turn [g] w ((w.setCell ⟨g, x * 2, none⟩ (.string k)).setCell ⟨g, x * 2 + 1, none⟩ (.string v)) := ((Turn.refl [g] w).setCell (List.mem_singleton.2 rfl) _ _).setCell (List.mem_singleton.2 rfl) _ _
  refine ⟨⟨fun y hy => ?_, fun o => by rw [World.frozen?_setCell, World.frozen?_setCell]; exact h.fz o⟩, hT⟩
  by_cases hyx : y = x
  · subst hyx
    rw [if_pos rfl]
    have hs1 : (w.setCell ⟨g, y * 2, none⟩ (.string k)).cell? ⟨g, y * 2 + 1, none⟩ = _ := (World.cell?_setCell_other _ _ _ _ (off_ne (by omega))).trans (h.cell y hy).2
    exact ⟨by rw [World.cell?_setCell_other _ _ _ _ (off_ne (by omega)), World.cell?_setCell_same _ _ _ (h.cell y hy).1], World.cell?_setCell_same _ _ _ hs1⟩
  · rw [if_neg hyx]
    exact ⟨by rw [World.cell?_setCell_other _ _ _ _ (off_ne (by omega)), World.cell?_setCell_other _ _ _ _ (off_ne (by omega)), (h.cell y hy).1], by rw [World.cell?_setCell_other _ _ _ _ (off_ne (by omega)), World.cell?_setCell_other _ _ _ _ (off_ne (by omega)), (h.cell y hy).2]⟩

end Go.Proofs.YthgpjkcgccdldaaGreatDoor
