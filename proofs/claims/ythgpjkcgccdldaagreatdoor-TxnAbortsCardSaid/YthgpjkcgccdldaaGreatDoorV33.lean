/-
  Scan of all of a tree of nothing or of one leaf, walked.
-/
import Derived.Test.YthgpjkcgccdldaaGreatDoorV21
import Derived.Test.YthgpjkcgccdldaaGreatDoorV31

namespace Go.Proofs.YthgpjkcgccdldaaGreatDoor
open Go.RowKit Go.Maps

theorem own_turn {S : List Nat} {w w' : World} {base e size n : Nat} {v : Value} {xs : List Value} (h : w.ownsRow base e size v n xs) (hT : Turn S w w') (hn : ∀ g, v.ownBlock = some g → g ∉ S) : w'.ownsRow base e size v n xs := by
  obtain ⟨hl, h | ⟨g, cap, cur, rfl, hb, hg, rest⟩⟩ := h
  · exact ⟨hl, .inl h⟩
  · refine ⟨hl, .inr ⟨g, cap, cur, rfl, hb, (hT.block g ?_ (hn g rfl)).trans hg, rest⟩⟩
    rcases Nat.lt_or_ge g w.heap.size with h | h
    · exact h
    · rw [Array.getElem?_eq_none h] at hg; cases hg

/-- What is found so far: the variable in block fb, and its row in the memory of the call that began at w0. -/
structure Found (w0 w : World) (S : List Nat) (fb hb lb : Nat) (xs : List (ByteArray × ByteArray)) (r : Value) : Prop where
  f0 : w.cell? ⟨fb, 0, none⟩ = some r
  fz : w.frozen? ⟨fb, 0, none⟩ = false
  h0 : w.cell? ⟨hb, 0, none⟩ = some (.string ⟨#[]⟩)
  l0 : w.cell? ⟨lb, 0, none⟩ = some (.int .i64 0)
  row : w.ownsRow w0.heap.size 55 2 r xs.length (flat (kvCells xs))
  ap : ∀ g, r.ownBlock = some g → g ≠ fb ∧ g ≠ hb ∧ g ≠ lb
  ne : fb ≠ hb ∧ fb ≠ lb
  new : w0.heap.size ≤ fb
  turn : Turn S w0 w

theorem Found.turn0 {w0 w w' : World} {S : List Nat} {fb hb lb : Nat} {xs : List (ByteArray × ByteArray)} {r : Value} (h : Found w0 w S fb hb lb xs r) (hT : Turn [] w w') : Found w0 w' S fb hb lb xs r :=
  ⟨(hT.cell (p := ⟨fb, 0, none⟩) (lt_of_cell h.f0) (by simp)).trans h.f0, (World.frozen?_of_block (a := ⟨fb, 0, none⟩) (hT.block fb (lt_of_cell h.f0) (by simp))).trans h.fz, (hT.cell (p := ⟨hb, 0, none⟩) (lt_of_cell h.h0) (by simp)).trans h.h0, (hT.cell (p := ⟨lb, 0, none⟩) (lt_of_cell h.l0) (by simp)).trans h.l0, own_turn h.row hT (by simp), h.ap, h.ne, h.new, h.turn.then hT (by simp)⟩

theorem not_below (k : ByteArray) : ¬ klt k ⟨#[]⟩ := fun h => by
  unfold klt cmp at h
  cases e : k.data.toList with
  | nil => simp [e, Lib.compareBytes] at h
  | cons a r => simp [e, Lib.compareBytes] at h

theorem pos_empty {l : List ByteArray} {i : Nat} (h : IsPos l ⟨#[]⟩ i) : i = 0 := by
  by_cases hi : i = 0
  · exact hi
  · have h1 := h.1
    exact absurd (h.2.1 0 (by omega) (by omega)) (not_below _)

theorem LeafAt.same {w w' : World} {a pg : Nat} {d : Int} {bb off cap : Nat} {l : List (ByteArray × ByteArray)} (h : LeafAt w a pg d bb off cap l) (ha : w'.heap[a]? = w.heap[a]?) (hb : l ≠ [] → w'.heap[bb]? = w.heap[bb]?) : LeafAt w' a pg d bb off cap l := by
  have hc : ∀ o, w'.cell? ⟨a, o, none⟩ = w.cell? ⟨a, o, none⟩ := fun o => World.cell?_of_block (a := ⟨a, o, none⟩) ha
  refine ⟨⟨(hc _).trans h.place.c0, (hc _).trans h.place.c1, (hc _).trans h.place.c2, (hc _).trans h.place.c3, (hc _).trans h.place.c5, fun o => (World.frozen?_of_block (a := ⟨a, o, none⟩) ha).trans (h.place.fz o)⟩, h.d01, ?_, h.cap⟩
  rcases h.kv with h' | ⟨b, o, e, h'⟩
  · exact .inl h'
  · by_cases hl : l = []
    · exact .inl hl
    · injection e with e
      injection e with e1 e2
      subst e1 e2
      exact .inr ⟨bb, off, rfl, fun i hi => ⟨(World.cell?_of_block (a := ⟨bb, off + i * 2, none⟩) (hb hl)).trans (h' i hi).1, (World.cell?_of_block (a := ⟨bb, off + i * 2 + 1, none⟩) (hb hl)).trans (h' i hi).2⟩⟩

end Go.Proofs.YthgpjkcgccdldaaGreatDoor
