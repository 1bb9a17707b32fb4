/-
  An edit of a tree of one leaf: what comes of it, for a key that is put and for one that is deleted.
-/
import Derived.Test.YthgpjkcgccdldaaGreatDoorV21
import Derived.Test.YthgpjkcgccdldaaGreatDoorV31

namespace Go.Proofs.YthgpjkcgccdldaaGreatDoor
open Go.RowKit Go.Maps

theorem Taken.turn0 {w w1 w2 : World} {t p pg : Nat} {D S S' : Stt} (h : Taken w w1 t p pg D S S') (hT : Turn [] w1 w2) : Taken w w2 t p pg D S S' := by
  obtain ⟨e1, e2, e3, e4, e5⟩ := h
  refine ⟨e1, e2, e3, e4.turn hT (by simp), ?_⟩
  rcases e5 with e5 | ⟨e6, e7, e8⟩
  · exact .inl e5
  · refine .inr ⟨e6, e7, ?_⟩
    obtain ⟨k1, k2 | ⟨g', c', cur, k3, k4, k5, k6⟩⟩ := e8
    · exact ⟨k1, .inl k2⟩
    · exact ⟨k1, .inr ⟨g', c', cur, k3, k4, (hT.block g' (by
        rcases Nat.lt_or_ge g' w1.heap.size with h | h
        · exact h
        · rw [Array.getElem?_eq_none h] at k5; cases k5) (by simp)).trans k5, k6⟩⟩

/-- What became of the pages: a fresh leaf was taken, or a page was dropped. -/
def Spent (w w' : World) (pg : Nat) (S S' : Stt) (more top : Nat) : Prop :=
  S'.keys = S.keys ∧ S'.changed = S.changed ∧ ((pg = 0 ∧ S'.fresh + 1 = S.fresh + more ∧ S'.dropped = S.dropped) ∨ (0 < pg ∧ S'.fresh = S.fresh + more ∧ w'.ownsRow w.heap.size 3 1 S'.dropped 1 [.int .i64 (pg : Nat)] ∧ ∀ g, S'.dropped.ownBlock = some g → g < top))

theorem Spent.of {w w1 w2 : World} {t p pg : Nat} {D S S' S2 : Stt} (h : Taken w w1 t p pg D S S') {X : List Nat} (hT : Turn X w1 w2) (hX : ∀ x ∈ X, x < w.heap.size) (more top : Nat) (htop : w1.heap.size ≤ top) (e1 : S2.keys = S'.keys) (e2 : S2.changed = S'.changed) (e3 : S2.fresh = S'.fresh + more) (e4 : S2.dropped = S'.dropped) : Spent w w2 pg S S2 more top := by
  obtain ⟨_, h2, h3, _, h5⟩ := h
  refine ⟨e1.trans h2, e2.trans h3, ?_⟩
  rcases h5 with ⟨h6, h7, h8⟩ | ⟨h6, h7, h8⟩
  · exact .inl ⟨h6, by omega, e4.trans h8⟩
  · refine .inr ⟨h6, by omega, ?_, fun g hg => Nat.lt_of_lt_of_le (h8.lt g (by rw [← e4]; exact hg)).2 htop⟩
    rw [e4]
    obtain ⟨k1, k2 | ⟨g', c', cur, k3, k4, k5, k6⟩⟩ := h8
    · exact ⟨k1, .inl k2⟩
    · exact ⟨k1, .inr ⟨g', c', cur, k3, k4, (hT.block g' (by
        rcases Nat.lt_or_ge g' w1.heap.size with h | h
        · exact h
        · rw [Array.getElem?_eq_none h] at k5; cases k5) (fun hm => by have := hX _ hm; omega)).trans k5, k6⟩⟩

end Go.Proofs.YthgpjkcgccdldaaGreatDoor
