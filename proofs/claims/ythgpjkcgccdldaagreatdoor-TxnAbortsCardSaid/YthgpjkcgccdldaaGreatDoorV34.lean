/-
  write of a fresh leaf.
-/
import Derived.Test.YthgpjkcgccdldaaGreatDoorV32

namespace Go.Proofs.YthgpjkcgccdldaaGreatDoor
open Go.RowKit Go.Maps

theorem OwnB.bytes {w : World} {base : Nat} {v : Value} {l : List Nat} (h : OwnB w base v l) : ∃ a cap, v = .slice a l.length cap ∧ (a = none → cap = 0) ∧ BytesAt w a l ∧ ∀ x, a = some x → base ≤ x.block ∧ x.block < w.heap.size := by
  have hlt := World.ownsRow.lt h
  by_cases h0 : 0 < l.length
  · obtain ⟨g, cap, rfl, _, hb, hl, hB, _⟩ := own_bytes h h0
    exact ⟨_, cap, rfl, by simp, hB, fun x hx => by obtain rfl := Option.some.inj hx; exact ⟨hb, hl⟩⟩
  · have hl : l = [] := List.eq_nil_of_length_eq_zero (by omega)
    subst hl
    obtain ⟨a, c, rfl⟩ := own_form h
    obtain ⟨_, ⟨e, _⟩ | ⟨g, cap', cur, e, hb, _⟩⟩ := h
    · injection e with e1 e2 e3
      subst e1 e3
      exact ⟨none, 0, rfl, fun _ => rfl, .inl rfl, by simp⟩
    · injection e with e1 e2 e3
      subst e1 e3
      exact ⟨_, c, rfl, by simp, .inl rfl, fun x hx => by obtain rfl := Option.some.inj hx; exact hlt g rfl⟩

theorem Pg.left_zero (q : Pg) (N : Nat) : q.left N = 0 ↔ ∀ k, k < 16384 → q.tk N k = true := fc_zero _ _

/-- The bytes of a leaf's page. -/
def leafPage (l : List (ByteArray × ByteArray)) : List Nat := [1] ++ lbytes l
theorem leafPage_lt {l : List (ByteArray × ByteArray)} (h : Short l) : ∀ x ∈ leafPage l, x < 256 := by
  intro x hx
  rcases List.mem_append.1 hx with h1 | h1
  · simp at h1
    omega
  · exact lbytes_lt h x h1

theorem PlaceAt.setPage {w : World} {a pg lvl : Nat} {d : Int} {v : Value} (h : PlaceAt w a pg lvl d v) (n : Nat) : PlaceAt (w.setCell ⟨a, 0, none⟩ (.int .i64 (n : Nat))) a n lvl d v := by
  obtain ⟨ho, hf⟩ := h.set 0 (.int .i64 (n : Nat))
  exact ⟨World.cell?_setCell_same _ _ _ h.c0, (ho 1 (by omega)).trans h.c1, (ho 2 (by omega)).trans h.c2, (ho 3 (by omega)).trans h.c3, (ho 5 (by omega)).trans h.c5, hf⟩

end Go.Proofs.YthgpjkcgccdldaaGreatDoor
