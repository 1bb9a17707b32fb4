/-
  RecPlans: helpers: boxes, rows; what was encoded is parsed.
-/
import Derived.Test.YtghgkjollafeiaaPp
import Derived.Test.YtghgkjollafeiaaNumsProof
import Derived.Deep.RegionHeld3
namespace Go.Proofs.Ytghgkjollafeiaa
open Go.RowKit

/-- The boxes of a law. -/
theorem box_cells {w w' : World} {b : Nat} {cs : Array Value} {t : TypeId} (h : w.heap[b]? = some (.cells cs t (0, 0))) (hT : Turn [] w w') : ∀ i u, cs[i]? = some u → w'.cell? ⟨b, i, none⟩ = some u := fun i u hu => by
  have hlt : b < w.heap.size := (Array.getElem?_eq_some_iff.1 h).1
  rw [hT.cell (p := ⟨b, i, none⟩) hlt (by simp)]
  exact (cell_of_row w b i cs t (0, 0) h).trans hu
theorem boxes (w : World) (A B C : Obj) : ((w.alloc A).alloc B).alloc C |>.heap[w.heap.size]? = some A := by
  rw [Below.heap_alloc _ _ _ (by simp; omega), Below.heap_alloc _ _ _ (by simp), heap_alloc_new]
theorem boxes1 (w : World) (A B C : Obj) : ((w.alloc A).alloc B).alloc C |>.heap[w.heap.size + 1]? = some B := by
  have e : (w.alloc A).heap.size = w.heap.size + 1 := by simp
  rw [Below.heap_alloc _ _ _ (by simp), ← e, heap_alloc_new]
theorem boxes2 (w : World) (A B C : Obj) : ((w.alloc A).alloc B).alloc C |>.heap[w.heap.size + 1 + 1]? = some C := by
  have e : ((w.alloc A).alloc B).heap.size = w.heap.size + 1 + 1 := by simp
  rw [← e, heap_alloc_new]
/-- The bytes that an encoder made. -/
theorem out_row {w w' : World} {v : Value} {l : List Nat} (h : Out w w' v l) (hl : 0 < l.length) : ∃ g cap, v = .slice (some ⟨g, 0, none⟩) l.length cap ∧ BytesAt w' (some ⟨g, 0, none⟩) l ∧ l.length ≤ cap ∧ cap ≤ maxLen := by
  obtain ⟨g, cap, e, _, _, _, hB, _⟩ := own_bytes h.own hl
  obtain ⟨k1, ⟨_, k2⟩ | ⟨g', c', cur, e', k3, k4, k5, k6, _⟩⟩ := h.own
  · omega
  · rw [e] at e'
    injection e' with e1 e2 e3
    subst e3
    exact ⟨g, cap, e, hB, k5, k6⟩
theorem tiB_pos (nm : ByteArray) (xs : List Int) : 0 < (tiB nm xs).length := by unfold tiB; simp
theorem tiB_len (nm : ByteArray) (xs : List Int) (h : nm.size ≤ 255) (hx : xs.length ≤ 9) : (tiB nm xs).length ≤ 400 := by
  unfold tiB
  rw [List.length_append, List.length_append, natBytes_length, flat8_length]
  show 1 + _ + _ ≤ _
  omega

/-- What was encoded is parsed. -/
theorem back_plan (np : ByteArray) (x1 x2 x3 x4 x5 x6 x7 x8 x9 : Int) (hp : np.size ≤ 255) (hP : ∀ x ∈ [x1, x2, x3, x4, x5, x6, x7, x8, x9], I64 x) (w : World) (g cap : Nat) (hB : BytesAt w (some ⟨g, 0, none⟩) (tiB np [x1, x2, x3, x4, x5, x6, x7, x8, x9])) (h1 : (tiB np [x1, x2, x3, x4, x5, x6, x7, x8, x9]).length ≤ cap) (h2 : cap ≤ maxLen) :
    Calls Try.prog 17 #[.slice (some ⟨g, 0, none⟩) (tiB np [x1, x2, x3, x4, x5, x6, x7, x8, x9]).length cap] w fun r w' => r = .returned (.tuple #[.agg #[Value.string np, .int .i64 x1, .int .i64 x2, .int .i64 x3, .int .i64 x4, .int .i64 x5, .int .i64 x6, .int .i64 x7, .int .i64 x8, .int .i64 x9], .int .i64 0]) ∧ Turn [] w w' := by
  refine (pplan (some ⟨g, 0, none⟩) cap _ (tiB np [x1, x2, x3, x4, x5, x6, x7, x8, x9]) rfl hB h1 h2 (.inr ⟨_, _, rfl⟩) (tiB_lt np [x1, x2, x3, x4, x5, x6, x7, x8, x9] hp)).mono ?_
  rintro e w4 ⟨f, nm, y1, y2, y3, y4, y5, y6, y7, y8, y9, he, rfl, hT4⟩
  rw [parsed_back np [x1, x2, x3, x4, x5, x6, x7, x8, x9] 9 rfl hP] at he
  injection he with he1 he2
  injection he2 with he2 he3
  subst he1
  subst he2
  simp only [List.cons.injEq, and_true] at he3
  obtain ⟨rfl, rfl, rfl, rfl, rfl, rfl, rfl, rfl, rfl⟩ := he3
  exact ⟨rfl, hT4⟩
theorem back_stm (ns : ByteArray) (z1 z2 z3 z4 z5 z6 z7 z8 : Int) (hp : ns.size ≤ 255) (hP : ∀ x ∈ [z1, z2, z3, z4, z5, z6, z7, z8], I64 x) (w : World) (g cap : Nat) (hB : BytesAt w (some ⟨g, 0, none⟩) (tiB ns [z1, z2, z3, z4, z5, z6, z7, z8])) (h1 : (tiB ns [z1, z2, z3, z4, z5, z6, z7, z8]).length ≤ cap) (h2 : cap ≤ maxLen) :
    Calls Try.prog 18 #[.slice (some ⟨g, 0, none⟩) (tiB ns [z1, z2, z3, z4, z5, z6, z7, z8]).length cap] w fun r w' => r = .returned (.tuple #[.agg #[Value.string ns, .int .i64 z1, .int .i64 z2, .int .i64 z3, .int .i64 z4, .int .i64 z5, .int .i64 z6, .int .i64 z7, .int .i64 z8], .int .i64 0]) ∧ Turn [] w w' := by
  refine (pstm (some ⟨g, 0, none⟩) cap _ (tiB ns [z1, z2, z3, z4, z5, z6, z7, z8]) rfl hB h1 h2 (.inr ⟨_, _, rfl⟩) (tiB_lt ns [z1, z2, z3, z4, z5, z6, z7, z8] hp)).mono ?_
  rintro e w4 ⟨f, nm, y1, y2, y3, y4, y5, y6, y7, y8, he, rfl, hT4⟩
  rw [parsed_back ns [z1, z2, z3, z4, z5, z6, z7, z8] 8 rfl hP] at he
  injection he with he1 he2
  injection he2 with he2 he3
  subst he1
  subst he2
  simp only [List.cons.injEq, and_true] at he3
  obtain ⟨rfl, rfl, rfl, rfl, rfl, rfl, rfl, rfl⟩ := he3
  exact ⟨rfl, hT4⟩


/-- The bytes of a row that was made from nothing. -/
theorem gr_bytes {w w' : World} {v v' : Value} {l : List Nat} (h : Gr w w' v v' l) : ∃ a c, v' = .slice a l.length c ∧ BytesAt w' a l := by
  by_cases hl : 0 < l.length
  · obtain ⟨g, cap, e, _, _, _, hB, _⟩ := own_bytes h.own hl
    exact ⟨_, cap, e, hB⟩
  · obtain ⟨a, c, e⟩ := own_form h.own
    exact ⟨a, c, e, .inl (List.eq_nil_of_length_eq_zero (by omega))⟩
end Go.Proofs.Ytghgkjollafeiaa
