/-
  Windows in memory.
-/
import Derived.Test.YtbkphdemmnjhcaaBase0
import Derived.Test.YtbkphdemmnjhcaaWPure
import Derived.Deep.MidRow
import Derived.Maps.AppendAt
import Derived.Laws.AppendOwnNone
import Derived.Laws.MakeOwn
import Derived.Laws.OwnMore
import Derived.Laws.CopyRow
namespace Go.Proofs.Ytbkphdemmnjhcaa.Wi
open Go.RowKit Go.Maps

/-- An answer's cells. -/
def anC (x : An) : List Value := [.int .i64 x.er, .int .i64 x.lf, .int .i64 x.ov, .int .i64 x.n, .string x.nm, .int .i64 x.s1, .int .i64 x.s2, .int .i64 x.s3, .int .i64 x.s4, .int .i64 x.s5, .int .i64 x.s6, .int .i64 x.s7, .int .i64 x.s8]
/-- Its value. -/
abbrev anV (x : An) : Value := .agg #[.int .i64 x.er, .int .i64 x.lf, .int .i64 x.ov, .int .i64 x.n, .string x.nm, .int .i64 x.s1, .int .i64 x.s2, .int .i64 x.s3, .int .i64 x.s4, .int .i64 x.s5, .int .i64 x.s6, .int .i64 x.s7, .int .i64 x.s8]
/-- An entry's cells. -/
def enC (x : Ent) : List Value := .int .i64 x.id :: anC x.an
abbrev enV (x : Ent) : Value := .agg #[.int .i64 x.id, .int .i64 x.an.er, .int .i64 x.an.lf, .int .i64 x.an.ov, .int .i64 x.an.n, .string x.an.nm, .int .i64 x.an.s1, .int .i64 x.an.s2, .int .i64 x.an.s3, .int .i64 x.an.s4, .int .i64 x.an.s5, .int .i64 x.an.s6, .int .i64 x.an.s7, .int .i64 x.an.s8]
theorem anC_length (x : An) : (anC x).length = 13 := rfl
theorem enC_length (x : Ent) : (enC x).length = 14 := rfl
theorem anV_eq (x : An) : anV x = .agg (anC x).toArray := rfl
theorem enV_eq (x : Ent) : enV x = .agg (enC x).toArray := rfl
theorem anC_one (x : An) : ∀ u ∈ anC x, u.oneCell' = true := by
  intro u hu
  simp only [anC, List.mem_cons, List.not_mem_nil, or_false] at hu
  rcases hu with rfl | rfl | rfl | rfl | rfl | rfl | rfl | rfl | rfl | rfl | rfl | rfl | rfl <;> rfl
theorem enC_one (x : Ent) : ∀ u ∈ enC x, u.oneCell' = true := by
  intro u hu
  rcases List.mem_cons.1 hu with rfl | hu
  · rfl
  · exact anC_one _ _ hu

/- Ranges of cells. -/
theorem rangeAt_turn {S : List Nat} {w w' : World} {b o : Nat} {cs : List Value} (h : w.rangeAt b o cs) (hT : Turn S w w') (hb : b ∉ S) : w'.rangeAt b o cs := fun j v hv => by
  have h1 := h j v hv
  exact (hT.cell (p := ⟨b, o + j, none⟩) (lt_of_cell h1) hb).trans h1
theorem rangeAt_nil (w : World) (b o : Nat) : w.rangeAt b o [] := fun j v hv => by simp at hv
theorem rangeAt_append {w : World} {b o : Nat} {xs ys : List Value} : w.rangeAt b o (xs ++ ys) ↔ w.rangeAt b o xs ∧ w.rangeAt b (o + xs.length) ys := by
  constructor
  · intro h
    refine ⟨fun j v hv => h j v ?_, fun j v hv => ?_⟩
    · have hj : j < xs.length := (List.getElem?_eq_some_iff.1 hv).1
      rw [List.getElem?_append_left hj]; exact hv
    · rw [Nat.add_assoc]
      refine h (xs.length + j) v ?_
      rw [List.getElem?_append_right (by omega), Nat.add_sub_cancel_left]
      exact hv
  · rintro ⟨h1, h2⟩ j v hv
    rcases Nat.lt_or_ge j xs.length with hj | hj
    · rw [List.getElem?_append_left hj] at hv
      exact h1 j v hv
    · rw [List.getElem?_append_right hj] at hv
      have := h2 (j - xs.length) v hv
      rwa [show o + xs.length + (j - xs.length) = o + j by omega] at this
theorem rangeAt_lt {w : World} {b o : Nat} {cs : List Value} (h : w.rangeAt b o cs) (hn : cs ≠ []) : b < w.heap.size := by
  cases cs with
  | nil => exact absurd rfl hn
  | cons v cs => exact lt_of_cell (h 0 v rfl)

/-- Entries' cells in a row. -/
def flatE : List Ent → List Value
  | [] => []
  | x :: l => enC x ++ flatE l
theorem flatE_length (l : List Ent) : (flatE l).length = l.length * 14 := by
  induction l with
  | nil => rfl
  | cons x l ih => rw [flatE, List.length_append, enC_length, ih, List.length_cons]; omega
theorem flatE_append (a b : List Ent) : flatE (a ++ b) = flatE a ++ flatE b := by
  induction a with
  | nil => rfl
  | cons x l ih => rw [List.cons_append, flatE, flatE, ih, List.append_assoc]
theorem flatE_one (l : List Ent) : ∀ u ∈ flatE l, u.oneCell' = true := by
  induction l with
  | nil => intro u hu; simp [flatE] at hu
  | cons x l ih =>
    intro u hu
    rcases List.mem_append.1 hu with h | h
    · exact enC_one x u h
    · exact ih u h
theorem flatE_split (l : List Ent) (k : Nat) : flatE l = flatE (l.take k) ++ flatE (l.drop k) := by
  rw [← flatE_append, List.take_append_drop]
theorem flatE_at {w : World} {b off : Nat} {l : List Ent} (h : w.rangeAt b off (flatE l)) {k : Nat} (hk : k < l.length) : w.rangeAt b (off + k * 14) (enC (l.getD k Ent.nil)) := by
  rw [flatE_split l k, rangeAt_append, flatE_length, List.length_take, Nat.min_eq_left (by omega), List.drop_eq_getElem_cons hk, flatE, rangeAt_append] at h
  rw [List.getD_eq_getElem?_getD, List.getElem?_eq_getElem hk]
  exact h.2.1
theorem flatE_drop {w : World} {b off : Nat} {l : List Ent} (h : w.rangeAt b off (flatE l)) {k : Nat} (hk : k ≤ l.length) : w.rangeAt b (off + k * 14) (flatE (l.drop k)) := by
  rw [flatE_split l k, rangeAt_append, flatE_length, List.length_take, Nat.min_eq_left hk] at h
  exact h.2
theorem flatE_take {w : World} {b off : Nat} {l : List Ent} (h : w.rangeAt b off (flatE l)) (k : Nat) : w.rangeAt b off (flatE (l.take k)) := by
  rw [flatE_split l k, rangeAt_append] at h
  exact h.1

/-- Entries that a slice leads to. -/
def EntsAt (w : World) (a : Option Addr) (l : List Ent) : Prop := l = [] ∨ ∃ b off, a = some ⟨b, off, none⟩ ∧ w.rangeAt b off (flatE l)
theorem EntsAt.turn0 {w w' : World} {a : Option Addr} {l : List Ent} (h : EntsAt w a l) (hT : Turn [] w w') : EntsAt w' a l := by
  rcases h with rfl | ⟨b, off, rfl, h⟩
  · exact .inl rfl
  · exact .inr ⟨b, off, rfl, rangeAt_turn h hT (by simp)⟩
theorem EntsAt.at {w : World} {a : Option Addr} {l : List Ent} (h : EntsAt w a l) {k : Nat} (hk : k < l.length) : ∃ b off, a = some ⟨b, off, none⟩ ∧ w.rangeAt b (off + k * 14) (enC (l.getD k Ent.nil)) := by
  rcases h with rfl | ⟨b, off, rfl, h⟩
  · simp at hk
  · exact ⟨b, off, rfl, flatE_at h hk⟩
theorem EntsAt.take {w : World} {a : Option Addr} {l : List Ent} (h : EntsAt w a l) (k : Nat) : EntsAt w a (l.take k) := by
  rcases h with rfl | ⟨b, off, rfl, h⟩
  · exact .inl (by simp)
  · exact .inr ⟨b, off, rfl, flatE_take h k⟩
/-- A window. -/
def WinAt (w : World) (a : Option Addr) (c : Nat) (l : List Ent) : Prop := EntsAt w a l ∧ (a = none → c = 0) ∧ l.length ≤ c ∧ c ≤ 9223372036854775807
theorem WinAt.turn0 {w w' : World} {a : Option Addr} {c : Nat} {l : List Ent} (h : WinAt w a c l) (hT : Turn [] w w') : WinAt w' a c l := ⟨h.1.turn0 hT, h.2⟩
theorem WinAt.nil (w : World) : WinAt w none 0 [] := ⟨.inl rfl, fun _ => rfl, by simp, by omega⟩
theorem id_cell {w : World} {b o : Nat} {e : Ent} (h : w.rangeAt b o (enC e)) : w.cell? ⟨b, o, none⟩ = some (.int .i64 e.id) := h 0 _ rfl
theorem an_range {w : World} {b o : Nat} {e : Ent} (h : w.rangeAt b o (enC e)) : w.rangeAt b (o + 1) (anC e.an) := fun j v hv => by
  have := h (j + 1) v (by unfold enC; rw [List.getElem?_cons_succ]; exact hv)
  rwa [show o + 1 + j = o + (j + 1) by omega]

/- Loads and stores of whole answers and entries. -/
theorem info_an : (Try.prog.info? 29).map (·.size) = some 13 := by kernel_rfl
theorem info_en : (Try.prog.info? 43).map (·.size) = some 14 := by kernel_rfl
theorem und_an : ∃ d, Try.prog.underlying 29 = some d ∧ d.isRow = true := ⟨.struct (Try.prog.fieldsOf 29), by kernel_rfl, rfl⟩
theorem und_en : ∃ d, Try.prog.underlying 43 = some d ∧ d.isRow = true := ⟨.struct (Try.prog.fieldsOf 43), by kernel_rfl, rfl⟩
theorem load_an {w : World} {b o : Nat} {x : An} (h : w.rangeAt b o (anC x)) : (Instr.loadAt 29 (.pointer (some ⟨b, o, none⟩))).run Try.prog w = .ok (anV x) w := by
  obtain ⟨d, h1, h2⟩ := und_an
  exact run_loadAt_mid w b o _ (anC x) d h h1 h2 (by rw [info_an, anC_length])
theorem load_en {w : World} {b o : Nat} {x : Ent} (h : w.rangeAt b o (enC x)) : (Instr.loadAt 43 (.pointer (some ⟨b, o, none⟩))).run Try.prog w = .ok (enV x) w := by
  obtain ⟨d, h1, h2⟩ := und_en
  exact run_loadAt_mid w b o _ (enC x) d h h1 h2 (by rw [info_en, enC_length])
theorem var_an {w : World} {b o : Nat} {x : An} (h : w.rangeAt b o (anC x)) : (loadVar 29 ⟨b, o, none⟩).run Try.prog w = .ok (anV x) w := by
  obtain ⟨d, h1, h2⟩ := und_an
  exact run_loadVar_mid w b o _ (anC x) d h h1 h2 (by rw [info_an, anC_length])
theorem store_an {w : World} {b o : Nat} {x : An} (h : w.there b o 13) : (Instr.storeAt 29 (.pointer (some ⟨b, o, none⟩)) (anV x)).run Try.prog w = .ok () (w.setCells b o (anC x)) :=
  run_storeAt_mid w b o _ (anC x).toArray h info_an (all_oneCell_toArray (anC_one x))
theorem store_en {w : World} {b o : Nat} {x : Ent} (h : w.there b o 14) : (Instr.storeAt 43 (.pointer (some ⟨b, o, none⟩)) (enV x)).run Try.prog w = .ok () (w.setCells b o (enC x)) :=
  run_storeAt_mid w b o _ (enC x).toArray h info_en (all_oneCell_toArray (enC_one x))

theorem Turn.setCells {S : List Nat} {u : World} {b : Nat} (hb : b ∈ S ∨ u.heap.size ≤ b) (vs : List Value) : ∀ {w : World} (o : Nat), Turn S u w → Turn S u (w.setCells b o vs) := by
  induction vs with
  | nil => intro w o h; exact h
  | cons v vs ih =>
    intro w o h
    rw [World.setCells]
    refine ih (o + 1) ⟨h.os, h.tape, h.output, by rw [World.size_setCell]; exact h.size, fun i hi hn => (Below.heap_setCell w ⟨b, o, none⟩ v i (fun e => ?_)).trans (h.block i hi hn)⟩
    change i = b at e
    subst e
    rcases hb with hb | hb
    · exact hn hb
    · omega
theorem size_setCells (b : Nat) (vs : List Value) : ∀ (o : Nat) (w : World), (w.setCells b o vs).heap.size = w.heap.size := by
  induction vs with
  | nil => intro o w; rfl
  | cons v vs ih => intro o w; rw [World.setCells, ih, World.size_setCell]

/-- What a new answer's block is. -/
def zC : List Value := anC An.nil
abbrev zeroObj : Obj := .cells #[.int .i64 0, .int .i64 0, .int .i64 0, .int .i64 0, .string ⟨#[]⟩, .int .i64 0, .int .i64 0, .int .i64 0, .int .i64 0, .int .i64 0, .int .i64 0, .int .i64 0, .int .i64 0] 29
theorem there_new (w : World) : (w.alloc zeroObj).there w.heap.size 0 13 := fun j hj => by
  have hb : (w.alloc zeroObj).heap[w.heap.size]? = some zeroObj := Array.getElem?_push_size
  refine ⟨?_, ?_⟩
  · unfold World.cell?
    rw [show (w.alloc zeroObj).heap[(⟨w.heap.size, 0 + j, none⟩ : Addr).block]? = some zeroObj from hb]
    rw [Nat.zero_add]
    match j, hj with
    | 0, _ | 1, _ | 2, _ | 3, _ | 4, _ | 5, _ | 6, _ | 7, _ | 8, _ | 9, _ | 10, _ | 11, _ | 12, _ => rfl
  · unfold World.frozen?
    rw [show (w.alloc zeroObj).heap[(⟨w.heap.size, 0 + j, none⟩ : Addr).block]? = some zeroObj from hb]
    simp
/-- An answer that was stored where it was made. -/
theorem kept_an (w : World) (x : An) : ∃ w', (Instr.storeAt 29 (.pointer (some ⟨w.heap.size, 0, none⟩)) (anV x)).run Try.prog (w.alloc zeroObj) = .ok () w' ∧ w'.rangeAt w.heap.size 0 (anC x) ∧ Turn [] w w' ∧ w'.heap.size = w.heap.size + 1 ∧ w'.there w.heap.size 0 13 :=
  ⟨_, store_an (there_new w), World.rangeAt_setCells_same _ _ _ _ (there_new w), Turn.setCells (.inr (Nat.le_refl _)) _ _ ((Turn.refl [] w).alloc _), by rw [size_setCells]; simp, World.there_setCells (there_new w) _ _ _⟩

end Go.Proofs.Ytbkphdemmnjhcaa.Wi
