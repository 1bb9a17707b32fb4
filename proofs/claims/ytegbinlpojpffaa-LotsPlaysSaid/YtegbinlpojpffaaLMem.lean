/-
  Lots and parts in memory.
-/
import Derived.Test.YtegbinlpojpffaaBase0
import Derived.Test.YtegbinlpojpffaaLPure
import Derived.Maps.AppendAt
import Derived.Laws.AppendOwnNone
import Derived.Laws.MakeOwn
import Derived.Laws.OwnMore
import Derived.Laws.CopyRow
namespace Go.Proofs.Ytegbinlpojpffaa
open Go.RowKit Go.Maps Lo

/-- A lot as a value. -/
abbrev lotV (x : Lt) : Value := .agg #[.int .i64 x.id, .int .i64 x.kd, .int .i64 x.fr, .int .i64 x.un, .int .i64 x.gr, .int .i64 x.co, .int .i64 x.he, .int .i64 x.ex, .int .i64 x.ro]
/-- Its cells. -/
def lotC (x : Lt) : List Value := [.int .i64 x.id, .int .i64 x.kd, .int .i64 x.fr, .int .i64 x.un, .int .i64 x.gr, .int .i64 x.co, .int .i64 x.he, .int .i64 x.ex, .int .i64 x.ro]

/-- A lot's cells in memory. -/
structure LotIn (w : World) (b o : Nat) (x : Lt) : Prop where
  id : w.cell? ⟨b, o, none⟩ = some (.int .i64 x.id)
  kd : w.cell? ⟨b, o + 1, none⟩ = some (.int .i64 x.kd)
  fr : w.cell? ⟨b, o + 2, none⟩ = some (.int .i64 x.fr)
  un : w.cell? ⟨b, o + 3, none⟩ = some (.int .i64 x.un)
  gr : w.cell? ⟨b, o + 4, none⟩ = some (.int .i64 x.gr)
  co : w.cell? ⟨b, o + 5, none⟩ = some (.int .i64 x.co)
  he : w.cell? ⟨b, o + 6, none⟩ = some (.int .i64 x.he)
  ex : w.cell? ⟨b, o + 7, none⟩ = some (.int .i64 x.ex)
  ro : w.cell? ⟨b, o + 8, none⟩ = some (.int .i64 x.ro)

theorem LotIn.lt {w : World} {b o : Nat} {x : Lt} (h : LotIn w b o x) : b < w.heap.size := lt_of_cell h.id
theorem LotIn.keep {w w' : World} {b o : Nat} {x : Lt} (h : LotIn w b o x) (hb : w'.heap[b]? = w.heap[b]?) : LotIn w' b o x :=
  ⟨(World.cell?_of_block hb).trans h.id, (World.cell?_of_block hb).trans h.kd, (World.cell?_of_block hb).trans h.fr, (World.cell?_of_block hb).trans h.un, (World.cell?_of_block hb).trans h.gr, (World.cell?_of_block hb).trans h.co, (World.cell?_of_block hb).trans h.he, (World.cell?_of_block hb).trans h.ex, (World.cell?_of_block hb).trans h.ro⟩
theorem LotIn.turn {S : List Nat} {w w' : World} {b o : Nat} {x : Lt} (h : LotIn w b o x) (hT : Turn S w w') (hb : b ∉ S) : LotIn w' b o x := h.keep (hT.block b h.lt hb)
theorem LotIn.put {w : World} {b o q : Nat} {x : Lt} {v : Value} (h : LotIn w b o x) (hq : q < o ∨ o + 8 < q) : LotIn (w.setCell ⟨b, q, none⟩ v) b o x :=
  ⟨(World.cell?_setCell_other _ _ _ _ (off_ne (by omega))).trans h.id, (World.cell?_setCell_other _ _ _ _ (off_ne (by omega))).trans h.kd, (World.cell?_setCell_other _ _ _ _ (off_ne (by omega))).trans h.fr, (World.cell?_setCell_other _ _ _ _ (off_ne (by omega))).trans h.un, (World.cell?_setCell_other _ _ _ _ (off_ne (by omega))).trans h.gr, (World.cell?_setCell_other _ _ _ _ (off_ne (by omega))).trans h.co, (World.cell?_setCell_other _ _ _ _ (off_ne (by omega))).trans h.he, (World.cell?_setCell_other _ _ _ _ (off_ne (by omega))).trans h.ex, (World.cell?_setCell_other _ _ _ _ (off_ne (by omega))).trans h.ro⟩
theorem LotIn.set_id {w : World} {b o : Nat} {x : Lt} (h : LotIn w b o x) (y : Int) : LotIn (w.setCell ⟨b, o, none⟩ (.int .i64 y)) b o { x with id := y } :=
  ⟨World.cell?_setCell_same _ _ _ h.id, (World.cell?_setCell_other _ _ _ _ (off_ne (by omega))).trans h.kd, (World.cell?_setCell_other _ _ _ _ (off_ne (by omega))).trans h.fr, (World.cell?_setCell_other _ _ _ _ (off_ne (by omega))).trans h.un, (World.cell?_setCell_other _ _ _ _ (off_ne (by omega))).trans h.gr, (World.cell?_setCell_other _ _ _ _ (off_ne (by omega))).trans h.co, (World.cell?_setCell_other _ _ _ _ (off_ne (by omega))).trans h.he, (World.cell?_setCell_other _ _ _ _ (off_ne (by omega))).trans h.ex, (World.cell?_setCell_other _ _ _ _ (off_ne (by omega))).trans h.ro⟩
theorem LotIn.set_kd {w : World} {b o : Nat} {x : Lt} (h : LotIn w b o x) (y : Int) : LotIn (w.setCell ⟨b, o + 1, none⟩ (.int .i64 y)) b o { x with kd := y } :=
  ⟨(World.cell?_setCell_other _ _ _ _ (off_ne (by omega))).trans h.id, World.cell?_setCell_same _ _ _ h.kd, (World.cell?_setCell_other _ _ _ _ (off_ne (by omega))).trans h.fr, (World.cell?_setCell_other _ _ _ _ (off_ne (by omega))).trans h.un, (World.cell?_setCell_other _ _ _ _ (off_ne (by omega))).trans h.gr, (World.cell?_setCell_other _ _ _ _ (off_ne (by omega))).trans h.co, (World.cell?_setCell_other _ _ _ _ (off_ne (by omega))).trans h.he, (World.cell?_setCell_other _ _ _ _ (off_ne (by omega))).trans h.ex, (World.cell?_setCell_other _ _ _ _ (off_ne (by omega))).trans h.ro⟩
theorem LotIn.set_fr {w : World} {b o : Nat} {x : Lt} (h : LotIn w b o x) (y : Int) : LotIn (w.setCell ⟨b, o + 2, none⟩ (.int .i64 y)) b o { x with fr := y } :=
  ⟨(World.cell?_setCell_other _ _ _ _ (off_ne (by omega))).trans h.id, (World.cell?_setCell_other _ _ _ _ (off_ne (by omega))).trans h.kd, World.cell?_setCell_same _ _ _ h.fr, (World.cell?_setCell_other _ _ _ _ (off_ne (by omega))).trans h.un, (World.cell?_setCell_other _ _ _ _ (off_ne (by omega))).trans h.gr, (World.cell?_setCell_other _ _ _ _ (off_ne (by omega))).trans h.co, (World.cell?_setCell_other _ _ _ _ (off_ne (by omega))).trans h.he, (World.cell?_setCell_other _ _ _ _ (off_ne (by omega))).trans h.ex, (World.cell?_setCell_other _ _ _ _ (off_ne (by omega))).trans h.ro⟩
theorem LotIn.set_un {w : World} {b o : Nat} {x : Lt} (h : LotIn w b o x) (y : Int) : LotIn (w.setCell ⟨b, o + 3, none⟩ (.int .i64 y)) b o { x with un := y } :=
  ⟨(World.cell?_setCell_other _ _ _ _ (off_ne (by omega))).trans h.id, (World.cell?_setCell_other _ _ _ _ (off_ne (by omega))).trans h.kd, (World.cell?_setCell_other _ _ _ _ (off_ne (by omega))).trans h.fr, World.cell?_setCell_same _ _ _ h.un, (World.cell?_setCell_other _ _ _ _ (off_ne (by omega))).trans h.gr, (World.cell?_setCell_other _ _ _ _ (off_ne (by omega))).trans h.co, (World.cell?_setCell_other _ _ _ _ (off_ne (by omega))).trans h.he, (World.cell?_setCell_other _ _ _ _ (off_ne (by omega))).trans h.ex, (World.cell?_setCell_other _ _ _ _ (off_ne (by omega))).trans h.ro⟩
theorem LotIn.set_gr {w : World} {b o : Nat} {x : Lt} (h : LotIn w b o x) (y : Int) : LotIn (w.setCell ⟨b, o + 4, none⟩ (.int .i64 y)) b o { x with gr := y } :=
  ⟨(World.cell?_setCell_other _ _ _ _ (off_ne (by omega))).trans h.id, (World.cell?_setCell_other _ _ _ _ (off_ne (by omega))).trans h.kd, (World.cell?_setCell_other _ _ _ _ (off_ne (by omega))).trans h.fr, (World.cell?_setCell_other _ _ _ _ (off_ne (by omega))).trans h.un, World.cell?_setCell_same _ _ _ h.gr, (World.cell?_setCell_other _ _ _ _ (off_ne (by omega))).trans h.co, (World.cell?_setCell_other _ _ _ _ (off_ne (by omega))).trans h.he, (World.cell?_setCell_other _ _ _ _ (off_ne (by omega))).trans h.ex, (World.cell?_setCell_other _ _ _ _ (off_ne (by omega))).trans h.ro⟩
theorem LotIn.set_co {w : World} {b o : Nat} {x : Lt} (h : LotIn w b o x) (y : Int) : LotIn (w.setCell ⟨b, o + 5, none⟩ (.int .i64 y)) b o { x with co := y } :=
  ⟨(World.cell?_setCell_other _ _ _ _ (off_ne (by omega))).trans h.id, (World.cell?_setCell_other _ _ _ _ (off_ne (by omega))).trans h.kd, (World.cell?_setCell_other _ _ _ _ (off_ne (by omega))).trans h.fr, (World.cell?_setCell_other _ _ _ _ (off_ne (by omega))).trans h.un, (World.cell?_setCell_other _ _ _ _ (off_ne (by omega))).trans h.gr, World.cell?_setCell_same _ _ _ h.co, (World.cell?_setCell_other _ _ _ _ (off_ne (by omega))).trans h.he, (World.cell?_setCell_other _ _ _ _ (off_ne (by omega))).trans h.ex, (World.cell?_setCell_other _ _ _ _ (off_ne (by omega))).trans h.ro⟩
theorem LotIn.set_he {w : World} {b o : Nat} {x : Lt} (h : LotIn w b o x) (y : Int) : LotIn (w.setCell ⟨b, o + 6, none⟩ (.int .i64 y)) b o { x with he := y } :=
  ⟨(World.cell?_setCell_other _ _ _ _ (off_ne (by omega))).trans h.id, (World.cell?_setCell_other _ _ _ _ (off_ne (by omega))).trans h.kd, (World.cell?_setCell_other _ _ _ _ (off_ne (by omega))).trans h.fr, (World.cell?_setCell_other _ _ _ _ (off_ne (by omega))).trans h.un, (World.cell?_setCell_other _ _ _ _ (off_ne (by omega))).trans h.gr, (World.cell?_setCell_other _ _ _ _ (off_ne (by omega))).trans h.co, World.cell?_setCell_same _ _ _ h.he, (World.cell?_setCell_other _ _ _ _ (off_ne (by omega))).trans h.ex, (World.cell?_setCell_other _ _ _ _ (off_ne (by omega))).trans h.ro⟩
theorem LotIn.set_ex {w : World} {b o : Nat} {x : Lt} (h : LotIn w b o x) (y : Int) : LotIn (w.setCell ⟨b, o + 7, none⟩ (.int .i64 y)) b o { x with ex := y } :=
  ⟨(World.cell?_setCell_other _ _ _ _ (off_ne (by omega))).trans h.id, (World.cell?_setCell_other _ _ _ _ (off_ne (by omega))).trans h.kd, (World.cell?_setCell_other _ _ _ _ (off_ne (by omega))).trans h.fr, (World.cell?_setCell_other _ _ _ _ (off_ne (by omega))).trans h.un, (World.cell?_setCell_other _ _ _ _ (off_ne (by omega))).trans h.gr, (World.cell?_setCell_other _ _ _ _ (off_ne (by omega))).trans h.co, (World.cell?_setCell_other _ _ _ _ (off_ne (by omega))).trans h.he, World.cell?_setCell_same _ _ _ h.ex, (World.cell?_setCell_other _ _ _ _ (off_ne (by omega))).trans h.ro⟩
theorem LotIn.set_ro {w : World} {b o : Nat} {x : Lt} (h : LotIn w b o x) (y : Int) : LotIn (w.setCell ⟨b, o + 8, none⟩ (.int .i64 y)) b o { x with ro := y } :=
  ⟨(World.cell?_setCell_other _ _ _ _ (off_ne (by omega))).trans h.id, (World.cell?_setCell_other _ _ _ _ (off_ne (by omega))).trans h.kd, (World.cell?_setCell_other _ _ _ _ (off_ne (by omega))).trans h.fr, (World.cell?_setCell_other _ _ _ _ (off_ne (by omega))).trans h.un, (World.cell?_setCell_other _ _ _ _ (off_ne (by omega))).trans h.gr, (World.cell?_setCell_other _ _ _ _ (off_ne (by omega))).trans h.co, (World.cell?_setCell_other _ _ _ _ (off_ne (by omega))).trans h.he, (World.cell?_setCell_other _ _ _ _ (off_ne (by omega))).trans h.ex, World.cell?_setCell_same _ _ _ h.ro⟩

/-- Lots in a block, from an offset on. -/
def LotsIn (w : World) (b off : Nat) (l : List Lt) : Prop := ∀ i, i < l.length → LotIn w b (off + i * 9) (l.getD i Lt.nil)
/-- Lots that a slice leads to. -/
def LotsAt (w : World) (a : Option Addr) (l : List Lt) : Prop := l = [] ∨ ∃ b off, a = some ⟨b, off, none⟩ ∧ LotsIn w b off l

theorem LotsAt.at {w : World} {a : Option Addr} {l : List Lt} (h : LotsAt w a l) {i : Nat} (hi : i < l.length) : ∃ b off, a = some ⟨b, off, none⟩ ∧ LotIn w b (off + i * 9) (l.getD i Lt.nil) := by
  rcases h with rfl | ⟨b, off, rfl, h⟩
  · simp at hi
  · exact ⟨b, off, rfl, h i hi⟩
theorem LotsIn.turn {S : List Nat} {w w' : World} {b off : Nat} {l : List Lt} (h : LotsIn w b off l) (hT : Turn S w w') (hb : b ∉ S) : LotsIn w' b off l := fun i hi => (h i hi).turn hT hb
theorem LotsIn.turn0 {w w' : World} {b off : Nat} {l : List Lt} (h : LotsIn w b off l) (hT : Turn [] w w') : LotsIn w' b off l := h.turn hT (by simp)
theorem LotsAt.turn {S : List Nat} {w w' : World} {a : Option Addr} {l : List Lt} (h : LotsAt w a l) (hT : Turn S w w') (hn : ∀ x, a = some x → x.block ∉ S) : LotsAt w' a l := by
  rcases h with rfl | ⟨b, off, rfl, h⟩
  · exact .inl rfl
  · exact .inr ⟨b, off, rfl, h.turn hT (hn _ rfl)⟩
theorem LotsAt.turn0 {w w' : World} {a : Option Addr} {l : List Lt} (h : LotsAt w a l) (hT : Turn [] w w') : LotsAt w' a l := h.turn hT (by simp)
theorem LotsIn.at {w : World} {b off : Nat} {l : List Lt} (h : LotsIn w b off l) : LotsAt w (some ⟨b, off, none⟩) l := .inr ⟨b, off, rfl, h⟩
/-- One lot of a row is turned. -/
theorem LotsIn.put {w w' : World} {b off : Nat} {l : List Lt} {i : Nat} {y : Lt} (h : LotsIn w b off l) (hi : i < l.length) (h1 : LotIn w' b (off + i * 9) y) (h2 : ∀ q, (q < off + i * 9 ∨ off + i * 9 + 8 < q) → w'.cell? ⟨b, q, none⟩ = w.cell? ⟨b, q, none⟩) : LotsIn w' b off (l.set i y) := by
  intro k hk
  rw [List.length_set] at hk
  rw [getD_set hi]
  by_cases e : k = i
  · subst e; rw [if_pos rfl]; exact h1
  · rw [if_neg e]
    obtain ⟨h_id, h_kd, h_fr, h_un, h_gr, h_co, h_he, h_ex, h_ro⟩ := h k hk
    exact ⟨(h2 _ (by omega)).trans h_id, (h2 _ (by omega)).trans h_kd, (h2 _ (by omega)).trans h_fr, (h2 _ (by omega)).trans h_un, (h2 _ (by omega)).trans h_gr, (h2 _ (by omega)).trans h_co, (h2 _ (by omega)).trans h_he, (h2 _ (by omega)).trans h_ex, (h2 _ (by omega)).trans h_ro⟩

/- Rows as rows of cells. -/
def flatL : List Lt → List Value
  | [] => []
  | x :: l => lotC x ++ flatL l
theorem lotC_length (x : Lt) : (lotC x).length = 9 := rfl
theorem flatL_length (l : List Lt) : (flatL l).length = l.length * 9 := by
  induction l with
  | nil => rfl
  | cons x l ih => rw [flatL, List.length_append, lotC_length, ih, List.length_cons]; omega
theorem flatL_append (a b : List Lt) : flatL (a ++ b) = flatL a ++ flatL b := by
  induction a with
  | nil => rfl
  | cons x l ih => rw [List.cons_append, flatL, flatL, ih, List.append_assoc]
theorem flatL_get (l : List Lt) : ∀ i j, i < l.length → j < 9 → (flatL l)[i * 9 + j]? = (lotC (l.getD i Lt.nil))[j]? := by
  induction l with
  | nil => intro i j h; simp at h
  | cons x l ih =>
    intro i j hi hj
    cases i with
    | zero => rw [flatL, Nat.zero_mul, Nat.zero_add, List.getElem?_append_left (by rw [lotC_length]; exact hj)]; rfl
    | succ i =>
      rw [flatL, List.getElem?_append_right (by rw [lotC_length]; omega), lotC_length, show (i + 1) * 9 + j - 9 = i * 9 + j by omega, ih i j (by simpa using hi) hj]
      rfl
theorem flatL_one (l : List Lt) : ∀ u ∈ flatL l, u.oneCell' = true := by
  induction l with
  | nil => intro u hu; simp [flatL] at hu
  | cons x l ih =>
    intro u hu
    rcases List.mem_append.1 hu with h | h
    · simp only [lotC, List.mem_cons, List.not_mem_nil, or_false] at h
      rcases h with rfl | rfl | rfl | rfl | rfl | rfl | rfl | rfl | rfl <;> rfl
    · exact ih u h
theorem LotsIn.src {w : World} {b off : Nat} {l : List Lt} (h : LotsIn w b off l) : ∀ j u, (flatL l)[j]? = some u → w.cell? ⟨b, off + j, none⟩ = some u := by
  intro j u hu
  have hj : j < l.length * 9 := by
    rw [← flatL_length]
    rcases Nat.lt_or_ge j (flatL l).length with h | h
    · exact h
    · rw [List.getElem?_eq_none h] at hu; cases hu
  obtain ⟨i, r, hr, rfl⟩ : ∃ i r, r < 9 ∧ j = i * 9 + r := ⟨j / 9, j % 9, by omega, by omega⟩
  have hi : i < l.length := by omega
  rw [flatL_get l i r hi hr] at hu
  obtain ⟨h_id, h_kd, h_fr, h_un, h_gr, h_co, h_he, h_ex, h_ro⟩ := h i hi
  rw [← Nat.add_assoc]
  obtain rfl | rfl | rfl | rfl | rfl | rfl | rfl | rfl | rfl : r = 0 ∨ r = 1 ∨ r = 2 ∨ r = 3 ∨ r = 4 ∨ r = 5 ∨ r = 6 ∨ r = 7 ∨ r = 8 := by omega
  · exact h_id.trans hu
  · exact h_kd.trans hu
  · exact h_fr.trans hu
  · exact h_un.trans hu
  · exact h_gr.trans hu
  · exact h_co.trans hu
  · exact h_he.trans hu
  · exact h_ex.trans hu
  · exact h_ro.trans hu
theorem lotsIn_src {w : World} {b off : Nat} {l : List Lt} (h : ∀ j u, (flatL l)[j]? = some u → w.cell? ⟨b, off + j, none⟩ = some u) : LotsIn w b off l := by
  intro i hi
  have hg := fun j hj u => h (i * 9 + j) u ∘ (flatL_get l i j hi hj).trans
  simp only [← Nat.add_assoc] at hg
  exact ⟨hg 0 (by omega) _ rfl, hg 1 (by omega) _ rfl, hg 2 (by omega) _ rfl, hg 3 (by omega) _ rfl, hg 4 (by omega) _ rfl, hg 5 (by omega) _ rfl, hg 6 (by omega) _ rfl, hg 7 (by omega) _ rfl, hg 8 (by omega) _ rfl⟩

theorem add_zero (x : Addr) : x.add 0 = x := rfl
theorem add_spot {b off i : Nat} : (⟨b, off, none⟩ : Addr).add i = ⟨b, off + i, none⟩ := by
  unfold Addr.add
  split
  · subst i; rfl
  · rfl
theorem grownBy_refl (w : World) (row : Option Nat) : w.grownBy w row := ⟨rfl, rfl, rfl, Nat.le_refl _, fun _ _ _ => rfl⟩

/-- Where a row of the call's own lies. -/
theorem own_row {w : World} {base e m n : Nat} {v : Value} {cs : List Value} (h : w.ownsRow base e m v n cs) :
    ∃ a cap, v = .slice a n cap ∧ (a = none → cap = 0) ∧ (cs = [] ∨ ∃ g, a = some ⟨g, 0, none⟩) ∧ (n ≤ cap ∧ cap ≤ 9223372036854775807) ∧ ∀ x, a = some x → x = ⟨x.block, 0, none⟩ ∧ base ≤ x.block ∧ x.block < w.heap.size ∧ (∀ o, w.frozen? ⟨x.block, o, none⟩ = false) ∧ ∀ j u, cs[j]? = some u → w.cell? ⟨x.block, 0 + j, none⟩ = some u := by
  obtain ⟨hl, ⟨rfl, rfl⟩ | ⟨g, cap, cur, rfl, hb, hg, hnc, hm, hsz, hcur⟩⟩ := h
  · exact ⟨none, 0, rfl, fun _ => rfl, .inl (List.eq_nil_of_length_eq_zero (by omega)), ⟨by omega, by omega⟩, fun x hx => by cases hx⟩
  · have hlt : g < w.heap.size := by
      rcases Nat.lt_or_ge g w.heap.size with h | h
      · exact h
      · rw [Array.getElem?_eq_none h] at hg; cases hg
    unfold maxLen at hm
    refine ⟨some ⟨g, 0, none⟩, cap, rfl, fun e => (by cases e), .inr ⟨g, rfl⟩, ⟨hnc, hm⟩, fun x hx => ?_⟩
    obtain rfl := Option.some.inj hx
    refine ⟨rfl, hb, hlt, fun o => by unfold World.frozen?; rw [hg]; simp, fun j u hj => ?_⟩
    unfold World.cell?
    rw [hg]
    show cur[0 + j]? = _
    have hjl : j < n * m := by
      rw [← hl]
      rcases Nat.lt_or_ge j cs.length with h | h
      · exact h
      · rw [List.getElem?_eq_none h] at hj; cases hj
    rw [← hcur, List.getElem?_take, if_pos hjl] at hj
    rw [Nat.zero_add, ← Array.getElem?_toList]
    exact hj
theorem own_lots {w : World} {base e n : Nat} {v : Value} {l : List Lt} (h : w.ownsRow base e 9 v n (flatL l)) :
    ∃ a cap, v = .slice a l.length cap ∧ n = l.length ∧ (a = none → cap = 0) ∧ LotsAt w a l ∧ (l.length ≤ cap ∧ cap ≤ 9223372036854775807) ∧ ∀ x, a = some x → x = ⟨x.block, 0, none⟩ ∧ base ≤ x.block ∧ x.block < w.heap.size ∧ (∀ o, w.frozen? ⟨x.block, o, none⟩ = false) ∧ LotsIn w x.block 0 l := by
  have hn : n = l.length := by have := h.1; rw [flatL_length] at this; omega
  obtain ⟨a, cap, rfl, h1, h2, h3, h4⟩ := own_row h
  subst hn
  refine ⟨a, cap, rfl, rfl, h1, ?_, h3, fun x hx => ⟨(h4 x hx).1, (h4 x hx).2.1, (h4 x hx).2.2.1, (h4 x hx).2.2.2.1, lotsIn_src (h4 x hx).2.2.2.2⟩⟩
  rcases h2 with h2 | ⟨g, rfl⟩
  · exact .inl (List.eq_nil_of_length_eq_zero (by have := congrArg List.length h2; rw [flatL_length] at this; simp at this; omega))
  · exact (lotsIn_src (h4 _ rfl).2.2.2.2).at

/- Parts. -/
/-- Parts in a block. -/
def PartsIn (w : World) (b off : Nat) (l : List (Int × Int)) : Prop := ∀ i, i < l.length → w.cell? ⟨b, off + i * 2, none⟩ = some (.int .i64 (l.getD i (0, 0)).1) ∧ w.cell? ⟨b, off + i * 2 + 1, none⟩ = some (.int .i64 (l.getD i (0, 0)).2)
def PartsAt (w : World) (a : Option Addr) (l : List (Int × Int)) : Prop := l = [] ∨ ∃ b off, a = some ⟨b, off, none⟩ ∧ PartsIn w b off l
theorem PartsAt.at {w : World} {a : Option Addr} {l : List (Int × Int)} (h : PartsAt w a l) {i : Nat} (hi : i < l.length) : ∃ b off, a = some ⟨b, off, none⟩ ∧ w.cell? ⟨b, off + i * 2, none⟩ = some (.int .i64 (l.getD i (0, 0)).1) ∧ w.cell? ⟨b, off + i * 2 + 1, none⟩ = some (.int .i64 (l.getD i (0, 0)).2) := by
  rcases h with rfl | ⟨b, off, rfl, h⟩
  · simp at hi
  · exact ⟨b, off, rfl, h i hi⟩
theorem PartsAt.turn {S : List Nat} {w w' : World} {a : Option Addr} {l : List (Int × Int)} (h : PartsAt w a l) (hT : Turn S w w') (hn : ∀ x, a = some x → x.block ∉ S) : PartsAt w' a l := by
  rcases h with rfl | ⟨b, off, rfl, h⟩
  · exact .inl rfl
  · refine .inr ⟨b, off, rfl, fun i hi => ⟨?_, ?_⟩⟩
    · exact (hT.cell (p := ⟨b, off + i * 2, none⟩) (lt_of_cell (h i hi).1) (hn ⟨b, off, none⟩ rfl)).trans (h i hi).1
    · exact (hT.cell (p := ⟨b, off + i * 2 + 1, none⟩) (lt_of_cell (h i hi).1) (hn ⟨b, off, none⟩ rfl)).trans (h i hi).2
theorem PartsAt.turn0 {w w' : World} {a : Option Addr} {l : List (Int × Int)} (h : PartsAt w a l) (hT : Turn [] w w') : PartsAt w' a l := h.turn hT (by simp)
def flatP : List (Int × Int) → List Value
  | [] => []
  | x :: l => .int .i64 x.1 :: .int .i64 x.2 :: flatP l
theorem flatP_length (l : List (Int × Int)) : (flatP l).length = l.length * 2 := by
  induction l with
  | nil => rfl
  | cons x l ih => rw [flatP, List.length_cons, List.length_cons, ih, List.length_cons]; omega
theorem flatP_append (a b : List (Int × Int)) : flatP (a ++ b) = flatP a ++ flatP b := by
  induction a with
  | nil => rfl
  | cons x l ih => rw [List.cons_append, flatP, flatP, ih, List.cons_append, List.cons_append]
theorem flatP_one (l : List (Int × Int)) : ∀ u ∈ flatP l, u.oneCell' = true := by
  induction l with
  | nil => intro u hu; simp [flatP] at hu
  | cons x l ih =>
    intro u hu
    rw [flatP] at hu
    rcases List.mem_cons.1 hu with rfl | h
    · rfl
    · rcases List.mem_cons.1 h with rfl | h
      · rfl
      · exact ih u h
theorem flatP_get (l : List (Int × Int)) : ∀ i, i < l.length → (flatP l)[i * 2]? = some (.int .i64 (l.getD i (0, 0)).1) ∧ (flatP l)[i * 2 + 1]? = some (.int .i64 (l.getD i (0, 0)).2) := by
  induction l with
  | nil => intro i h; simp at h
  | cons x l ih =>
    intro i hi
    cases i with
    | zero => exact ⟨rfl, rfl⟩
    | succ i =>
      have := ih i (by simpa using hi)
      rw [flatP, show (i + 1) * 2 = i * 2 + 1 + 1 by omega, List.getElem?_cons_succ, List.getElem?_cons_succ, List.getElem?_cons_succ, List.getElem?_cons_succ]
      exact this
theorem partsIn_src {w : World} {b off : Nat} {l : List (Int × Int)} (h : ∀ j u, (flatP l)[j]? = some u → w.cell? ⟨b, off + j, none⟩ = some u) : PartsIn w b off l :=
  fun i hi => ⟨h _ _ (flatP_get l i hi).1, h _ _ (flatP_get l i hi).2⟩
theorem own_parts {w : World} {base e n : Nat} {v : Value} {l : List (Int × Int)} (h : w.ownsRow base e 2 v n (flatP l)) :
    ∃ a cap, v = .slice a l.length cap ∧ n = l.length ∧ (a = none → cap = 0) ∧ PartsAt w a l ∧ (l.length ≤ cap ∧ cap ≤ 9223372036854775807) ∧ ∀ x, a = some x → x = ⟨x.block, 0, none⟩ ∧ base ≤ x.block ∧ x.block < w.heap.size := by
  have hn : n = l.length := by have := h.1; rw [flatP_length] at this; omega
  obtain ⟨a, cap, rfl, h1, h2, h3, h4⟩ := own_row h
  subst hn
  refine ⟨a, cap, rfl, rfl, h1, ?_, h3, fun x hx => ⟨(h4 x hx).1, (h4 x hx).2.1, (h4 x hx).2.2.1⟩⟩
  rcases h2 with h2 | ⟨g, rfl⟩
  · exact .inl (List.eq_nil_of_length_eq_zero (by have := congrArg List.length h2; rw [flatP_length] at this; simp at this; omega))
  · exact .inr ⟨g, 0, rfl, partsIn_src (h4 _ rfl).2.2.2.2⟩

/- Rows of ints. -/
def flatI (l : List Nat) : List Value := l.map fun (x : Nat) => .int .i64 (x : Nat)
/-- Ints in a block. -/
structure IntsIn (w : World) (b : Nat) (l : List Nat) : Prop where
  cell : ∀ i, i < l.length → w.cell? ⟨b, i, none⟩ = some (.int .i64 (l.getD i 0 : Nat))
  fz : ∀ o, w.frozen? ⟨b, o, none⟩ = false
theorem IntsIn.turn {S : List Nat} {w w' : World} {b : Nat} {l : List Nat} (h : IntsIn w b l) (hT : Turn S w w') (hb : b ∉ S) (hl : b < w.heap.size) : IntsIn w' b l :=
  ⟨fun i hi => (hT.cell (p := ⟨b, i, none⟩) hl hb).trans (h.cell i hi), fun o => (World.frozen?_of_block (a := ⟨b, o, none⟩) (hT.block b hl hb)).trans (h.fz o)⟩
theorem own_ints {w : World} {base e n : Nat} {v : Value} {l : List Nat} (h : w.ownsRow base e 1 v n (flatI l)) :
    ∃ a cap, v = .slice a l.length cap ∧ n = l.length ∧ (a = none → cap = 0) ∧ (l = [] ∨ ∃ g, a = some ⟨g, 0, none⟩) ∧ (l.length ≤ cap ∧ cap ≤ 9223372036854775807) ∧ ∀ x, a = some x → x = ⟨x.block, 0, none⟩ ∧ base ≤ x.block ∧ x.block < w.heap.size ∧ IntsIn w x.block l := by
  have hn : n = l.length := by have := h.1; simp [flatI] at this; omega
  obtain ⟨a, cap, rfl, h1, h2, h3, h4⟩ := own_row h
  subst hn
  refine ⟨a, cap, rfl, rfl, h1, h2.imp (fun e => by simpa [flatI] using e) id, h3, fun x hx => ⟨(h4 x hx).1, (h4 x hx).2.1, (h4 x hx).2.2.1, fun i hi => ?_, (h4 x hx).2.2.2.1⟩⟩
  have := (h4 x hx).2.2.2.2 i (.int .i64 (l.getD i 0 : Nat)) (by simp [flatI, hi])
  rw [Nat.zero_add] at this
  exact this

end Go.Proofs.Ytegbinlpojpffaa
