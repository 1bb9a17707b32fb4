/-
  An account's bytes: how many, and that they are bytes.
-/
import Derived.Test.YtghgkjollafeiaaFW
import Derived.Test.YtghgkjollafeiaaPN
import Derived.Test.YtghgkjollafeiaaPlO
import Derived.Deep.Slices
namespace Go.Proofs.Ytghgkjollafeiaa
open Go.RowKit

theorem flatMap_le {α : Type} (f : α → List Nat) (B : Nat) : ∀ (l : List α), (∀ x ∈ l, (f x).length ≤ B) → (l.flatMap f).length ≤ l.length * B
  | [], _ => by simp
  | x :: l, h => by
    have h1 := h x (List.mem_cons_self ..)
    have h2 := flatMap_le f B l (fun y hy => h y (List.mem_cons_of_mem _ hy))
    rw [List.flatMap_cons, List.length_append, List.length_cons, Nat.succ_mul]
    omega
theorem flatMap_lt {α : Type} {f : α → List Nat} {l : List α} (h : ∀ x ∈ l, ∀ y ∈ f x, y < 256) : ∀ y ∈ l.flatMap f, y < 256 := fun y hy => by
  obtain ⟨x, hx, hy⟩ := List.mem_flatMap.1 hy
  exact h x hx y hy
theorem app_lt {a b : List Nat} (h1 : ∀ y ∈ a, y < 256) (h2 : ∀ y ∈ b, y < 256) : ∀ y ∈ a ++ b, y < 256 := fun y hy => by
  rcases List.mem_append.1 hy with h | h
  · exact h1 y h
  · exact h2 y h
theorem one_lt {n : Nat} (h : n ≤ 255) : ∀ y ∈ [n], y < 256 := fun y hy => by
  rw [List.mem_singleton] at hy
  omega
theorem intsB_len (l : List Int) : (intsB l).length = 8 * l.length := flat8_length l
theorem intsB_lt (l : List Int) : ∀ y ∈ intsB l, y < 256 := flatMap_lt (fun x _ => be8_lt x)
theorem textB_len (t : ByteArray) : (textB t).length = t.size + 1 := by unfold textB; rw [List.length_append, natBytes_length]; simp; omega
theorem textB_lt {t : ByteArray} (h : t.size ≤ 255) : ∀ y ∈ textB t, y < 256 := app_lt (one_lt h) (natBytes_lt t)
theorem listB_lt {D : Type} {f : D → List Nat} {l : List D} (h : l.length ≤ 255) (hf : ∀ x ∈ l, ∀ y ∈ f x, y < 256) : ∀ y ∈ listB f l, y < 256 := app_lt (one_lt h) (flatMap_lt hf)
theorem listB_len {D : Type} {f : D → List Nat} {l : List D} (B : Nat) (hf : ∀ x ∈ l, (f x).length ≤ B) : (listB f l).length ≤ 1 + l.length * B := by
  have := flatMap_le f B l hf
  unfold listB
  rw [List.length_append, List.length_singleton]
  omega
theorem getElem_all {α : Type} {P : α → Prop} {l : List α} (h : ∀ (i : Nat) (hi : i < l.length), P l[i]) : ∀ x ∈ l, P x := fun x hx => by
  obtain ⟨i, hi, rfl⟩ := List.getElem_of_mem hx
  exact h i hi

/-- What the arguments' shape tells: ints within, rows as long as they are. -/
structure AccW (d : AccD) : Prop where
  px : ∀ x ∈ d.px, I64 x
  t : ∀ x ∈ d.t, I64 x
  lots : ∀ p ∈ d.lots, ∀ x ∈ p, I64 x
  n : ∀ x ∈ d.n, I64 x
  holds : ∀ h ∈ d.holds, I64 h.id ∧ (∀ p ∈ h.ps, p.length = 2 ∧ ∀ x ∈ p, I64 x) ∧ (∀ x ∈ h.t, I64 x) ∧ h.t.length = 2
  win : ∀ e ∈ d.win, I64 e.id ∧ (∀ x ∈ e.l, I64 x) ∧ ∀ x ∈ e.xs, I64 x

theorem acc_small {d : AccD} (h : Few d) : Small d := ⟨by have := h.lots; omega, by have := h.holds; omega, fun x hx => by have := getElem_all (P := fun x : HoldD => x.ps.length ≤ 40) h.ps x hx; omega, by have := h.win; omega⟩
theorem ent_len {e : EntD} (h3 : e.l.length = 3) (h8 : e.xs.length = 8) (hn : e.nm.size ≤ 255) : (entBy e).length ≤ 500 := by
  have h1 := tiB_len e.nm e.xs hn (by omega)
  unfold entBy
  simp only [List.length_append, be8_length, List.length_singleton, intsB_len, h3]
  split
  · rw [List.length_singleton]; omega
  · rw [List.length_append, List.length_singleton]; omega

theorem acc_ok {w : World} {cs : List Value} {d : AccD} {v1 v2 v3 : Value} {hcs : List (List Value)} (hI : AcIn w cs d v1 v2 v3 hcs) (hW : AccW d) (h : Few d) : AccOk d ∧ AccI d ∧ (∀ y ∈ accBy d, y < 256) ∧ 0 < (accBy d).length := by
  have hps := getElem_all (P := fun x : HoldD => x.ps.length ≤ 40) h.ps
  have hen := getElem_all (P := fun x : EntD => x.nm.size ≤ 255 ∧ 0 ≤ x.er ∧ x.er ≤ 255) h.en
  have l1 := h.lots
  have l2 := h.holds
  have l3 := h.win
  have hent : ∀ e ∈ d.win, EntOk e := fun e he => ⟨(hI.we e he).1, (hI.we e he).2, (hen e he).2, (hen e he).1⟩
  have q1 : (listB intsB d.lots).length ≤ 1 + d.lots.length * 72 := listB_len 72 (fun x hx => by rw [intsB_len, hI.ll x hx]; omega)
  have q2 : (listB holdBy d.holds).length ≤ 1 + d.holds.length * 700 := listB_len 700 (fun x hx => by
    have hh := hW.holds x hx
    have r1 : (listB intsB x.ps).length ≤ 1 + x.ps.length * 16 := listB_len 16 (fun p hp => by rw [intsB_len, (hh.2.1 p hp).1]; omega)
    have r2 := hps x hx
    unfold holdBy
    rw [List.length_append, List.length_append, be8_length, intsB_len, hh.2.2.2]
    omega)
  have q3 : (listB entBy d.win).length ≤ 1 + d.win.length * 500 := listB_len 500 (fun e he => ent_len (hI.we e he).1 (hI.we e he).2 (hen e he).1)
  have z1 := h.nm
  have z2 := h.key
  have z3 := h.pn
  have hb : (accBy d).length ≤ 500000000 := by
    have h1 := tiB_len d.pn d.px z3 (by rw [hI.lp]; omega)
    unfold accBy
    simp only [List.length_append, textB_len, intsB_len, hI.lt, hI.ln]
    omega
  refine ⟨⟨z1, z2, z3, by omega, by omega, fun x hx => by have := hps x hx; omega, by omega, hent, hb⟩, ⟨hW.px, hI.lp, hW.t, hI.lt, fun p hp => ⟨hI.ll p hp, hW.lots p hp⟩, hW.n, hI.ln, fun x hx => ?_, fun e he => ?_⟩, ?_, ?_⟩
  · have hh := hW.holds x hx
    exact ⟨hh.1, hh.2.1, hh.2.2.1, hh.2.2.2⟩
  · have hh := hW.win e he
    exact ⟨hh.1, (hen e he).2, hh.2.1, (hI.we e he).1, hh.2.2, (hI.we e he).2⟩
  · unfold accBy
    refine app_lt (app_lt (app_lt (app_lt (app_lt (app_lt (app_lt (textB_lt z1) (textB_lt z2)) (tiB_lt d.pn d.px z3)) (intsB_lt _)) (listB_lt (by omega) (fun x _ => intsB_lt x))) (intsB_lt _)) (listB_lt (by omega) (fun x hx => ?_))) (listB_lt (by omega) (fun e he => ?_))
    · unfold holdBy
      exact app_lt (app_lt (be8_lt _) (listB_lt (by have := hps x hx; omega) (fun p _ => intsB_lt p))) (intsB_lt _)
    · unfold entBy
      refine app_lt (app_lt (app_lt (be8_lt _) (one_lt (by have := (hen e he).2; omega))) (intsB_lt _)) ?_
      split
      · exact one_lt (by omega)
      · exact app_lt (one_lt (by omega)) (tiB_lt _ _ (hen e he).1)
  · unfold accBy
    simp only [List.length_append, textB_len]
    omega
end Go.Proofs.Ytghgkjollafeiaa

/-
  RecAccounts, walked.
-/
namespace Go.Proofs.Ytghgkjollafeiaa
open Go.RowKit

theorem small_plain {d : AccD} (h : Small d) : Small (plainA d) := ⟨h.lots, h.holds, h.ps, by show (d.win.map plainE).length ≤ _; rw [List.length_map]; exact h.win⟩
theorem AcIn.len {w : World} {cs : List Value} {d : AccD} {v1 v2 v3 : Value} {hcs : List (List Value)} (h : AcIn w cs d v1 v2 v3 hcs) : cs.length = 20 := by rw [h.e]; exact accL_length h.lp h.lt h.ln
theorem there_zacc (w : World) : (w.alloc (.cells zaccA 28)).there w.heap.size 0 20 := fun j hj => by
  have hb : (w.alloc (.cells zaccA 28)).heap[w.heap.size]? = some (.cells zaccA 28 (0, 0)) := Array.getElem?_push_size
  refine ⟨?_, frozen_of_row _ _ _ _ _ hb⟩
  rw [cell_of_row _ _ _ _ _ _ hb, Nat.zero_add, Array.getElem?_eq_getElem (show j < zaccA.size from hj)]
  rfl
theorem load_acc_g {ops : Array Oper} {rest : List Oper} {dst : Option Tmp} {ty : TypeId} {pos : String} {after : Array Edge} {gd : Option (Nat × Bool)} {a : Act} {w : World} {Q : Exit → Act → World → Prop} (x : Tmp) (b off : Nat) (cs : List Value) (hl : cs.length = 20)
    (hw : Region.wanted ⟨dst, .load 28 (.tmp x), ty, pos, after, gd⟩ (yielded ops a.tmps) = true) (hx : a.eval (.tmp x) = .pointer (some ⟨b, off, none⟩)) (hr : w.rangeAt b off cs)
    (h : wpList Try.prog ops Q rest (a.put dst (.agg cs.toArray)) w) : wpList Try.prog ops Q (⟨dst, .load 28 (.tmp x), ty, pos, after, gd⟩ :: rest) a w := by
  obtain ⟨d, h1, h2⟩ := und_acc
  rw [wpList, if_pos hw]
  exact .inl (wp_load_mid 28 (.tmp x) rfl b off hx cs d hr h1 h2 (by rw [info_acc, hl]) h)

end Go.Proofs.Ytghgkjollafeiaa

/-
  RecAccounts: how its arguments read.
-/
namespace Go.Proofs.Ytghgkjollafeiaa
open Go.RowKit Go.ChangeShapes Go.WideShapes Go.ChangeAt Go.Deep

theorem cells82 : Try.prog.cellsOf 82 = 9 := by kernel_rfl
theorem cells84 : Try.prog.cellsOf 84 = 2 := by kernel_rfl
theorem cells65 : Try.prog.cellsOf 65 = 4 := by kernel_rfl
theorem cells63 : Try.prog.cellsOf 63 = 1 := by kernel_rfl
theorem cells69 : Try.prog.cellsOf 69 = 14 := by kernel_rfl
theorem cells67 : Try.prog.cellsOf 67 = 13 := by kernel_rfl
theorem cells33 : Try.prog.cellsOf 33 = 1 := by kernel_rfl
theorem cells28 : Try.prog.cellsOf 28 = 20 := by kernel_rfl
theorem cells24 : Try.prog.cellsOf 24 = 1 := by kernel_rfl
theorem cells25 : Try.prog.cellsOf 25 = 1 := by kernel_rfl
theorem cells26 : Try.prog.cellsOf 26 = 1 := by kernel_rfl

/-- A row that came in, out of how it is read, its elements by their opener. -/
theorem rows_of {X H : Type} {enc : TypeId × Value → H} {W : World} {tS tE sz fuel : Nat} {cs : List Value} {y : DataW H × List MemPlace} (hS : Try.prog.underlying tS = some (.slice tE)) (hc : Try.prog.cellsOf tE = sz) (hsz : 0 < sz) (G : List Value → X → Prop)
    (hop : ∀ fuel cs y, DataW.trod enc Try.prog W 0 (fun _ => true) true fuel tE cs = some y → ∃ x, G cs x) (h : DataW.trod enc Try.prog W 0 (fun _ => true) true fuel tS cs = some y) :
    ∃ (a : Option Addr) (c : Nat) (css : List (List Value)) (l : List X), cs = [.slice a css.length c] ∧ RowsAt W (.slice a css.length c) sz css ∧ (a = none → c = 0) ∧ css.length = l.length ∧ ∀ i (h1 : i < css.length) (h2 : i < l.length), G css[i] l[i] := by
  rcases open_slice hS h with ⟨hcs, _⟩ | ⟨x, n, c, m, nf, D, Pl, hcs, _, hl, hm, hmm, rfl, hx⟩
  · exact ⟨none, 0, [], [], hcs, ⟨none, 0, rfl, Nat.le_refl _, Nat.zero_le _, fun _ h => (by cases h), .inl rfl⟩, fun _ => rfl, rfl, fun i h => by cases h⟩
  · simp only [if_true] at hmm
    subst hmm
    by_cases hn : n = 0
    · subst hn
      exact ⟨some x, m, [], [], hcs, ⟨some x, m, rfl, Nat.zero_le _, hm, fun _ h => (by cases h), .inl rfl⟩, fun e => (by cases e), rfl, fun i h => by cases h⟩
    have hall : ∀ k, ∃ u : List Value × X, k < n → u.1.length = sz ∧ G u.1 u.2 ∧ ∀ j, j < sz → W.cell? ((x.add (k * sz)).add j) = u.1[j]? := fun k => by
      by_cases hk : k < n
      · obtain ⟨cs', h1, h2⟩ := hx k (by omega)
        rw [hc] at h1
        obtain ⟨_, hlen, hcell⟩ := World.cells?_some h1
        obtain ⟨u, hu⟩ := hop _ _ _ h2
        exact ⟨(cs', u), fun _ => ⟨hlen, hu, hcell⟩⟩
      · obtain ⟨cs', h1, h2⟩ := hx 0 (by omega)
        obtain ⟨u, hu⟩ := hop _ _ _ h2
        exact ⟨(cs', u), fun h => absurd h hk⟩
    obtain ⟨f, hf⟩ := Classical.skolem.1 hall
    have hsp0 : x.spot = none := by
      obtain ⟨h1, _, h3⟩ := hf 0 (by omega)
      have h4 := h3 0 hsz
      rw [List.getElem?_eq_getElem (by omega)] at h4
      obtain ⟨_, _, _, _, hsp⟩ := World.shape?_of_cell? h4
      obtain ⟨b, off, sp⟩ := x
      cases sp with
      | none => rfl
      | some s => simp [Addr.add] at hsp
    obtain ⟨b, off, sp⟩ := x
    obtain rfl : sp = none := hsp0
    have hlen : ((List.range n).map fun i => (f i).1).length = n := by simp
    refine ⟨some ⟨b, off, none⟩, m, (List.range n).map fun i => (f i).1, (List.range n).map fun i => (f i).2, by rw [hlen]; exact hcs, ⟨_, _, rfl, by rw [hlen]; exact hl, hm, fun c hcm => ?_, .inr ⟨b, off, rfl, ?_⟩⟩, fun e => (by cases e), by simp, fun i h1 h2 => ?_⟩
    · obtain ⟨i, hi, rfl⟩ := List.mem_map.1 hcm
      exact (hf i (List.mem_range.1 hi)).1
    · have key : ∀ k, k ≤ n → W.rangeAt b off ((List.range k).map fun i => (f i).1).flatten := fun k => by
        induction k with
        | zero => exact fun _ j v hj => by simp at hj
        | succ k ih =>
          intro hk
          rw [List.range_succ, List.map_append, List.flatten_append]
          refine app_rangeAt (ih (by omega)) ?_
          rw [flatten_len (sz := sz) _ (fun c hcm => by obtain ⟨i, hi, rfl⟩ := List.mem_map.1 hcm; exact (hf i (by have := List.mem_range.1 hi; omega)).1), List.length_map, List.length_range]
          intro j v hj
          simp only [List.map_cons, List.map_nil, List.flatten_cons, List.flatten_nil, List.append_nil] at hj
          obtain ⟨g1, _, g3⟩ := hf k (by omega)
          have hjl : j < sz := by
            rw [← g1]
            exact (List.getElem?_eq_some_iff.1 hj).1
          have g4 := g3 j hjl
          rw [hj, Addr.add_mid, Addr.add_mid] at g4
          exact g4
      exact key n (Nat.le_refl _)
    · simp only [List.getElem_map, List.getElem_range]
      exact (hf i (by rw [hlen] at h1; exact h1)).2.1

set_option maxRecDepth 100000 in
theorem open_lot {H : Type} {enc : TypeId × Value → H} {W : World} {base : Nat} {spare : Nat → Bool} {held : Bool} {fuel : Nat} {cs : List Value} {y : DataW H × List MemPlace} (h : DataW.trod enc Try.prog W base spare held fuel 82 cs = some y) :
    ∃ xs : List Int, cs = intC xs ∧ xs.length = 9 ∧ ∀ x ∈ xs, I64 x := by
  obtain ⟨xs, m, _, _, hl, hlen, hf⟩ := DataW.trod_struct Try.underlying82 h
  rw [cells82] at hl
  obtain ⟨c0, c1, c2, c3, c4, c5, c6, c7, c8, rfl⟩ : ∃ c0 c1 c2 c3 c4 c5 c6 c7 c8, cs = [c0, c1, c2, c3, c4, c5, c6, c7, c8] := by
    match cs, hl with
    | [c0, c1, c2, c3, c4, c5, c6, c7, c8], _ => exact ⟨c0, c1, c2, c3, c4, c5, c6, c7, c8, rfl⟩
  have hg : ∀ i (hi : i < xs.length), xs[i]? = some xs[i] := fun i hi => List.getElem?_eq_getElem hi
  have hn : xs.length = 9 := hlen
  obtain ⟨x0, e0, _, b0⟩ := DataW.trod_int Try.underlying3 ((hf 0 _ rfl).trans (hg 0 (by omega)))
  obtain ⟨x1, e1, _, b1⟩ := DataW.trod_int Try.underlying3 ((hf 1 _ rfl).trans (hg 1 (by omega)))
  obtain ⟨x2, e2, _, b2⟩ := DataW.trod_int Try.underlying3 ((hf 2 _ rfl).trans (hg 2 (by omega)))
  obtain ⟨x3, e3, _, b3⟩ := DataW.trod_int Try.underlying3 ((hf 3 _ rfl).trans (hg 3 (by omega)))
  obtain ⟨x4, e4, _, b4⟩ := DataW.trod_int Try.underlying3 ((hf 4 _ rfl).trans (hg 4 (by omega)))
  obtain ⟨x5, e5, _, b5⟩ := DataW.trod_int Try.underlying3 ((hf 5 _ rfl).trans (hg 5 (by omega)))
  obtain ⟨x6, e6, _, b6⟩ := DataW.trod_int Try.underlying3 ((hf 6 _ rfl).trans (hg 6 (by omega)))
  obtain ⟨x7, e7, _, b7⟩ := DataW.trod_int Try.underlying3 ((hf 7 _ rfl).trans (hg 7 (by omega)))
  obtain ⟨x8, e8, _, b8⟩ := DataW.trod_int Try.underlying3 ((hf 8 _ rfl).trans (hg 8 (by omega)))
  simp [cells3] at e0 e1 e2 e3 e4 e5 e6 e7 e8
  subst e0 e1 e2 e3 e4 e5 e6 e7 e8
  refine ⟨[x0, x1, x2, x3, x4, x5, x6, x7, x8], rfl, rfl, ?_⟩
  intro x hx
  simp only [List.mem_cons, List.not_mem_nil, or_false] at hx
  rcases hx with rfl | rfl | rfl | rfl | rfl | rfl | rfl | rfl | rfl
  · exact i64_of b0
  · exact i64_of b1
  · exact i64_of b2
  · exact i64_of b3
  · exact i64_of b4
  · exact i64_of b5
  · exact i64_of b6
  · exact i64_of b7
  · exact i64_of b8

set_option maxRecDepth 100000 in
theorem open_part {H : Type} {enc : TypeId × Value → H} {W : World} {base : Nat} {spare : Nat → Bool} {held : Bool} {fuel : Nat} {cs : List Value} {y : DataW H × List MemPlace} (h : DataW.trod enc Try.prog W base spare held fuel 84 cs = some y) :
    ∃ xs : List Int, cs = intC xs ∧ xs.length = 2 ∧ ∀ x ∈ xs, I64 x := by
  obtain ⟨xs, m, _, _, hl, hlen, hf⟩ := DataW.trod_struct Try.underlying84 h
  rw [cells84] at hl
  obtain ⟨c0, c1, rfl⟩ : ∃ c0 c1, cs = [c0, c1] := by
    match cs, hl with
    | [c0, c1], _ => exact ⟨c0, c1, rfl⟩
  have hg : ∀ i (hi : i < xs.length), xs[i]? = some xs[i] := fun i hi => List.getElem?_eq_getElem hi
  have hn : xs.length = 2 := hlen
  obtain ⟨x0, e0, _, b0⟩ := DataW.trod_int Try.underlying3 ((hf 0 _ rfl).trans (hg 0 (by omega)))
  obtain ⟨x1, e1, _, b1⟩ := DataW.trod_int Try.underlying3 ((hf 1 _ rfl).trans (hg 1 (by omega)))
  simp [cells3] at e0 e1
  subst e0 e1
  refine ⟨[x0, x1], rfl, rfl, ?_⟩
  intro x hx
  simp only [List.mem_cons, List.not_mem_nil, or_false] at hx
  rcases hx with rfl | rfl
  · exact i64_of b0
  · exact i64_of b1

/-- What is told of a hold that came in. -/
def HoldWf (h : HoldD) : Prop := I64 h.id ∧ (∀ p ∈ h.ps, p.length = 2 ∧ ∀ x ∈ p, I64 x) ∧ (∀ x ∈ h.t, I64 x) ∧ h.t.length = 2
theorem map_of {X : Type} {f : X → List Value} {css : List (List Value)} {l : List X} (hl : css.length = l.length) (h : ∀ i (h1 : i < css.length) (h2 : i < l.length), css[i] = f l[i]) : css = l.map f := by
  refine List.ext_getElem (by rw [List.length_map, hl]) (fun i h1 h2 => ?_)
  rw [List.getElem_map]
  exact h i h1 (by rw [List.length_map] at h2; exact h2)
theorem all_of {X : Type} {P : X → Prop} {css : List (List Value)} {l : List X} (hl : css.length = l.length) (h : ∀ i (_h1 : i < css.length) (h2 : i < l.length), P l[i]) : ∀ x ∈ l, P x := fun x hx => by
  obtain ⟨i, hi, rfl⟩ := List.getElem_of_mem hx
  exact h i (by omega) hi
theorem open_parts {H : Type} {enc : TypeId × Value → H} {W : World} {fuel : Nat} {cs : List Value} {y : DataW H × List MemPlace} (h : DataW.trod enc Try.prog W 0 (fun _ => true) true fuel 63 cs = some y) :
    ∃ (v : Value) (ps : List (List Int)), cs = [v] ∧ RowsAt W v 2 (ps.map intC) ∧ ∀ p ∈ ps, p.length = 2 ∧ ∀ x ∈ p, I64 x := by
  obtain ⟨a, c, css, l, rfl, hR, _, hl, hG⟩ := rows_of Try.underlying63 cells84 (by omega) (fun cs (x : List Int) => cs = intC x ∧ x.length = 2 ∧ ∀ y ∈ x, I64 y) (fun _ _ _ h => open_part h) h
  have e := map_of hl (fun i h1 h2 => (hG i h1 h2).1)
  rw [e] at hR
  exact ⟨_, l, rfl, by rw [e]; exact hR, all_of hl (fun i h1 h2 => (hG i h1 h2).2)⟩
set_option maxRecDepth 100000 in
theorem open_hold {H : Type} {enc : TypeId × Value → H} {W : World} {fuel : Nat} {cs : List Value} {y : DataW H × List MemPlace} (h : DataW.trod enc Try.prog W 0 (fun _ => true) true fuel 65 cs = some y) :
    ∃ d : HoldD, HoldV W cs d ∧ HoldWf d := by
  obtain ⟨xs, m, _, _, hl, hlen, hf⟩ := DataW.trod_struct Try.underlying65 h
  rw [cells65] at hl
  obtain ⟨c0, c1, c2, c3, rfl⟩ : ∃ c0 c1 c2 c3, cs = [c0, c1, c2, c3] := by
    match cs, hl with
    | [c0, c1, c2, c3], _ => exact ⟨c0, c1, c2, c3, rfl⟩
  have hg : ∀ i (hi : i < xs.length), xs[i]? = some xs[i] := fun i hi => List.getElem?_eq_getElem hi
  have hn : xs.length = 4 := hlen
  obtain ⟨x0, e0, _, b0⟩ := DataW.trod_int Try.underlying3 ((hf 0 _ rfl).trans (hg 0 (by omega)))
  obtain ⟨v, ps, e1, hR, hP⟩ := open_parts ((hf 1 _ rfl).trans (hg 1 (by omega)))
  obtain ⟨x2, e2, _, b2⟩ := DataW.trod_int Try.underlying3 ((hf 2 _ rfl).trans (hg 2 (by omega)))
  obtain ⟨x3, e3, _, b3⟩ := DataW.trod_int Try.underlying3 ((hf 3 _ rfl).trans (hg 3 (by omega)))
  simp [cells3, cells63] at e0 e1 e2 e3
  subst e0 e1 e2 e3
  refine ⟨⟨x0, ps, [x2, x3]⟩, ⟨_, rfl, rfl, fun p hp => (hP p hp).1, hR⟩, i64_of b0, hP, ?_, rfl⟩
  intro x hx
  simp only [List.mem_cons, List.not_mem_nil, or_false] at hx
  rcases hx with rfl | rfl
  · exact i64_of b2
  · exact i64_of b3

/-- What is told of an entry that came in. -/
def EntWf (e : EntD) : Prop := (e.l.length = 3 ∧ e.xs.length = 8) ∧ (I64 e.id ∧ (∀ x ∈ e.l, I64 x) ∧ ∀ x ∈ e.xs, I64 x) ∧ e.nm.size ≤ maxLen
set_option maxRecDepth 100000 in
theorem open_answer {H : Type} {enc : TypeId × Value → H} {W : World} {fuel : Nat} {cs : List Value} {y : DataW H × List MemPlace} (h : DataW.trod enc Try.prog W 0 (fun _ => true) true fuel 67 cs = some y) :
    ∃ (er : Int) (l : List Int) (nm : ByteArray) (xs : List Int), cs = .int .i64 er :: (intC l ++ .string nm :: intC xs) ∧ l.length = 3 ∧ xs.length = 8 ∧ (∀ x ∈ l, I64 x) ∧ (∀ x ∈ xs, I64 x) ∧ nm.size ≤ maxLen := by
  obtain ⟨xs, m, _, _, hl, hlen, hf⟩ := DataW.trod_struct Try.underlying67 h
  rw [cells67] at hl
  obtain ⟨c0, c1, c2, c3, c4, c5, c6, c7, c8, c9, c10, c11, c12, rfl⟩ : ∃ c0 c1 c2 c3 c4 c5 c6 c7 c8 c9 c10 c11 c12, cs = [c0, c1, c2, c3, c4, c5, c6, c7, c8, c9, c10, c11, c12] := by
    match cs, hl with
    | [c0, c1, c2, c3, c4, c5, c6, c7, c8, c9, c10, c11, c12], _ => exact ⟨c0, c1, c2, c3, c4, c5, c6, c7, c8, c9, c10, c11, c12, rfl⟩
  have hg : ∀ i (hi : i < xs.length), xs[i]? = some xs[i] := fun i hi => List.getElem?_eq_getElem hi
  have hn : xs.length = 5 := hlen
  obtain ⟨x0, e0, _, _⟩ := DataW.trod_int Try.underlying33 ((hf 0 _ rfl).trans (hg 0 (by omega)))
  obtain ⟨x1, e1, _, b1⟩ := DataW.trod_int Try.underlying3 ((hf 1 _ rfl).trans (hg 1 (by omega)))
  obtain ⟨x2, e2, _, b2⟩ := DataW.trod_int Try.underlying3 ((hf 2 _ rfl).trans (hg 2 (by omega)))
  obtain ⟨x3, e3, _, b3⟩ := DataW.trod_int Try.underlying3 ((hf 3 _ rfl).trans (hg 3 (by omega)))
  obtain ⟨nm, z1, z2, z3, z4, z5, z6, z7, z8, e4, bz, bn⟩ := open_stm ((hf 4 _ rfl).trans (hg 4 (by omega)))
  simp [cells3, cells33, cells40] at e0 e1 e2 e3 e4
  obtain ⟨q0, q1, q2, q3, q4, q5, q6, q7, q8⟩ := e4
  subst e0 e1 e2 e3 q0 q1 q2 q3 q4 q5 q6 q7 q8
  refine ⟨x0, [x1, x2, x3], nm, [z1, z2, z3, z4, z5, z6, z7, z8], rfl, rfl, rfl, ?_, bz, bn⟩
  intro x hx
  simp only [List.mem_cons, List.not_mem_nil, or_false] at hx
  rcases hx with rfl | rfl | rfl
  · exact i64_of b1
  · exact i64_of b2
  · exact i64_of b3
theorem open_entry {H : Type} {enc : TypeId × Value → H} {W : World} {fuel : Nat} {cs : List Value} {y : DataW H × List MemPlace} (h : DataW.trod enc Try.prog W 0 (fun _ => true) true fuel 69 cs = some y) :
    ∃ d : EntD, cs = entC d ∧ EntWf d := by
  obtain ⟨xs, m, _, _, hl, hlen, hf⟩ := DataW.trod_struct Try.underlying69 h
  rw [cells69] at hl
  obtain ⟨c0, cr, rfl⟩ : ∃ c0 cr, cs = c0 :: cr := by
    cases cs with
    | nil => cases hl
    | cons c0 cr => exact ⟨c0, cr, rfl⟩
  have hcr : cr.length = 13 := by rw [List.length_cons] at hl; omega
  have hg : ∀ i (hi : i < xs.length), xs[i]? = some xs[i] := fun i hi => List.getElem?_eq_getElem hi
  have hn : xs.length = 2 := hlen
  obtain ⟨x0, e0, _, b0⟩ := DataW.trod_int Try.underlying3 ((hf 0 _ rfl).trans (hg 0 (by omega)))
  obtain ⟨er, l, nm, zs, e1, h3, h8, bl, bz, bn⟩ := open_answer ((hf 1 _ rfl).trans (hg 1 (by omega)))
  simp [cells3, cells67] at e0 e1
  rw [List.take_of_length_le (by omega)] at e1
  subst e0
  exact ⟨⟨x0, er, l, nm, zs⟩, by rw [e1]; rfl, ⟨h3, h8⟩, ⟨i64_of b0, bl, bz⟩, bn⟩

set_option maxRecDepth 100000 in
set_option maxHeartbeats 1000000 in
/-- An account that came in. -/
theorem open_acc {H : Type} {enc : TypeId × Value → H} {W : World} {fuel : Nat} {cs : List Value} {y : DataW H × List MemPlace} (h : DataW.trod enc Try.prog W 0 (fun _ => true) true fuel 28 cs = some y) :
    ∃ (d : AccD) (v1 v2 v3 : Value) (hcs : List (List Value)), AcIn W cs d v1 v2 v3 hcs ∧ AccW d ∧ d.nm.size ≤ maxLen ∧ d.key.size ≤ maxLen ∧ d.pn.size ≤ maxLen ∧ (∀ x ∈ d.win, x.nm.size ≤ maxLen) ∧ ∀ n k, v3 = .slice none n k → k = 0 := by
  obtain ⟨xs, m, _, _, hl, hlen, hf⟩ := DataW.trod_struct Try.underlying28 h
  rw [cells28] at hl
  obtain ⟨c0, c1, c2, c3, c4, c5, c6, c7, c8, c9, c10, c11, c12, c13, c14, c15, c16, c17, c18, c19, rfl⟩ : ∃ c0 c1 c2 c3 c4 c5 c6 c7 c8 c9 c10 c11 c12 c13 c14 c15 c16 c17 c18 c19, cs = [c0, c1, c2, c3, c4, c5, c6, c7, c8, c9, c10, c11, c12, c13, c14, c15, c16, c17, c18, c19] := by
    match cs, hl with
    | [c0, c1, c2, c3, c4, c5, c6, c7, c8, c9, c10, c11, c12, c13, c14, c15, c16, c17, c18, c19], _ => exact ⟨c0, c1, c2, c3, c4, c5, c6, c7, c8, c9, c10, c11, c12, c13, c14, c15, c16, c17, c18, c19, rfl⟩
  have hg : ∀ i (hi : i < xs.length), xs[i]? = some xs[i] := fun i hi => List.getElem?_eq_getElem hi
  have hn : xs.length = 11 := hlen
  obtain ⟨nm, e0, _, b0⟩ := DataW.trod_string Try.underlying9 ((hf 0 _ rfl).trans (hg 0 (by omega)))
  obtain ⟨key, e1, _, b1⟩ := DataW.trod_string Try.underlying9 ((hf 1 _ rfl).trans (hg 1 (by omega)))
  obtain ⟨pn, x1, x2, x3, x4, x5, x6, x7, x8, x9, e2, bp, b2⟩ := open_plan ((hf 2 _ rfl).trans (hg 2 (by omega)))
  obtain ⟨t1, e3, _, b3⟩ := DataW.trod_int Try.underlying3 ((hf 3 _ rfl).trans (hg 3 (by omega)))
  obtain ⟨t2, e4, _, b4⟩ := DataW.trod_int Try.underlying3 ((hf 4 _ rfl).trans (hg 4 (by omega)))
  obtain ⟨t3, e5, _, b5⟩ := DataW.trod_int Try.underlying3 ((hf 5 _ rfl).trans (hg 5 (by omega)))
  obtain ⟨a6, k6, s6, l6, e6, r6, _, hl6, g6⟩ := rows_of Try.underlying24 cells82 (by omega) (fun cs (x : List Int) => cs = intC x ∧ x.length = 9 ∧ ∀ y ∈ x, I64 y) (fun _ _ _ h => open_lot h) ((hf 6 _ rfl).trans (hg 6 (by omega)))
  obtain ⟨n1, e7, _, b7⟩ := DataW.trod_int Try.underlying3 ((hf 7 _ rfl).trans (hg 7 (by omega)))
  obtain ⟨n2, e8, _, b8⟩ := DataW.trod_int Try.underlying3 ((hf 8 _ rfl).trans (hg 8 (by omega)))
  obtain ⟨a9, k9, s9, l9, e9, r9, _, hl9, g9⟩ := rows_of Try.underlying25 cells65 (by omega) (fun cs (x : HoldD) => HoldV W cs x ∧ HoldWf x) (fun _ _ _ h => open_hold h) ((hf 9 _ rfl).trans (hg 9 (by omega)))
  obtain ⟨a10, k10, s10, l10, e10, r10, z10, hl10, g10⟩ := rows_of Try.underlying26 cells69 (by omega) (fun cs (x : EntD) => cs = entC x ∧ EntWf x) (fun _ _ _ h => open_entry h) ((hf 10 _ rfl).trans (hg 10 (by omega)))
  simp [cells3, cells9, cells23, cells24, cells25, cells26] at e0 e1 e2 e3 e4 e5 e6 e7 e8 e9 e10
  obtain ⟨p0, p1, p2, p3, p4, p5, p6, p7, p8, p9⟩ := e2
  subst e0 e1 p0 p1 p2 p3 p4 p5 p6 p7 p8 p9 e3 e4 e5 e6 e7 e8 e9 e10
  have q6 := map_of hl6 (fun i h1 h2 => (g6 i h1 h2).1)
  have q10 := map_of hl10 (fun i h1 h2 => (g10 i h1 h2).1)
  have w6 := all_of hl6 (P := fun x : List Int => x.length = 9 ∧ ∀ y ∈ x, I64 y) (fun i h1 h2 => (g6 i h1 h2).2)
  have w9 := all_of hl9 (P := HoldWf) (fun i h1 h2 => (g9 i h1 h2).2)
  have w10 := all_of hl10 (P := EntWf) (fun i h1 h2 => (g10 i h1 h2).2)
  refine ⟨⟨nm, key, pn, [x1, x2, x3, x4, x5, x6, x7, x8, x9], [t1, t2, t3], l6, [n1, n2], l9, l10⟩, _, _, _, s9, ⟨rfl, rfl, rfl, rfl, fun x hx => (w6 x hx).1, ?_, hl9, r9, fun i h1 h2 => (g9 i h1 h2).1, fun e he => (w10 e he).1, ?_⟩, ⟨bp, ?_, fun p hp => (w6 p hp).2, ?_, w9, fun e he => (w10 e he).2.1⟩, b0, b1, b2, fun e he => (w10 e he).2.2, ?_⟩
  · show RowsAt W _ 9 (l6.map intC)
    rw [← q6]
    exact r6
  · show RowsAt W _ 14 (l10.map entC)
    rw [← q10]
    exact r10
  · intro x hx
    simp only [List.mem_cons, List.not_mem_nil, or_false] at hx
    rcases hx with rfl | rfl | rfl
    · exact i64_of b3
    · exact i64_of b4
    · exact i64_of b5
  · intro x hx
    simp only [List.mem_cons, List.not_mem_nil, or_false] at hx
    rcases hx with rfl | rfl
    · exact i64_of b7
    · exact i64_of b8
  · intro n k e
    injection e with h1 h2 h3
    rw [← h3]
    exact z10 h1
end Go.Proofs.Ytghgkjollafeiaa
