/-
  Rows that are handed in, and accounts: where their parts lie; their bytes.
-/
import Derived.Test.YtghgkjollafeiaaPR
namespace Go.Proofs.Ytghgkjollafeiaa
open Go.RowKit

/-- A slice of elements of so many cells each. -/
def RowsAt (w : World) (v : Value) (sz : Nat) (css : List (List Value)) : Prop :=
  ∃ a cap, v = .slice a css.length cap ∧ css.length ≤ cap ∧ cap ≤ maxLen ∧ (∀ cs ∈ css, cs.length = sz) ∧ (css = [] ∨ ∃ b off, a = some ⟨b, off, none⟩ ∧ w.rangeAt b off css.flatten)
theorem flatten_len {sz : Nat} : ∀ (css : List (List Value)), (∀ cs ∈ css, cs.length = sz) → css.flatten.length = css.length * sz
  | [], _ => by simp
  | cs :: css, h => by
    rw [List.flatten_cons, List.length_append, flatten_len css (fun c hc => h c (List.mem_cons_of_mem _ hc)), h cs (List.mem_cons_self ..), List.length_cons, Nat.succ_mul]
    omega
/-- One of a row's elements. -/
theorem rows_elem {w : World} {b off sz : Nat} {css : List (List Value)} (h : w.rangeAt b off css.flatten) (hl : ∀ cs ∈ css, cs.length = sz) {i : Nat} (hi : i < css.length) : w.rangeAt b (off + i * sz) css[i] := by
  have e : css = css.take i ++ (css[i] :: css.drop (i + 1)) := by rw [List.getElem_cons_drop hi, List.take_append_drop]
  rw [e, List.flatten_append, List.flatten_cons] at h
  have h1 := rangeAt_right h
  have h2 := rangeAt_left h1
  rw [flatten_len _ (fun cs hc => hl cs (List.mem_of_mem_take hc)), List.length_take, Nat.min_eq_left (by omega)] at h2
  exact h2
theorem RowsAt.at {w : World} {v : Value} {sz : Nat} {css : List (List Value)} (h : RowsAt w v sz css) : ∃ a cap, v = .slice a css.length cap ∧ css.length ≤ cap ∧ cap ≤ maxLen ∧ (0 < css.length → ∃ b off, a = some ⟨b, off, none⟩ ∧ ∀ i cs, css[i]? = some cs → w.rangeAt b (off + i * sz) cs) := by
  obtain ⟨a, cap, e, h1, h2, h3, h4⟩ := h
  refine ⟨a, cap, e, h1, h2, fun hp => ?_⟩
  rcases h4 with rfl | ⟨b, off, rfl, hr⟩
  · cases hp
  · refine ⟨b, off, rfl, fun i cs hi => ?_⟩
    obtain ⟨hl, rfl⟩ := List.getElem?_eq_some_iff.1 hi
    exact rows_elem hr h3 hl
theorem map_at {α β : Type} {f : α → β} {l : List α} {i : Nat} (hi : i < l.length) : (l.map f)[i]? = some (f l[i]) := by rw [List.getElem?_map, List.getElem?_eq_getElem hi]; rfl
/-- The block that a slice's elements lie in. -/
def InR (R : Nat → Prop) (v : Value) : Prop := ∀ x n c, v = .slice (some x) n c → 0 < n → R x.block
theorem RowsAt.inR {w : World} {v : Value} {sz : Nat} {css : List (List Value)} (h : RowsAt w v sz css) (hsz : 0 < sz) : InR (fun x => x < w.heap.size) v := fun x n c e hn => by
  obtain ⟨a, cap, e2, _, _, h3, h4⟩ := h
  rw [e2] at e
  injection e with e5 e6 e7
  rcases h4 with rfl | ⟨b, off, rfl, hr⟩
  · rw [← e6] at hn
    cases hn
  · obtain rfl := Option.some.inj e5
    cases css with
    | nil => rw [← e6] at hn; cases hn
    | cons c0 css =>
      have hl := h3 c0 (List.mem_cons_self ..)
      cases c0 with
      | nil => rw [List.length_nil] at hl; omega
      | cons u c0 => exact lt_of_cell (hr 0 u rfl)
theorem flatten_pos {css : List (List Value)} {j : Nat} {u : Value} (h : css.flatten[j]? = some u) : 0 < css.length := by
  cases css with
  | nil => cases h
  | cons c css => exact Nat.succ_pos _
theorem rangeAt_keep {w w' : World} {b off : Nat} {cs : List Value} (h : w.rangeAt b off cs) (hb : w'.heap[b]? = w.heap[b]?) : w'.rangeAt b off cs := fun j v hj => (World.cell?_of_block (a := ⟨b, off + j, none⟩) hb).trans (h j v hj)
theorem RowsAt.keep {w w' : World} {v : Value} {sz : Nat} {css : List (List Value)} (h : RowsAt w v sz css) (hk : ∀ x, v.ownBlock = some x → x < w.heap.size → w'.heap[x]? = w.heap[x]?) : RowsAt w' v sz css := by
  obtain ⟨a, cap, rfl, h1, h2, h3, h4⟩ := h
  refine ⟨a, cap, rfl, h1, h2, h3, ?_⟩
  by_cases hn : css = []
  · exact .inl hn
  · rcases h4 with h | ⟨b, off, rfl, hr⟩
    · exact absurd h hn
    · refine .inr ⟨b, off, rfl, ?_⟩
      intro j u hj
      have hc := hr j u hj
      have hlt := lt_of_cell hc
      exact (World.cell?_of_block (a := ⟨b, off + j, none⟩) (hk b rfl hlt)).trans hc

/-- A hold, by its cells. -/
def HoldV (w : World) (cs : List Value) (h : HoldD) : Prop := ∃ v, cs = .int .i64 h.id :: v :: intC h.t ∧ h.t.length = 2 ∧ (∀ p ∈ h.ps, p.length = 2) ∧ RowsAt w v 2 (h.ps.map intC)
/-- An account, by its cells. -/
structure AcIn (w : World) (cs : List Value) (d : AccD) (v1 v2 v3 : Value) (hcs : List (List Value)) : Prop where
  e : cs = accL d.nm d.key d.pn d.px d.t v1 d.n v2 v3
  lp : d.px.length = 9
  lt : d.t.length = 3
  ln : d.n.length = 2
  ll : ∀ x ∈ d.lots, x.length = 9
  r1 : RowsAt w v1 9 (d.lots.map intC)
  hl : hcs.length = d.holds.length
  r2 : RowsAt w v2 4 hcs
  hh : ∀ i (h1 : i < hcs.length) (h2 : i < d.holds.length), HoldV w hcs[i] d.holds[i]
  we : ∀ e ∈ d.win, e.l.length = 3 ∧ e.xs.length = 8
  r3 : RowsAt w v3 14 (d.win.map entC)
theorem intC_len {n : Nat} {l : List (List Int)} (h : ∀ x ∈ l, x.length = n) : ∀ cs ∈ l.map intC, cs.length = n := fun cs hc => by
  obtain ⟨x, hx, rfl⟩ := List.mem_map.1 hc
  rw [intC_length]
  exact h x hx
theorem entC_length {d : EntD} (h3 : d.l.length = 3) (h8 : d.xs.length = 8) : (entC d).length = 14 := by simp [entC, intC_length, h3, h8]

/- What was parsed is such an account. -/
theorem own_rows {w : World} {B t sz : Nat} {v : Value} {css : List (List Value)} {xs : List Value} {n : Nat} (h : w.ownsRow B t sz v n xs) (hn : n = css.length) (hx : xs = css.flatten) (hl : ∀ cs ∈ css, cs.length = sz) : RowsAt w v sz css := by
  subst hn
  subst hx
  have h' := h
  obtain ⟨k1, ⟨rfl, k2⟩ | ⟨g, cap, cur, rfl, hb, hg, hc1, hc2, hc3, hc4⟩⟩ := h
  · have hnil : css = [] := List.eq_nil_of_length_eq_zero k2
    subst hnil
    exact ⟨none, 0, rfl, Nat.le_refl _, Nat.zero_le _, hl, .inl rfl⟩
  · exact ⟨_, cap, rfl, hc1, hc2, hl, .inr ⟨g, 0, rfl, (own_range h').1⟩⟩
theorem RowP.rows {D : Type} {B : Nat} {w : World} {t sz : Nat} {good : World → List Value → D → Prop} {v : Value} {ps : List (List Value × D)} (h : RowP B w t sz good v ps) : RowsAt w v sz (ps.map Prod.fst) := by
  refine own_rows h.own (by simp) ?_ (fun cs hc => ?_)
  · rw [List.flatMap_def]
  · obtain ⟨p, hp, rfl⟩ := List.mem_map.1 hc
    exact (h.el p hp).1
theorem AccV.acin {B : Nat} {w : World} {cs : List Value} {d : AccD} (h : AccV B w cs d) : ∃ v1 v2 v3 hcs, AcIn w cs d v1 v2 v3 hcs := by
  obtain ⟨v1, v2, v3, p1, p2, p3, e, l1, l2, l3, e1, r1, e2, r2, e3, r3⟩ := h
  have q1 : p1.map Prod.fst = d.lots.map intC := by
    rw [← e1, List.map_map]
    exact List.map_congr_left (fun p hp => (r1.el p hp).2)
  have q3 : p3.map Prod.fst = d.win.map entC := by
    rw [← e3, List.map_map]
    exact List.map_congr_left (fun p hp => (r3.el p hp).2.1)
  refine ⟨v1, v2, v3, p2.map Prod.fst, e, l1, l2, l3, fun x hx => ?_, by rw [← q1]; exact r1.rows, by rw [← e2]; simp, r2.rows, fun i h1 h2 => ?_, fun x hx => ?_, by rw [← q3]; exact r3.rows⟩
  · rw [← e1] at hx
    obtain ⟨p, hp, rfl⟩ := List.mem_map.1 hx
    have a := r1.el p hp
    have b : p.1 = intC p.2 := a.2
    have c := a.1
    rw [b, intC_length] at c
    exact c
  · have hi : i < p2.length := by simpa using h1
    have hg := (r2.el p2[i] (List.getElem_mem hi)).2
    obtain ⟨v, ps, g1, g2, g3, g4⟩ := hg
    have e4 : d.holds[i] = p2[i].2 := by simp [← e2]
    rw [e4, List.getElem_map]
    have q4 : ps.map Prod.fst = p2[i].2.ps.map intC := by
      rw [← g3, List.map_map]
      exact List.map_congr_left (fun p hp => (g4.el p hp).2)
    refine ⟨v, g1, g2, fun x hx => ?_, by rw [← q4]; exact g4.rows⟩
    rw [← g3] at hx
    obtain ⟨p, hp, rfl⟩ := List.mem_map.1 hx
    have a := g4.el p hp
    have b : p.1 = intC p.2 := a.2
    have c := a.1
    rw [b, intC_length] at c
    exact c
  · rw [← e3] at hx
    obtain ⟨p, hp, rfl⟩ := List.mem_map.1 hx
    exact (r3.el p hp).2.2

/- Bytes. -/
def intsB (l : List Int) : List Nat := l.flatMap be8
def textB (t : ByteArray) : List Nat := [t.size] ++ natBytes t
def listB {D : Type} (f : D → List Nat) (l : List D) : List Nat := [l.length] ++ l.flatMap f
def holdBy (h : HoldD) : List Nat := be8 h.id ++ listB intsB h.ps ++ intsB h.t
def entBy (d : EntD) : List Nat := be8 d.id ++ [d.er.toNat] ++ intsB d.l ++ (if d.xs.headD 0 = 0 then [0] else [1] ++ tiB d.nm d.xs)
def accBy (d : AccD) : List Nat := textB d.nm ++ textB d.key ++ tiB d.pn d.px ++ intsB d.t ++ listB intsB d.lots ++ intsB d.n ++ listB holdBy d.holds ++ listB entBy d.win
theorem flatMap_same {α β : Type} {f g : α → List β} : ∀ (l : List α), (∀ x ∈ l, f x = g x) → l.flatMap f = l.flatMap g
  | [], _ => rfl
  | x :: l, h => by rw [List.flatMap_cons, List.flatMap_cons, h x (List.mem_cons_self ..), flatMap_same l (fun y hy => h y (List.mem_cons_of_mem _ hy))]
theorem range_flat {D : Type} (f : D → List Nat) (z : D) : ∀ l : List D, (List.range l.length).flatMap (fun i => f (l.getD i z)) = l.flatMap f := by
  intro l
  rw [← List.reverse_reverse l]
  generalize l.reverse = r
  induction r with
  | nil => simp
  | cons x r ih =>
    rw [List.reverse_cons, List.length_append, List.flatMap_append, ← ih]
    show (List.range (r.reverse.length + 1)).flatMap _ = _
    rw [List.range_succ, List.flatMap_append]
    congr 1
    · refine flatMap_same _ fun i hi => ?_
      rw [List.mem_range] at hi
      rw [List.getD_eq_getElem?_getD, List.getElem?_append_left hi, ← List.getD_eq_getElem?_getD]
    · simp
end Go.Proofs.Ytghgkjollafeiaa
