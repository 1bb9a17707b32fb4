/-
  Lists that are parsed: what their rows are, and what a round makes of them.
-/
import Derived.Test.YtghgkjollafeiaaRec2
import Derived.Deep.AppendLies
import Derived.Deep.RegionLaw
import Derived.Deep.MidRow
namespace Go.Proofs.Ytghgkjollafeiaa
open Go.RowKit

/-- A parser in memory, whoever else there is. -/
def Ps (w : World) (b g : Nat) (s : Sx) : Prop := PrAt w (fun x => x = g) (fun _ => False) b g s
theorem Ps.of {w : World} {O R : Nat → Prop} {b g : Nat} {s : Sx} (h : PrAt w O R b g s) : Ps w b g s :=
  ⟨h.src, h.c1, h.fz, ⟨fun e => h.ob.1 (by rw [show b = g from e]; exact h.og), fun e => e⟩, h.by8, rfl⟩
theorem Ps.st {w : World} {b g : Nat} {s : Sx} (h : Ps w b g s) {O R : Nat → Prop} (hO : ¬ O b) (hR : ¬ R b) (hg : O g) : StAt .pr w O R b g s :=
  (⟨h.src, h.c1, h.fz, ⟨hO, hR⟩, h.by8, hg⟩ : PrAt w O R b g s)
theorem Ps.keep {w w' : World} {b g : Nat} {s : Sx} (h : Ps w b g s) (hK : Keep (fun x => x = b ∨ x = g) w w') : Ps w' b g s := PrAt.keep h hK (fun _ e => .inr e) (.inl rfl)
theorem Ps.lt {w : World} {b g : Nat} {s : Sx} (h : Ps w b g s) : b < w.heap.size := lt_of_cell h.c1
theorem Ps.ne {w : World} {b g : Nat} {s : Sx} (h : Ps w b g s) : b ≠ g := h.ob.1
/-- For one record: all but it and the parser are other people's. -/
theorem Ps.one {w : World} {b g : Nat} {s : Sx} (h : Ps w b g s) {rb : Nat} (hb : rb ≠ b) (hg : rb ≠ g) : StAt .pr w (fun x => x ≠ b ∧ x ≠ rb) (fun x => x = rb) b g s :=
  h.st (fun k => k.1 rfl) (fun e => hb e.symm) ⟨fun e => h.ne e.symm, fun e => hg e.symm⟩
/-- All but the parser's block and these cells is as it was. -/
abbrev PStep (b rb off n : Nat) (w w' : World) : Prop := Step (fun x => x ≠ b) rb off n w w'
theorem PStep.of {b rb off n : Nat} {w w' : World} (h : Step (fun x => (x ≠ b ∧ x ≠ rb) ∨ x = rb) rb off n w w') : PStep b rb off n w w' :=
  h.less (fun x _ hx => by
    by_cases e : x = rb
    · exact .inr e
    · exact .inl ⟨hx, e⟩)
theorem PStep.drew {b rb off n : Nat} {w w' : World} (h : PStep b rb off n w w') : PStep b rb off n w w'.drew := ⟨h.keep.drew, h.cell, h.fz, h.sh⟩

/-- The blocks that cells lead to. -/
def lead (cs : List Value) (x : Nat) : Prop := ∃ v ∈ cs, v.ownBlock = some x

/-- A row of the call's own (from block B on), cell by cell, and what each element is. -/
structure RowP {D : Type} (B : Nat) (w : World) (t sz : Nat) (good : World → List Value → D → Prop) (v : Value) (ps : List (List Value × D)) : Prop where
  own : w.ownsRow B t sz v ps.length (ps.flatMap Prod.fst)
  el : ∀ p ∈ ps, p.1.length = sz ∧ good w p.1 p.2
  ld : ∀ p ∈ ps, ∀ x, lead p.1 x → B ≤ x ∧ x < w.heap.size ∧ v.ownBlock ≠ some x

/-- What 'good' looks at is kept. -/
def Stays {D : Type} (good : World → List Value → D → Prop) : Prop := ∀ w w' cs d, good w cs d → (∀ x, lead cs x → w'.heap[x]? = w.heap[x]?) → good w' cs d

theorem own_same {w w' : World} {base e m n : Nat} {v : Value} {cs : List Value} (h : w.ownsRow base e m v n cs) (hT : ∀ x, v.ownBlock = some x → w'.heap[x]? = w.heap[x]?) : w'.ownsRow base e m v n cs := by
  obtain ⟨hl, h | ⟨g, cap, cur, rfl, hb, hg, rest⟩⟩ := h
  · exact ⟨hl, .inl h⟩
  · exact ⟨hl, .inr ⟨g, cap, cur, rfl, hb, (hT g rfl).trans hg, rest⟩⟩
theorem own_base {w : World} {base base' e m n : Nat} {v : Value} {cs : List Value} (h : w.ownsRow base e m v n cs) (hb : base' ≤ base) : w.ownsRow base' e m v n cs := by
  obtain ⟨hl, h | ⟨g, cap, cur, rfl, hb', hg, rest⟩⟩ := h
  · exact ⟨hl, .inl h⟩
  · exact ⟨hl, .inr ⟨g, cap, cur, rfl, Nat.le_trans hb hb', hg, rest⟩⟩
theorem RowP.keep {D : Type} {B : Nat} {w w' : World} {t sz : Nat} {good : World → List Value → D → Prop} {v : Value} {ps : List (List Value × D)} (h : RowP B w t sz good v ps) (hg : Stays good) (hs : w.heap.size ≤ w'.heap.size) (hk : ∀ x, B ≤ x → x < w.heap.size → w'.heap[x]? = w.heap[x]?) : RowP B w' t sz good v ps :=
  ⟨own_same h.own (fun x e => hk x (h.own.lt x e).1 (h.own.lt x e).2), fun p hp => ⟨(h.el p hp).1, hg _ _ _ _ (h.el p hp).2 (fun x hx => hk x (h.ld p hp x hx).1 (h.ld p hp x hx).2.1)⟩, fun p hp x hx => ⟨(h.ld p hp x hx).1, Nat.lt_of_lt_of_le (h.ld p hp x hx).2.1 hs, (h.ld p hp x hx).2.2⟩⟩
theorem RowP.base {D : Type} {B B' : Nat} {w : World} {t sz : Nat} {good : World → List Value → D → Prop} {v : Value} {ps : List (List Value × D)} (h : RowP B w t sz good v ps) (hB : B' ≤ B) : RowP B' w t sz good v ps :=
  ⟨own_base h.own hB, h.el, fun p hp x hx => ⟨Nat.le_trans hB (h.ld p hp x hx).1, (h.ld p hp x hx).2⟩⟩

/-- The state of a list that is being parsed. -/
structure Lsg {D : Type} (w0 w : World) (b g rb o : Nat) (s : Sx) (t sz : Nat) (good : World → List Value → D → Prop) (ps : List (List Value × D)) : Prop where
  p : Ps w b g s
  st : PStep b rb o 1 w0 w
  row : ∃ v, w.cell? ⟨rb, o, none⟩ = some v ∧ RowP w0.heap.size w t sz good v ps

/-- A zero element was appended: it is to be carried into. -/
structure Rdy {D : Type} (w0 w : World) (b g rb o : Nat) (s : Sx) (t sz : Nat) (good : World → List Value → D → Prop) (ps : List (List Value × D)) (q cap : Nat) (z : List Value) : Prop where
  p : Ps w b g s
  st : PStep b rb o 1 w0 w
  c : w.cell? ⟨rb, o, none⟩ = some (.slice (some ⟨q, 0, none⟩) (ps.length + 1) cap)
  own : w.ownsRow w0.heap.size t sz (.slice (some ⟨q, 0, none⟩) (ps.length + 1) cap) (ps.length + 1) (ps.flatMap Prod.fst ++ z)
  el : ∀ p ∈ ps, p.1.length = sz ∧ good w p.1 p.2
  ld : ∀ p ∈ ps, ∀ x, lead p.1 x → w0.heap.size ≤ x ∧ x < w.heap.size ∧ x ≠ q

/-- What stands fast around a list. -/
structure Spot (w0 : World) (b g rb : Nat) : Prop where
  nb : rb ≠ b
  ng : rb ≠ g
  lr : rb < w0.heap.size
  lb : b < w0.heap.size
  lg : g < w0.heap.size

theorem rdy_of {D : Type} {w0 w w1 w2 : World} {b g rb o : Nat} {s : Sx} {t sz : Nat} {good : World → List Value → D → Prop} {ps : List (List Value × D)} {v : Value} {q cap : Nat} {z : List Value} (hG : Stays good) (hS : Spot w0 b g rb)
    (h : Lsg w0 w b g rb o s t sz good ps) (hv : w.cell? ⟨rb, o, none⟩ = some v) (h1 : Keep (fun x => x < w.heap.size) w w1)
    (hO : w2.ownsRow w0.heap.size t sz (.slice (some ⟨q, 0, none⟩) (ps.length + 1) cap) (ps.length + 1) (ps.flatMap Prod.fst ++ z)) (hg : w1.grownBy w2 v.ownBlock) (hl : v.ownBlock = some q ∨ q = w1.heap.size) (hq : q < w2.heap.size) :
    Rdy w0 (w2.setCell ⟨rb, o, none⟩ (.slice (some ⟨q, 0, none⟩) (ps.length + 1) cap)) b g rb o s t sz good ps q cap z := by
  obtain ⟨hp, hst, v', hv', hrow⟩ := h
  obtain rfl : v = v' := Option.some.inj (hv.symm.trans hv')
  have hK2 : Keep (fun x => x < w.heap.size ∧ v.ownBlock ≠ some x) w w2 := (h1.less (fun _ _ h => h.1)).grown hg (fun k hk => .inl (fun h => h.2 hk))
  have hge : ∀ x, v.ownBlock = some x → w0.heap.size ≤ x := fun x e => (hrow.own.lt x e).1
  have hne : ∀ x, x < w0.heap.size → v.ownBlock ≠ some x := fun x hx e => by have := hge x e; omega
  have h0 := hst.keep.size
  have hs1 := h1.size
  have hq0 : w0.heap.size ≤ q := by
    rcases hl with e | e
    · exact hge q e
    · omega
  have hlr : rb < w.heap.size := Nat.lt_of_lt_of_le hS.lr h0
  have hrb2 : w2.heap[rb]? = w.heap[rb]? := hK2.block rb hlr ⟨hlr, hne rb hS.lr⟩
  have hqr : q ≠ rb := by have := hS.lr; omega
  have hset : ∀ x, x ≠ rb → (w2.setCell ⟨rb, o, none⟩ (.slice (some ⟨q, 0, none⟩) (ps.length + 1) cap)).heap[x]? = w2.heap[x]? := fun x hx => Below.heap_setCell w2 ⟨rb, o, none⟩ _ x (fun e => hx e)
  have hld : ∀ p ∈ ps, ∀ x, lead p.1 x → w0.heap.size ≤ x ∧ x < w.heap.size ∧ x ≠ q := fun p hp x hx => by
    obtain ⟨k1, k2, k3⟩ := hrow.ld p hp x hx
    refine ⟨k1, k2, fun e => ?_⟩
    subst e
    rcases hl with e | e
    · exact k3 e
    · omega
  refine ⟨?_, ?_, ?_, ?_, fun p hp => ⟨(hrow.el p hp).1, hG _ _ _ _ (hrow.el p hp).2 (fun x hx => ?_)⟩, fun p hp x hx => ?_⟩
  · refine Ps.keep hp ⟨hK2.os, hK2.tape, hK2.output, by rw [World.size_setCell]; exact hK2.size, fun k hk he => ?_⟩
    have hkr : k ≠ rb := by
      rcases he with e | e
      · rw [e]; exact hS.nb.symm
      · rw [e]; exact hS.ng.symm
    have hk0 : k < w0.heap.size := by
      rcases he with e | e
      · rw [e]; exact hS.lb
      · rw [e]; exact hS.lg
    exact (hset k hkr).trans (hK2.block k hk ⟨hk, hne k hk0⟩)
  · refine ⟨⟨hK2.os.trans hst.keep.os, hK2.tape.trans hst.keep.tape, hK2.output.trans hst.keep.output, by rw [World.size_setCell]; exact Nat.le_trans h0 hK2.size, fun k hk he => ?_⟩, fun o' ho => ?_, fun o' => ?_, fun cs t fr k0 => ?_⟩
    · have hkw : k < w.heap.size := by omega
      exact (hset k he.2).trans ((hK2.block k hkw ⟨hkw, hne k hk⟩).trans (hst.keep.block k hk he))
    · rw [World.cell?_setCell_other _ _ _ _ (off_ne (by omega))]
      exact (World.cell?_of_block (a := ⟨rb, o', none⟩) hrb2).trans (hst.cell o' ho)
    · rw [World.frozen?_setCell]
      exact (World.frozen?_of_block (a := ⟨rb, o', none⟩) hrb2).trans (hst.fz o')
    · obtain ⟨c1, k1, e1⟩ := hst.sh cs t fr k0
      have k2 := hrb2.trans k1
      refine ⟨c1.setIfInBounds o (.slice (some ⟨q, 0, none⟩) (ps.length + 1) cap), ?_, by simp [e1]⟩
      rw [setCell_eq_setRow w2 rb o c1 t fr _ k2]
      exact setRow_heap w2 rb c1 _ t _ k2
  · exact World.cell?_setCell_same _ _ _ ((World.cell?_of_block (a := ⟨rb, o, none⟩) hrb2).trans hv)
  · exact own_same hO (fun x e => by
      have e : q = x := Option.some.inj e
      subst e
      exact hset _ hqr)
  · obtain ⟨k1, k2, k3⟩ := hrow.ld p hp x hx
    exact (hset x (by have := hS.lr; omega)).trans (hK2.block x k2 ⟨k2, k3⟩)
  · obtain ⟨k1, k2, k3⟩ := hld p hp x hx
    exact ⟨k1, by rw [World.size_setCell]; exact Nat.lt_of_lt_of_le k2 hK2.size, k3⟩

/-- Of a row: its cells. -/
theorem own_range {w : World} {base e m n : Nat} {q cap : Nat} {xs : List Value} (h : w.ownsRow base e m (.slice (some ⟨q, 0, none⟩) n cap) n xs) : w.rangeAt q 0 xs ∧ (∀ o, w.frozen? ⟨q, o, none⟩ = false) ∧ base ≤ q ∧ q < w.heap.size := by
  obtain ⟨hl, h | ⟨g, c, cur, e1, hb, hg, hc1, hc2, hc3, hc4⟩⟩ := h
  · obtain ⟨h, _⟩ := h
    cases h
  · obtain rfl : q = g := by injection e1 with e1; exact congrArg Addr.block (Option.some.inj e1)
    refine ⟨fun j v hj => ?_, fun o => ?_, hb, (Array.getElem?_eq_some_iff.1 hg).1⟩
    · unfold World.cell?
      rw [hg]
      show cur[0 + j]? = _
      rw [Nat.zero_add, ← Array.getElem?_toList, ← hj, ← hc4, List.getElem?_take]
      split
      · rfl
      · rw [← hc4] at hj
        rw [List.getElem?_eq_none (by rw [List.length_take]; omega)] at hj
        cases hj
    · unfold World.frozen?
      rw [hg]
      simp
theorem flat_len {D : Type} {sz : Nat} : ∀ (ps : List (List Value × D)), (∀ p ∈ ps, p.1.length = sz) → (ps.flatMap Prod.fst).length = ps.length * sz
  | [], _ => by simp
  | p :: ps, h => by
    rw [List.flatMap_cons, List.length_append, flat_len ps (fun p hp => h p (List.mem_cons_of_mem _ hp)), h p (List.mem_cons_self ..), List.length_cons, Nat.succ_mul]
    omega
theorem rangeAt_right {w : World} {q o : Nat} {xs ys : List Value} (h : w.rangeAt q o (xs ++ ys)) : w.rangeAt q (o + xs.length) ys := fun j v hj => by
  rw [Nat.add_assoc]
  exact h (xs.length + j) v (by rw [List.getElem?_append_right (by omega), Nat.add_sub_cancel_left]; exact hj)
theorem rangeAt_left {w : World} {q o : Nat} {xs ys : List Value} (h : w.rangeAt q o (xs ++ ys)) : w.rangeAt q o xs := fun j v hj => by
  have hlt : j < xs.length := (List.getElem?_eq_some_iff.1 hj).1
  exact h j v (by rw [List.getElem?_append_left hlt]; exact hj)

/-- The element's carrying, as it may be asked. -/
theorem Rdy.at {D : Type} {w0 w : World} {b g rb o : Nat} {s : Sx} {t sz : Nat} {good : World → List Value → D → Prop} {ps : List (List Value × D)} {q cap : Nat} {z : List Value} (hS : Spot w0 b g rb) (h : Rdy w0 w b g rb o s t sz good ps q cap z) :
    q ≠ b ∧ q ≠ g ∧ (∀ o, w.frozen? ⟨q, o, none⟩ = false) ∧ w.rangeAt q (ps.length * sz) z ∧ w0.heap.size ≤ q ∧ q < w.heap.size := by
  obtain ⟨h1, h2, h3, h4⟩ := own_range h.own
  have k1 := hS.lb
  have k2 := hS.lg
  refine ⟨by omega, by omega, h2, ?_, h3, h4⟩
  have := rangeAt_right h1
  rw [flat_len ps (fun p hp => (h.el p hp).1), Nat.zero_add] at this
  exact this

theorem own_turned {w w' : World} {base e sz n : Nat} {q cap b : Nat} {xs z cs : List Value} (h : w.ownsRow base e sz (.slice (some ⟨q, 0, none⟩) (n + 1) cap) (n + 1) (xs ++ z)) (hx : xs.length = n * sz) (hz : cs.length = sz) (hs : PStep b q (n * sz) sz w w') (hr : w'.rangeAt q (n * sz) cs) :
    w'.ownsRow base e sz (.slice (some ⟨q, 0, none⟩) (n + 1) cap) (n + 1) (xs ++ cs) := by
  have hrg := (own_range h).1
  obtain ⟨hl, h | ⟨g, c, cur, e1, hb, hg, hc1, hc2, hc3, hc4⟩⟩ := h
  · obtain ⟨h, _⟩ := h
    cases h
  · obtain ⟨rfl, rfl⟩ : q = g ∧ cap = c := by
      injection e1 with e1 _ e2
      exact ⟨congrArg Addr.block (Option.some.inj e1), e2⟩
    obtain ⟨cur', hg', hsz'⟩ := hs.sh cur e (0, 0) hg
    have hnz : (n + 1) * sz = n * sz + sz := Nat.succ_mul n sz
    have hcap : (n + 1) * sz ≤ cap * sz := Nat.mul_le_mul_right sz hc1
    refine ⟨by rw [List.length_append, hx, hz, hnz], .inr ⟨q, cap, cur', rfl, hb, hg', hc1, hc2, by rw [hsz']; exact hc3, ?_⟩⟩
    have hcell : ∀ j, w'.cell? ⟨q, j, none⟩ = cur'[j]? := fun j => by unfold World.cell?; rw [hg']; rfl
    apply List.ext_getElem?
    intro j
    rw [List.getElem?_take]
    by_cases hj : j < (n + 1) * sz
    · rw [if_pos hj, Array.getElem?_toList, ← hcell]
      by_cases hj2 : j < n * sz
      · rw [hs.cell j (.inl hj2), List.getElem?_append_left (by omega)]
        have hjx : j < xs.length := by omega
        have := hrg j xs[j] (by rw [List.getElem?_append_left hjx, List.getElem?_eq_getElem hjx])
        rw [Nat.zero_add] at this
        rw [this, List.getElem?_eq_getElem hjx]
      · obtain ⟨i, rfl⟩ : ∃ i, j = n * sz + i := ⟨j - n * sz, by omega⟩
        rw [List.getElem?_append_right (by omega), hx, Nat.add_sub_cancel_left]
        have hic : i < cs.length := by omega
        rw [List.getElem?_eq_getElem hic]
        exact hr i _ (List.getElem?_eq_getElem hic)
    · rw [if_neg hj, List.getElem?_eq_none (by rw [List.length_append]; omega)]

/-- An element was carried: the list has one more. -/
theorem Rdy.done {D : Type} {w0 w w' : World} {b g rb o : Nat} {s s' : Sx} {t sz : Nat} {good : World → List Value → D → Prop} {ps : List (List Value × D)} {q cap : Nat} {z cs : List Value} {d : D} (hG : Stays good) (hS : Spot w0 b g rb) (h : Rdy w0 w b g rb o s t sz good ps q cap z)
    (hp : Ps w' b g s') (hst : PStep b q (ps.length * sz) sz w w') (hc : cs.length = sz) (hr : w'.rangeAt q (ps.length * sz) cs) (hg : good w' cs d) (hl : ∀ x, lead cs x → w.heap.size ≤ x ∧ x < w'.heap.size) :
    Lsg w0 w' b g rb o s' t sz good (ps ++ [(cs, d)]) := by
  obtain ⟨hqb, hqg, _, _, hq0, hqw⟩ := h.at hS
  have h0 := h.st.keep.size
  have hsz := hst.keep.size
  have hrq : rb ≠ q := by have := hS.lr; omega
  have hrw : rb < w.heap.size := by have := hS.lr; omega
  have hrb : w'.heap[rb]? = w.heap[rb]? := hst.keep.block rb hrw ⟨hS.nb, hrq⟩
  refine ⟨hp, ⟨⟨hst.keep.os.trans h.st.keep.os, hst.keep.tape.trans h.st.keep.tape, hst.keep.output.trans h.st.keep.output, Nat.le_trans h0 hsz, fun k hk he => ?_⟩, fun o' ho => ?_, fun o' => ?_, fun cs t fr k0 => ?_⟩, _, (World.cell?_of_block (a := ⟨rb, o, none⟩) hrb).trans h.c, ?_, fun p hp => ?_, fun p hp x hx => ?_⟩
  · exact (hst.keep.block k (by omega) ⟨he.1, by omega⟩).trans (h.st.keep.block k hk he)
  · exact (World.cell?_of_block (a := ⟨rb, o', none⟩) hrb).trans (h.st.cell o' ho)
  · exact (World.frozen?_of_block (a := ⟨rb, o', none⟩) hrb).trans (h.st.fz o')
  · obtain ⟨c1, k1, e1⟩ := h.st.sh cs t fr k0
    exact ⟨c1, hrb.trans k1, e1⟩
  · have := own_turned h.own (flat_len ps (fun p hp => (h.el p hp).1)) hc hst hr
    rw [List.length_append, List.flatMap_append]
    simpa using this
  · rcases List.mem_append.1 hp with hp | hp
    · refine ⟨(h.el p hp).1, hG _ _ _ _ (h.el p hp).2 (fun x hx => ?_)⟩
      obtain ⟨k1, k2, k3⟩ := h.ld p hp x hx
      exact hst.keep.block x k2 ⟨by have := hS.lb; omega, k3⟩
    · obtain rfl := List.mem_singleton.1 hp
      exact ⟨hc, hg⟩
  · rcases List.mem_append.1 hp with hp | hp
    · obtain ⟨k1, k2, k3⟩ := h.ld p hp x hx
      exact ⟨k1, by omega, fun e => k3 (Option.some.inj e).symm⟩
    · obtain rfl := List.mem_singleton.1 hp
      obtain ⟨k1, k2⟩ := hl x hx
      exact ⟨by omega, k2, fun e => by have e : q = x := Option.some.inj e; omega⟩

theorem rng_two (w : World) (A : Obj) (cs : List Value) (t : TypeId) : ((w.alloc A).alloc (.cells cs.toArray t)).drew.rangeAt (w.heap.size + 1) 0 cs := fun j v hj => by
  have hs : (w.alloc A).heap.size = w.heap.size + 1 := by simp
  show ((w.alloc A).alloc (.cells cs.toArray t)).cell? _ = _
  rw [← hs, Nat.zero_add, World.cell?_alloc_at _ _ _ _ rfl, List.getElem?_toArray]
  exact hj
/-- How an element is carried into its place. -/
def Carries {D : Type} (f sz b g : Nat) (F : Sx → Sx × D) (good : World → List Value → D → Prop) (z : List Value) : Prop :=
  ∀ w s q off, Ps w b g s → q ≠ b → q ≠ g → g < w.heap.size → (∀ o, w.frozen? ⟨q, o, none⟩ = false) → w.rangeAt q off z → Calls Try.prog f #[.agg #[ifc .pr b], .pointer (some ⟨q, off, none⟩)] w fun r w' => r = .returned (.tuple #[]) ∧ Ps w' b g (F s).1 ∧ PStep b q off sz w w' ∧ ∃ cs, cs.length = sz ∧ w'.rangeAt q off cs ∧ good w' cs (F s).2 ∧ ∀ x, lead cs x → w.heap.size ≤ x ∧ x < w'.heap.size

theorem Rdy.carried {D : Type} {w0 w : World} {b g rb o : Nat} {s : Sx} {t sz f : Nat} {good : World → List Value → D → Prop} {ps : List (List Value × D)} {q cap : Nat} {z : List Value} {F : Sx → Sx × D} (hG : Stays good) (hS : Spot w0 b g rb) (h : Rdy w0 w b g rb o s t sz good ps q cap z) (hC : Carries f sz b g F good z) (w1 : World) (h1 : w1 = w ∨ w1 = w.drew) :
    Calls Try.prog f #[.agg #[ifc .pr b], .pointer (some ⟨q, ps.length * sz, none⟩)] w1 fun r w' => r = .returned (.tuple #[]) ∧ PStep b q (ps.length * sz) sz w w' ∧ ∃ cs, Lsg w0 w' b g rb o (F s).1 t sz good (ps ++ [(cs, (F s).2)]) := by
  obtain ⟨k1, k2, k3, k4, _⟩ := h.at hS
  have hp1 : Ps w1 b g s := by
    rcases h1 with rfl | rfl
    · exact h.p
    · exact h.p.keep (Keep.refl _ _).drew
  have hf1 : ∀ o, w1.frozen? ⟨q, o, none⟩ = false := by
    rcases h1 with rfl | rfl
    · exact k3
    · exact k3
  have hr1 : w1.rangeAt q (ps.length * sz) z := by
    rcases h1 with rfl | rfl
    · exact k4
    · exact k4
  have hgl : g < w1.heap.size := by
    have := Nat.lt_of_lt_of_le hS.lg h.st.keep.size
    rcases h1 with rfl | rfl
    · exact this
    · exact this
  refine (hC w1 s q (ps.length * sz) hp1 k1 k2 hgl hf1 hr1).mono ?_
  rintro r w' ⟨rfl, h2, h3, cs, h4, h5, h6, h7⟩
  have h3' : PStep b q (ps.length * sz) sz w w' := by
    rcases h1 with rfl | rfl
    · exact h3
    · exact ⟨⟨h3.keep.os, h3.keep.tape, h3.keep.output, h3.keep.size, h3.keep.block⟩, h3.cell, h3.fz, h3.sh⟩
  have h7' : ∀ x, lead cs x → w.heap.size ≤ x ∧ x < w'.heap.size := by
    rcases h1 with rfl | rfl
    · exact h7
    · exact h7
  exact ⟨rfl, h3', cs, h.done hG hS h2 h3' h4 h5 h6 h7'⟩

/-- Append of one element to the row, in a region that draws. -/
theorem step_pl {D : Type} {ops : Array Oper} {op : Oper} {a : Act} {K : Act → World → Prop} {Q : Exit → Act → World → Prop} {E : Prop} {w0 w w1 : World} {b g rb o : Nat} {s : Sx} {t sz st by8 : Nat} {good : World → List Value → D → Prop} {ps : List (List Value × D)} {v : Value} {z : List Value} (hgd : op.guard = none) (sl x : Operand)
    (ho : op.op = .call { callee := .builtin .append, args := #[sl, x], argTypes := #[st, st] }) (ht : Try.prog.underlying st = some (.slice t)) (zv : Value) (hi : (Try.prog.info? t).map (fun i => (i.zero, i.size, i.bytes)) = some (some zv, sz, by8)) (hzs : zv.cells.size = sz) (hsz : 0 < sz) (hby : by8 ≤ 1000)
    (hG : Stays good) (hS : Spot w0 b g rb) (h : Lsg w0 w b g rb o s t sz good ps) (hv : w.cell? ⟨rb, o, none⟩ = some v) (hf : w.frozen? ⟨rb, o, none⟩ = false) (hs : a.eval sl = v)
    (sb c : Nat) (hx : a.eval x = .slice (some ⟨sb, 0, none⟩) 1 c) (hzl : z.length = sz) (hz : w1.rangeAt sb 0 z) (hz1 : ∀ u ∈ z, u.oneCell' = true) (h1 : Keep (fun x => x < w.heap.size) w w1) (hlen : ps.length < 1000000)
    (hK : ∀ q cap w2, (∃ u, w2.cell? ⟨rb, o, none⟩ = some u) → w2.frozen? ⟨rb, o, none⟩ = false → Rdy w0 (w2.setCell ⟨rb, o, none⟩ (.slice (some ⟨q, 0, none⟩) (ps.length + 1) cap)) b g rb o s t sz good ps q cap z → K (a.put op.dst (.slice (some ⟨q, 0, none⟩) (ps.length + 1) cap)) w2) :
    if Region.wanted op (yielded ops a.tmps) = true then Oper.wp Try.prog op a w1 K Q else E := by
  have hw : Region.wanted op (yielded ops a.tmps) = true := by simp [Region.wanted, hgd]
  rw [if_pos hw]
  obtain ⟨i0, hi, hz0, hzz1, hz2⟩ := info_parts hi
  have h' := h
  obtain ⟨hp, hst, v', hv', hrow⟩ := h
  obtain rfl : v = v' := Option.some.inj (hv.symm.trans hv')
  have h0 := hst.keep.size
  have hown1 : w1.ownsRow w0.heap.size t sz v ps.length (ps.flatMap Prod.fst) := own_same hrow.own (fun x e => h1.block x (hrow.own.lt x e).2 (hrow.own.lt x e).2)
  refine wp_append_lies w1 sl x st ho w0.heap.size t i0 zv sz by8 ht hi hz0 hzz1 hz2 hzs hsz v ps.length _ hs hown1 ⟨sb, 0, none⟩ 1 c z hx (by rw [hzl, Nat.one_mul]) (fun j u hj => by rw [Addr.add_mid]; exact hz j u hj) hz1 (by omega) (by unfold maxLen; omega) ?_ (Nat.le_trans h0 h1.size) _ rfl ?_
  · have := Nat.mul_le_mul (show ps.length + 1 ≤ 1000000 by omega) hby
    omega
  intro q cap w2 k1 k2 k3 k4
  have hne : v.ownBlock ≠ some rb := fun e => by have := (hrow.own.lt rb e).1; have := hS.lr; omega
  have hrw : rb < w.heap.size := Nat.lt_of_lt_of_le hS.lr h0
  have hb : w2.heap[rb]? = w.heap[rb]? := (k2.block rb (Nat.lt_of_lt_of_le hrw h1.size) (fun e => hne e.symm)).trans (h1.block rb hrw hrw)
  exact hK q cap w2 ⟨v, (World.cell?_of_block (a := ⟨rb, o, none⟩) hb).trans hv⟩ ((World.frozen?_of_block (a := ⟨rb, o, none⟩) hb).trans hf) (rdy_of hG hS h' hv h1 k1 k2 k3 k4)

theorem mC_pr (b : Nat) (w : World) : Sem.run Try.prog (method 273 130 (.pointer (some ⟨b, 0, none⟩)) "toll/rec.count") w = .ok (92, .pointer (some ⟨b, 0, none⟩)) w := by kernel_rfl

/-- So many elements, one behind the other. -/
def manyS {D : Type} (F : Sx → Sx × D) : Nat → Sx → Sx × List D
  | 0, s => (s, [])
  | n + 1, s => let r := manyS F n s; ((F r.1).1, r.2 ++ [(F r.1).2])
theorem manyS_length {D : Type} (F : Sx → Sx × D) : ∀ n s, (manyS F n s).2.length = n
  | 0, _ => rfl
  | n + 1, s => by
    show ((manyS F n s).2 ++ [_]).length = _
    rw [List.length_append, manyS_length F n s]
    rfl
/-- A list: how many, and each. -/
def listS {D : Type} (F : Sx → Sx × D) (s : Sx) : Sx × List D := manyS F (countS .pr s 0).2 (countS .pr s 0).1
end Go.Proofs.Ytghgkjollafeiaa

/-
  What a parser's methods do, told by what stays; lots and parts, carried into a row.
-/
namespace Go.Proofs.Ytghgkjollafeiaa
open Go.RowKit

theorem room_pr {s : Sx} {n : Nat} : Room .pr s n := fun e => nomatch e
theorem Ps.drew {w : World} {b g : Nat} {s : Sx} (h : Ps w b g s) : Ps w.drew b g s := h.keep (Keep.refl _ _).drew
theorem Ps.num {w : World} {b g : Nat} {s : Sx} (rb o : Nat) (x : Int) (h : Ps w b g s) (hb : rb ≠ b) (hg : rb ≠ g) (hc : w.cell? ⟨rb, o, none⟩ = some (.int .i64 x)) (hf : ∀ o, w.frozen? ⟨rb, o, none⟩ = false) :
    Calls Try.prog 95 #[.pointer (some ⟨b, 0, none⟩), .pointer (some ⟨rb, o, none⟩)] w fun r w' => r = .returned (.tuple #[]) ∧ Ps w' b g (numS .pr s x).1 ∧ w'.cell? ⟨rb, o, none⟩ = some (.int .i64 (numS .pr s x).2) ∧ PStep b rb o 1 w w' :=
  (cnum .pr rb o x (h.one hb hg) rfl (fun k => k.2 rfl) hc (fun _ => hf) room_pr).mono fun _ _ h => ⟨h.1, Ps.of h.2.1, h.2.2.1, PStep.of h.2.2.2⟩
theorem Ps.text {w : World} {b g : Nat} {s : Sx} (rb o : Nat) (x : ByteArray) (h : Ps w b g s) (hb : rb ≠ b) (hg : rb ≠ g) (hc : w.cell? ⟨rb, o, none⟩ = some (.string x)) (hf : ∀ o, w.frozen? ⟨rb, o, none⟩ = false) :
    Calls Try.prog 96 #[.pointer (some ⟨b, 0, none⟩), .pointer (some ⟨rb, o, none⟩)] w fun r w' => r = .returned (.tuple #[]) ∧ Ps w' b g (textS .pr s x).1 ∧ w'.cell? ⟨rb, o, none⟩ = some (.string (textS .pr s x).2) ∧ PStep b rb o 1 w w' :=
  (ctext .pr rb o x (fun e => nomatch e) (h.one hb hg) rfl (fun k => k.2 rfl) hc (fun _ => hf) room_pr).mono fun _ _ h => ⟨h.1, Ps.of h.2.1, h.2.2.1, PStep.of h.2.2.2⟩
theorem Ps.errno {w : World} {b g : Nat} {s : Sx} (rb o : Nat) (x : Int) (h : Ps w b g s) (hb : rb ≠ b) (hg : rb ≠ g) (hc : w.cell? ⟨rb, o, none⟩ = some (.int .i64 x)) (hf : ∀ o, w.frozen? ⟨rb, o, none⟩ = false) :
    Calls Try.prog 93 #[.pointer (some ⟨b, 0, none⟩), .pointer (some ⟨rb, o, none⟩)] w fun r w' => r = .returned (.tuple #[]) ∧ Ps w' b g (errnoS .pr s x).1 ∧ w'.cell? ⟨rb, o, none⟩ = some (.int .i64 (errnoS .pr s x).2) ∧ PStep b rb o 1 w w' :=
  (cerrno .pr rb o x (fun e => nomatch e) (h.one hb hg) rfl (fun k => k.2 rfl) hc (fun _ => hf) room_pr).mono fun _ _ h => ⟨h.1, Ps.of h.2.1, h.2.2.1, PStep.of h.2.2.2⟩
theorem Ps.flag {w : World} {b g : Nat} {s : Sx} (x : Bool) (h : Ps w b g s) :
    Calls Try.prog 94 #[.pointer (some ⟨b, 0, none⟩), .bool x] w fun r w' => r = .returned (.bool (flagS .pr s x).2) ∧ Ps w' b g (flagS .pr s x).1 ∧ Keep (fun x => x ≠ b) w w' :=
  (pflag _ h).mono fun _ _ h => ⟨h.1, h.2.1, h.2.2⟩
theorem Ps.nums {w : World} {b g : Nat} {s : Sx} (rb o n : Nat) (cs : Array Value) (hcs : cs.toList = (List.range n).map fun i => Value.pointer (some ⟨rb, o + i, none⟩)) (xs : List Int) (hn : xs.length = n) (hn0 : 0 < n) (hn2 : n ≤ 100) (h : Ps w b g s) (hb : rb ≠ b) (hg : rb ≠ g) (hI : IntsAt w rb o xs) (hf : ∀ o, w.frozen? ⟨rb, o, none⟩ = false) :
    Calls Try.prog 52 #[.agg #[ifc .pr b], .slice (some ⟨w.heap.size, 0, none⟩) n n] (w.alloc (.cells cs 117)).drew fun r w' => r = .returned (.tuple #[]) ∧ Ps w' b g (numsS .pr s xs).1 ∧ IntsAt w' rb o (numsS .pr s xs).2 ∧ PStep b rb o n w w' :=
  (fnums .pr rb o n cs hcs xs hn hn0 hn2 (h.one hb hg) rfl (fun k => k.2 rfl) hI (fun _ => hf) room_pr).mono fun _ _ h => ⟨h.1, Ps.of h.2.1, h.2.2.1, PStep.of h.2.2.2⟩
theorem Ps.plan {w : World} {b g : Nat} {s : Sx} (rb o : Nat) (nm : ByteArray) (xs : List Int) (hn : xs.length = 9) (h : Ps w b g s) (hb : rb ≠ b) (hg : rb ≠ g) (hc : w.cell? ⟨rb, o, none⟩ = some (.string nm)) (hI : IntsAt w rb (o + 1) xs) (hf : ∀ o, w.frozen? ⟨rb, o, none⟩ = false) :
    Calls Try.prog 42 #[.agg #[ifc .pr b], .pointer (some ⟨rb, o, none⟩)] w fun r w' => r = .returned (.tuple #[]) ∧ Ps w' b g (tiS .pr s nm xs).1 ∧ w'.cell? ⟨rb, o, none⟩ = some (.string (tiS .pr s nm xs).2.1) ∧ IntsAt w' rb (o + 1) (tiS .pr s nm xs).2.2 ∧ PStep b rb o 10 w w' :=
  (cplan .pr rb o nm xs hn (fun e => nomatch e) (h.one hb hg) rfl (fun k => k.2 rfl) hc hI (fun _ => hf) room_pr).mono fun _ _ h => ⟨h.1, Ps.of h.2.1, h.2.2.1, h.2.2.2.1, PStep.of h.2.2.2.2⟩

/-- Cells that are ints. -/
def intC (l : List Int) : List Value := l.map (Value.int .i64)
theorem ints_range {w : World} {q o : Nat} {l : List Int} (h : w.rangeAt q o (intC l)) : IntsAt w q o l := fun i hi => h i _ (by unfold intC; rw [List.getElem?_map, List.getElem?_eq_getElem hi]; rfl)
theorem range_ints {w : World} {q o : Nat} {l : List Int} (h : IntsAt w q o l) : w.rangeAt q o (intC l) := fun j v hj => by
  unfold intC at hj
  rw [List.getElem?_map] at hj
  by_cases hlt : j < l.length
  · rw [List.getElem?_eq_getElem hlt] at hj
    rw [h j hlt]
    exact hj
  · rw [List.getElem?_eq_none (by omega)] at hj
    cases hj
theorem lead_ints {l : List Int} {x : Nat} (h : lead (intC l) x) : False := by
  obtain ⟨v, hv, e⟩ := h
  obtain ⟨i, _, rfl⟩ := List.mem_map.1 hv
  cases e
/-- An element of ints. -/
def IntsG (_w : World) (cs : List Value) (d : List Int) : Prop := cs = intC d
theorem ints_stays : Stays IntsG := fun _ _ _ _ h _ => h
def nz (n : Nat) : List Int := List.replicate n 0
def F9 (s : Sx) : Sx × List Int := numsS .pr s (nz 9)
def F2 (s : Sx) : Sx × List Int := numsS .pr s (nz 2)
theorem numsP_len (s : Sx) (n : Nat) : (numsS .pr s (nz n)).2.length = n := by rw [numsS_length]; simp [nz]

theorem carries_lot (b g : Nat) : Carries 54 9 b g F9 IntsG (intC (nz 9)) := fun w s q off hp hb hg _ hf hr => by
  refine (clot .pr q off (nz 9) (by simp [nz]) (hp.one hb hg) rfl (fun k => k.2 rfl) (ints_range hr) (fun _ => hf) room_pr).mono ?_
  rintro r w' ⟨rfl, h1, h2, h3⟩
  exact ⟨rfl, Ps.of h1, PStep.of h3, intC (F9 s).2, by unfold intC; rw [List.length_map]; exact numsP_len s 9, range_ints h2, rfl, fun x hx => (lead_ints hx).elim⟩
theorem carries_part (b g : Nat) : Carries 68 2 b g F2 IntsG (intC (nz 2)) := fun w s q off hp hb hg _ hf hr => by
  refine (cpart .pr q off (nz 2) (by simp [nz]) (hp.one hb hg) rfl (fun k => k.2 rfl) (ints_range hr) (fun _ => hf) room_pr).mono ?_
  rintro r w' ⟨rfl, h1, h2, h3⟩
  exact ⟨rfl, Ps.of h1, PStep.of h3, intC (F2 s).2, by unfold intC; rw [List.length_map]; exact numsP_len s 2, range_ints h2, rfl, fun x hx => (lead_ints hx).elim⟩
end Go.Proofs.Ytghgkjollafeiaa
