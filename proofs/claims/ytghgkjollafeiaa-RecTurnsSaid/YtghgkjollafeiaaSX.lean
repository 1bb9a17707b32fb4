/-
  Two accounts held against one another: what each part comes to.
-/
import Derived.Test.YtghgkjollafeiaaSG
namespace Go.Proofs.Ytghgkjollafeiaa
open Go.RowKit

theorem RowsAt.rowsN {w : World} {v : Value} {sz : Nat} {css : List (List Value)} (h : RowsAt w v sz css) : ∃ a cap, v = .slice a css.length cap ∧ RowsN w a css.length sz (fun i => css.getD i []) := by
  have hat := h.at
  obtain ⟨a, cap, e, _, _, h3, _⟩ := h
  obtain ⟨a', cap', e', _, _, h4⟩ := hat
  rw [e] at e'
  injection e' with e1 e2 e3
  subst e1
  refine ⟨a, cap, e, fun hp => ?_⟩
  obtain ⟨b, o, rfl, hX⟩ := h4 hp
  refine ⟨b, o, rfl, fun k hk => ?_⟩
  have hg : css.getD k [] = css[k] := by rw [List.getD_eq_getElem?_getD, List.getElem?_eq_getElem hk]; rfl
  show w.rangeAt b (o + k * sz) (css.getD k []) ∧ (css.getD k []).length = sz
  rw [hg]
  exact ⟨hX k _ (List.getElem?_eq_getElem hk), h3 _ (List.getElem_mem hk)⟩
theorem RowsN.turn {w w' : World} {a : Option Addr} {n sz : Nat} {A : Nat → List Value} (h : RowsN w a n sz A) (hT : Turn [] w w') : RowsN w' a n sz A := fun hp => by
  obtain ⟨b, o, rfl, hX⟩ := h hp
  refine ⟨b, o, rfl, fun k hk => ⟨fun j v hj => ?_, (hX k hk).2⟩⟩
  have hc := (hX k hk).1 j v hj
  exact (World.cell?_of_block (a := ⟨b, o + k * sz + j, none⟩) (hT.block b (lt_of_cell hc) (by simp))).trans hc

theorem two_ints' {l : List Int} (h : l.length = 2) : l = [l.getD 0 0, l.getD 1 0] := by
  match l, h with
  | [x, y], _ => rfl
/-- Are two rows of ints the same, place by place? -/
def intsQ (xs ys : List Int) : Bool := decide (xs = ys)
theorem eqlS_lot {xs ys : List Int} (hx : xs.length = 9) (hy : ys.length = 9) : EqlS 82 (intC xs).toArray (intC ys).toArray (intsQ xs ys) := by
  obtain ⟨x1, x2, x3, x4, x5, x6, x7, x8, x9, rfl⟩ := list9 xs hx
  obtain ⟨y1, y2, y3, y4, y5, y6, y7, y8, y9, rfl⟩ := list9 ys hy
  have h := eql_lot x1 y1 x2 y2 x3 y3 x4 y4 x5 y5 x6 y6 x7 y7 x8 y8 x9 y9
  have e : intsQ [x1, x2, x3, x4, x5, x6, x7, x8, x9] [y1, y2, y3, y4, y5, y6, y7, y8, y9] = decide (x1 = y1 ∧ x2 = y2 ∧ x3 = y3 ∧ x4 = y4 ∧ x5 = y5 ∧ x6 = y6 ∧ x7 = y7 ∧ x8 = y8 ∧ x9 = y9) := by
    unfold intsQ
    simp
  rw [e]
  exact h
theorem eqlS_part {xs ys : List Int} (hx : xs.length = 2) (hy : ys.length = 2) : EqlS 84 (intC xs).toArray (intC ys).toArray (intsQ xs ys) := by
  match xs, ys, hx, hy with
  | [x1, x2], [y1, y2], _, _ =>
    have h := eql_part x1 y1 x2 y2
    have e : intsQ [x1, x2] [y1, y2] = decide (x1 = y1 ∧ x2 = y2) := by
      unfold intsQ
      simp
    rw [e]
    exact h
/-- Are two entries the same? -/
def entQ (a b : EntD) : Bool := decide (a.id = b.id ∧ a.er = b.er ∧ a.l = b.l ∧ a.nm.toList = b.nm.toList ∧ a.xs = b.xs)
theorem entQ_self (a : EntD) : entQ a a = true := by unfold entQ; simp
theorem list8' {α : Type} (l : List α) (h : l.length = 8) : ∃ y1 y2 y3 y4 y5 y6 y7 y8, l = [y1, y2, y3, y4, y5, y6, y7, y8] := by
  match l, h with
  | [y1, y2, y3, y4, y5, y6, y7, y8], _ => exact ⟨y1, y2, y3, y4, y5, y6, y7, y8, rfl⟩
theorem eqlS_ent {a b : EntD} (ha : a.l.length = 3 ∧ a.xs.length = 8) (hb : b.l.length = 3 ∧ b.xs.length = 8) : EqlS 69 (entC a).toArray (entC b).toArray (entQ a b) := by
  obtain ⟨ai, ae, al, an, ax⟩ := a
  obtain ⟨bi, be, bl, bn, bx⟩ := b
  obtain ⟨x1, x2, x3, x4, x5, x6, x7, x8, rfl⟩ := list8' ax ha.2
  obtain ⟨y1, y2, y3, y4, y5, y6, y7, y8, rfl⟩ := list8' bx hb.2
  match al, bl, ha.1, hb.1 with
  | [l1, l2, l3], [m1, m2, m3], _, _ =>
    have h := eql_ent ai bi ae be l1 m1 l2 m2 l3 m3 an bn x1 y1 x2 y2 x3 y3 x4 y4 x5 y5 x6 y6 x7 y7 x8 y8
    have e : entQ ⟨ai, ae, [l1, l2, l3], an, [x1, x2, x3, x4, x5, x6, x7, x8]⟩ ⟨bi, be, [m1, m2, m3], bn, [y1, y2, y3, y4, y5, y6, y7, y8]⟩ = decide (ai = bi ∧ ae = be ∧ l1 = m1 ∧ l2 = m2 ∧ l3 = m3 ∧ an.toList = bn.toList ∧ x1 = y1 ∧ x2 = y2 ∧ x3 = y3 ∧ x4 = y4 ∧ x5 = y5 ∧ x6 = y6 ∧ x7 = y7 ∧ x8 = y8) := by
      unfold entQ
      simp [and_assoc]
    rw [e]
    exact h

theorem map_getD {α : Type} {f : α → List Value} {l : List α} {z : α} {i : Nat} (hi : i < l.length) : (l.map f).getD i [] = f (l.getD i z) := by
  rw [List.getD_eq_getElem?_getD, List.getElem?_map, List.getD_eq_getElem?_getD, List.getElem?_eq_getElem hi]
  rfl
theorem getD_mem {α : Type} {l : List α} {z : α} {i : Nat} (hi : i < l.length) : l.getD i z ∈ l := by
  rw [List.getD_eq_getElem?_getD, List.getElem?_eq_getElem hi]
  exact List.getElem_mem hi
/-- Rows of lots. -/
def lotsQ (xs ys : List (List Int)) : Bool := rowsB xs.length ys.length (fun i => intsQ (xs.getD i []) (ys.getD i []))
theorem rowsB_self (n : Nat) (q : Nat → Bool) (h : ∀ i, i < n → q i = true) : rowsB n n q = true := by
  unfold rowsB
  simp only [beq_self_eq_true, Bool.true_and, List.all_eq_true]
  exact fun i hi => h i (List.mem_range.1 hi)
theorem lotsQ_self (xs : List (List Int)) : lotsQ xs xs = true := rowsB_self _ _ (fun i _ => by unfold intsQ; simp)
theorem HoldV.shape {w : World} {cs : List Value} {h : HoldD} (hv : HoldV w cs h) : ∃ s c, cs = [.int .i64 h.id, .slice s h.ps.length c, .int .i64 (h.t.getD 0 0), .int .i64 (h.t.getD 1 0)] ∧ RowsN w s h.ps.length 2 (fun i => (h.ps.map intC).getD i []) ∧ ∀ p ∈ h.ps, p.length = 2 := by
  obtain ⟨v, rfl, ht, hp, hr⟩ := hv
  obtain ⟨s, c, rfl, hN⟩ := hr.rowsN
  rw [List.length_map] at hN ⊢
  refine ⟨s, c, ?_, hN, hp⟩
  have e : intC h.t = [.int .i64 (h.t.getD 0 0), .int .i64 (h.t.getD 1 0)] := by
    conv => lhs; rw [two_ints' ht]
    rfl
  rw [e]
/-- Two holds' parts, by the program and by the reference. -/
theorem parts_both (f : Nat) (hf : f = 60 ∨ f = 61) (w : World) (s1 s2 : Option Addr) (c1 c2 : Nat) (xs ys : List (List Int)) (hl : xs.length ≤ 100000) (h1 : RowsN w s1 xs.length 2 (fun i => (xs.map intC).getD i [])) (h2 : RowsN w s2 ys.length 2 (fun i => (ys.map intC).getD i [])) (k1 : ∀ p ∈ xs, p.length = 2) (k2 : ∀ p ∈ ys, p.length = 2) :
    Calls Try.prog f #[.slice s1 xs.length c1, .slice s2 ys.length c2] w fun e w' => e = .returned (.bool (lotsQ xs ys)) ∧ ∃ m, w' = w.drewN m := by
  have hE : xs.length = ys.length → ∀ i, i < xs.length → EqlS 84 ((xs.map intC).getD i []).toArray ((ys.map intC).getD i []).toArray (intsQ (xs.getD i []) (ys.getD i [])) := fun e i hi => by
    rw [map_getD (z := []) hi, map_getD (z := []) (show i < ys.length by omega)]
    exact eqlS_part (k1 _ (getD_mem hi)) (k2 _ (getD_mem (by omega)))
  rcases hf with rfl | rfl
  · exact same_60 s1 s2 c1 c2 _ _ _ _ _ w hl h1 h2 hE
  · exact same_61 s1 s2 c1 c2 _ _ _ _ _ w hl h1 h2 hE
theorem lots_both (f : Nat) (hf : f = 34 ∨ f = 37) (w : World) (s1 s2 : Option Addr) (c1 c2 : Nat) (xs ys : List (List Int)) (hl : xs.length ≤ 100000) (h1 : RowsN w s1 xs.length 9 (fun i => (xs.map intC).getD i [])) (h2 : RowsN w s2 ys.length 9 (fun i => (ys.map intC).getD i [])) (k1 : ∀ p ∈ xs, p.length = 9) (k2 : ∀ p ∈ ys, p.length = 9) :
    Calls Try.prog f #[.slice s1 xs.length c1, .slice s2 ys.length c2] w fun e w' => e = .returned (.bool (lotsQ xs ys)) ∧ ∃ m, w' = w.drewN m := by
  have hE : xs.length = ys.length → ∀ i, i < xs.length → EqlS 82 ((xs.map intC).getD i []).toArray ((ys.map intC).getD i []).toArray (intsQ (xs.getD i []) (ys.getD i [])) := fun e i hi => by
    rw [map_getD (z := []) hi, map_getD (z := []) (show i < ys.length by omega)]
    exact eqlS_lot (k1 _ (getD_mem hi)) (k2 _ (getD_mem (by omega)))
  rcases hf with rfl | rfl
  · exact same_34 s1 s2 c1 c2 _ _ _ _ _ w hl h1 h2 hE
  · exact same_37 s1 s2 c1 c2 _ _ _ _ _ w hl h1 h2 hE
/-- Rows of entries. -/
def winQ (xs ys : List EntD) : Bool := rowsB xs.length ys.length (fun i => entQ (xs.getD i E0) (ys.getD i E0))
theorem winQ_self (xs : List EntD) : winQ xs xs = true := rowsB_self _ _ (fun _i _ => entQ_self _)
theorem win_both (f : Nat) (hf : f = 36 ∨ f = 40) (w : World) (s1 s2 : Option Addr) (c1 c2 : Nat) (xs ys : List EntD) (hl : xs.length ≤ 100000) (h1 : RowsN w s1 xs.length 14 (fun i => (xs.map entC).getD i [])) (h2 : RowsN w s2 ys.length 14 (fun i => (ys.map entC).getD i [])) (k1 : ∀ p ∈ xs, p.l.length = 3 ∧ p.xs.length = 8) (k2 : ∀ p ∈ ys, p.l.length = 3 ∧ p.xs.length = 8) :
    Calls Try.prog f #[.slice s1 xs.length c1, .slice s2 ys.length c2] w fun e w' => e = .returned (.bool (winQ xs ys)) ∧ ∃ m, w' = w.drewN m := by
  have hE : xs.length = ys.length → ∀ i, i < xs.length → EqlS 69 ((xs.map entC).getD i []).toArray ((ys.map entC).getD i []).toArray (entQ (xs.getD i E0) (ys.getD i E0)) := fun e i hi => by
    rw [map_getD (z := E0) hi, map_getD (z := E0) (show i < ys.length by omega)]
    exact eqlS_ent (k1 _ (getD_mem hi)) (k2 _ (getD_mem (by omega)))
  rcases hf with rfl | rfl
  · exact same_36 s1 s2 c1 c2 _ _ _ _ _ w hl h1 h2 hE
  · exact same_40 s1 s2 c1 c2 _ _ _ _ _ w hl h1 h2 hE

/-- Two holds. -/
def holdQ (a b : HoldD) : Bool := holdB2 a.id (a.t.getD 0 0) (a.t.getD 1 0) b.id (b.t.getD 0 0) (b.t.getD 1 0) (lotsQ a.ps b.ps)
theorem holdQ_self (a : HoldD) : holdQ a a = true := by unfold holdQ holdB2; rw [lotsQ_self]; simp
def H0 : HoldD := ⟨0, [], []⟩
def holdsQ (xs ys : List HoldD) : Bool := rowsB xs.length ys.length (fun i => holdQ (xs.getD i H0) (ys.getD i H0))
theorem holdsQ_self (xs : List HoldD) : holdsQ xs xs = true := rowsB_self _ _ (fun _i _ => holdQ_self _)
/-- Holds, by their cells. -/
def HoldsV (w : World) (css : List (List Value)) (xs : List HoldD) : Prop := css.length = xs.length ∧ ∀ i, i < xs.length → HoldV w (css.getD i []) (xs.getD i H0)
theorem holds_rec (w : World) (s1 s2 : Option Addr) (c1 c2 : Nat) (xs ys : List HoldD) (A B : List (List Value)) (hl : xs.length ≤ 100000) (hp : ∀ x ∈ xs, x.ps.length ≤ 100000) (h1 : RowsN w s1 xs.length 4 (fun i => A.getD i [])) (h2 : RowsN w s2 ys.length 4 (fun i => B.getD i [])) (v1 : HoldsV w A xs) (v2 : HoldsV w B ys) :
    Calls Try.prog 38 #[.slice s1 xs.length c1, .slice s2 ys.length c2, .func (.func 39) #[] #[]] w fun e w' => e = .returned (.bool (holdsQ xs ys)) ∧ Turn [] w w' := by
  refine equalFunc_any s1 s2 c1 c2 _ _ _ _ (fun i => holdQ (xs.getD i H0) (ys.getD i H0)) w hl h1 h2 (fun i hi => ?_) (fun i hi => ?_) (fun e i hi w' hT => ?_)
  · obtain ⟨s, c, e, _⟩ := (v1.2 i hi).shape
    exact ⟨_, _, _, _, _, _, e⟩
  · obtain ⟨s, c, e, _⟩ := (v2.2 i hi).shape
    exact ⟨_, _, _, _, _, _, e⟩
  · obtain ⟨sa, ca, ea, na, ka⟩ := (v1.2 i hi).shape
    obtain ⟨sb, cb, eb, nb, kb⟩ := (v2.2 i (by omega)).shape
    have hpa := hp _ (getD_mem (z := H0) hi)
    show Calls Try.prog 39 #[.agg (A.getD i []).toArray, .agg (B.getD i []).toArray] w' _
    rw [ea, eb]
    exact sameHold_any w' _ _ _ _ _ _ sa sb _ ca _ cb _ (fun w'' hT' => parts_both 61 (.inr rfl) w'' sa sb ca cb _ _ hpa (na.turn (hT.trans hT')) (nb.turn (hT.trans hT')) ka kb)
theorem holds_ref (w : World) (s1 s2 : Option Addr) (c1 c2 : Nat) (xs ys : List HoldD) (A B : List (List Value)) (hl : xs.length ≤ 100000) (hp : ∀ x ∈ xs, x.ps.length ≤ 100000) (h1 : RowsN w s1 xs.length 4 (fun i => A.getD i [])) (h2 : RowsN w s2 ys.length 4 (fun i => B.getD i [])) (v1 : HoldsV w A xs) (v2 : HoldsV w B ys) :
    Calls Try.prog 35 #[.slice s1 xs.length c1, .slice s2 ys.length c2] w fun e w' => e = .returned (.bool (holdsQ xs ys)) ∧ ∃ m, w' = w.drewN m := by
  refine sameHolds_any s1 s2 c1 c2 _ _ _ _ (fun i => holdQ (xs.getD i H0) (ys.getD i H0)) w hl h1 h2 (fun e i hi => ?_)
  obtain ⟨sa, ca, ea, na, ka⟩ := (v1.2 i hi).shape
  obtain ⟨sb, cb, eb, nb, kb⟩ := (v2.2 i (by omega)).shape
  have hpa := hp _ (getD_mem (z := H0) hi)
  exact ⟨_, sa, _, ca, _, _, _, sb, _, cb, _, _, lotsQ (xs.getD i H0).ps (ys.getD i H0).ps, ea, eb, rfl, fun m => parts_both 60 (.inl rfl) (w.drewN m) sa sb ca cb _ _ hpa (na.turn ((Turn.refl [] w).drewM m)) (nb.turn ((Turn.refl [] w).drewM m)) ka kb⟩
end Go.Proofs.Ytghgkjollafeiaa
