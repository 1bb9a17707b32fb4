/-
  Lots by themselves: what the document says of them, with no program.
-/
import Derived.ProofKit
namespace Go.Proofs.Ytegbinlpojpffaa
namespace Lo

/-- A lot. -/
structure Lt where
  id : Int
  kd : Int
  fr : Int
  un : Int
  gr : Int
  co : Int
  he : Int
  ex : Int
  ro : Int

def Lt.nil : Lt := ⟨0, 0, 0, 0, 0, 0, 0, 0, 0⟩

def rest (x : Lt) : Int := x.gr - x.co - x.he - x.ex - x.ro
def vld (x : Lt) (now : Int) : Bool := decide (x.fr ≤ now ∧ now < x.un)
def ovr (x : Lt) (now : Int) : Bool := decide (x.un ≤ now)
/-- Can units be taken of it? -/
def can (x : Lt) (now : Int) : Bool := vld x now && decide (0 < rest x)
def fit (n : Int) : Bool := decide (0 ≤ n ∧ n ≤ 1099511627776)
def adds (x : Lt) : Bool := fit x.gr && fit x.co && fit x.he && fit x.ex && fit x.ro && decide (0 ≤ rest x)
/-- What is wrong with a lot behind one of an id. -/
def one (id : Int) (x : Lt) : Int :=
  if x.id ≤ id ∨ 1099511627776 < x.id then 1 else if x.kd < 0 ∨ 2 < x.kd then 3 else if x.fr < 0 ∨ x.un ≤ x.fr ∨ 1099511627776 < x.un then 1 else if adds x = true then 0 else 11
def chkFrom : Int → List Lt → Int
  | _, [] => 0
  | id, x :: l => if one id x = 0 then chkFrom x.id l else one id x
def chk (l : List Lt) : Int := if 14 < l.length then 4 else chkFrom 0 l

/-- What is left. -/
def lf (now : Int) : List Lt → Int
  | [] => 0
  | x :: l => (if vld x now = true then rest x else 0) + lf now l

/-- Numbers within bounds. -/
structure Bd (K : Int) (x : Lt) : Prop where
  id : -K ≤ x.id ∧ x.id ≤ K
  fr : -K ≤ x.fr ∧ x.fr ≤ K
  un : -K ≤ x.un ∧ x.un ≤ K
  gr : -K ≤ x.gr ∧ x.gr ≤ K
  co : -K ≤ x.co ∧ x.co ≤ K
  he : -K ≤ x.he ∧ x.he ≤ K
  ex : -K ≤ x.ex ∧ x.ex ≤ K
  ro : -K ≤ x.ro ∧ x.ro ≤ K

def Bds (K : Int) (l : List Lt) : Prop := ∀ x ∈ l, Bd K x

theorem Bd.mono {K M : Int} {x : Lt} (h : Bd K x) (hk : K ≤ M) : Bd M x := by
  obtain ⟨h1, h2, h3, h4, h5, h6, h7, h8⟩ := h
  exact ⟨by omega, by omega, by omega, by omega, by omega, by omega, by omega, by omega⟩
theorem Bds.mono {K M : Int} {l : List Lt} (h : Bds K l) (hk : K ≤ M) : Bds M l := fun x hx => (h x hx).mono hk
theorem Bd.rest {K : Int} {x : Lt} (h : Bd K x) : -(5 * K) ≤ rest x ∧ rest x ≤ 5 * K := by
  obtain ⟨h1, h2, h3, h4, h5, h6, h7, h8⟩ := h
  unfold Lo.rest
  omega
theorem Bds.get {K : Int} {l : List Lt} (h : Bds K l) {i : Nat} (hi : i < l.length) : Bd K l[i] := h _ (List.getElem_mem hi)

/-- Its units within bounds. -/
structure Bq (x : Lt) : Prop where
  gr : -1000000000000000 ≤ x.gr ∧ x.gr ≤ 1000000000000000
  co : -1000000000000000 ≤ x.co ∧ x.co ≤ 1000000000000000
  he : -1000000000000000 ≤ x.he ∧ x.he ≤ 1000000000000000
  ex : -1000000000000000 ≤ x.ex ∧ x.ex ≤ 1000000000000000
  ro : -1000000000000000 ≤ x.ro ∧ x.ro ≤ 1000000000000000
theorem Bd.q {K : Int} {x : Lt} (h : Bd K x) (hK : K ≤ 1000000000000000) : Bq x := by
  obtain ⟨h1, h2, h3, h4, h5, h6, h7, h8⟩ := h
  exact ⟨by omega, by omega, by omega, by omega, by omega⟩
theorem fit_iff (n : Int) : fit n = true ↔ 0 ≤ n ∧ n ≤ 1099511627776 := by unfold fit; simp
/-- Its numbers within bounds that taking keeps. -/
structure Bh (x : Lt) : Prop where
  id : -1000000000000 ≤ x.id ∧ x.id ≤ 1000000000000
  fr : -1000000000000 ≤ x.fr ∧ x.fr ≤ 1000000000000
  un : -1000000000000 ≤ x.un ∧ x.un ≤ 1000000000000
  gr : -1000000000000 ≤ x.gr ∧ x.gr ≤ 1000000000000
  co : -1000000000000 ≤ x.co ∧ x.co ≤ 1000000000000
  he : -5000000000000 ≤ x.he ∧ x.he ≤ 5000000000000
  ex : -1000000000000 ≤ x.ex ∧ x.ex ≤ 1000000000000
  ro : -1000000000000 ≤ x.ro ∧ x.ro ≤ 1000000000000
def Bhs (l : List Lt) : Prop := ∀ x ∈ l, Bh x
theorem Bh.q {x : Lt} (h : Bh x) : Bq x := by
  obtain ⟨h1, h2, h3, h4, h5, h6, h7, h8⟩ := h
  exact ⟨by omega, by omega, by omega, by omega, by omega⟩
theorem Bd.h {K : Int} {x : Lt} (h : Bd K x) (hK : K ≤ 1000000000000) : Bh x := by
  obtain ⟨h1, h2, h3, h4, h5, h6, h7, h8⟩ := h
  exact ⟨by omega, by omega, by omega, by omega, by omega, by omega, by omega, by omega⟩
theorem Bh.rest {x : Lt} (h : Bh x) : -9000000000000 ≤ rest x ∧ rest x ≤ 9000000000000 := by
  obtain ⟨h1, h2, h3, h4, h5, h6, h7, h8⟩ := h
  unfold Lo.rest
  omega
/-- The five numbers. -/
def five (x : Lt) : Nat → Int
  | 0 => x.gr
  | 1 => x.co
  | 2 => x.he
  | 3 => x.ex
  | _ => x.ro
theorem adds_five (x : Lt) : adds x = true ↔ (∀ m, m < 5 → fit (five x m) = true) ∧ 0 ≤ rest x := by
  unfold adds
  simp only [Bool.and_eq_true, decide_eq_true_eq]
  constructor
  · rintro ⟨⟨⟨⟨⟨h1, h2⟩, h3⟩, h4⟩, h5⟩, h6⟩
    refine ⟨fun m hm => ?_, h6⟩
    obtain rfl | rfl | rfl | rfl | rfl : m = 0 ∨ m = 1 ∨ m = 2 ∨ m = 3 ∨ m = 4 := by omega
    · exact h1
    · exact h2
    · exact h3
    · exact h4
    · exact h5
  · rintro ⟨h, h6⟩
    exact ⟨⟨⟨⟨⟨h 0 (by omega), h 1 (by omega)⟩, h 2 (by omega)⟩, h 3 (by omega)⟩, h 4 (by omega)⟩, h6⟩
theorem five_q {x : Lt} (h : ∀ m, m < 5 → fit (five x m) = true) : Bq x := by
  have h0 := (fit_iff _).1 (h 0 (by omega))
  have h1 := (fit_iff _).1 (h 1 (by omega))
  have h2 := (fit_iff _).1 (h 2 (by omega))
  have h3 := (fit_iff _).1 (h 3 (by omega))
  have h4 := (fit_iff _).1 (h 4 (by omega))
  simp only [five] at h0 h1 h2 h3 h4
  exact ⟨by omega, by omega, by omega, by omega, by omega⟩

def hold (x : Lt) (t : Int) : Lt := { x with he := x.he + t }
theorem Bh.hold {x : Lt} (h : Bh x) {n : Int} (hn : 0 ≤ n) : Bh (Lo.hold x (min (Lo.rest x) n)) := by
  obtain ⟨h1, h2, h3, h4, h5, h6, h7, h8⟩ := h
  refine ⟨h1, h2, h3, h4, h5, ?_, h7, h8⟩
  show -5000000000000 ≤ x.he + min (Lo.rest x) n ∧ x.he + min (Lo.rest x) n ≤ 5000000000000
  unfold Lo.rest
  omega
/-- Taken of the lots at these places, in order; the parts so far. -/
def tk : List Lt → List Nat → Int → List (Int × Int) → List Lt × List (Int × Int) × Int
  | l, [], n, p => (l, p, n)
  | l, i :: is, n, p =>
    if n ≤ 0 then (l, p, n)
    else tk (l.set i (hold (l.getD i Lt.nil) (min (rest (l.getD i Lt.nil)) n))) is (n - min (rest (l.getD i Lt.nil)) n) (p ++ [((l.getD i Lt.nil).id, min (rest (l.getD i Lt.nil)) n)])

/-- A lot ahead of another: it ends first, or with it and has the lesser id. -/
def lt2 (x y : Lt) : Prop := x.un < y.un ∨ (x.un = y.un ∧ x.id < y.id)
/-- The places of the lots that units can be taken of, in turn. -/
structure Turned (l : List Lt) (now : Int) (is : List Nat) : Prop where
  ord : is.Pairwise fun i j => lt2 (l.getD i Lt.nil) (l.getD j Lt.nil)
  mem : ∀ i, i ∈ is ↔ i < l.length ∧ can (l.getD i Lt.nil) now = true

/-- Ids rise. -/
def Rises (l : List Lt) : Prop := ∀ i j, i < j → j < l.length → (l.getD i Lt.nil).id < (l.getD j Lt.nil).id

def endp (x : Lt) (k u now : Int) : Lt := { x with he := x.he - k, co := x.co + u, ex := if x.un ≤ now then x.ex + (k - u) else x.ex }
/-- The place of an id. -/
def ix (id : Int) : List Lt → Nat
  | [] => 0
  | x :: l => if x.id = id then 0 else ix id l + 1
def us (now : Int) : List Lt → List (Int × Int) → Int → List Lt × Int
  | l, [], n => (l, n)
  | l, (id, k) :: p, n =>
    if ix id l < l.length then us now (l.set (ix id l) (endp (l.getD (ix id l) Lt.nil) k (min k n) now)) p (n - min k n)
    else us now l p n

theorem ix_le (id : Int) (l : List Lt) : ix id l ≤ l.length := by
  induction l with
  | nil => exact Nat.le_refl _
  | cons x l ih => unfold ix; split <;> simp <;> omega
theorem ix_at (id : Int) (l : List Lt) (h : ix id l < l.length) : (l.getD (ix id l) Lt.nil).id = id := by
  induction l with
  | nil => simp [ix] at h
  | cons x l ih =>
    unfold ix at h ⊢
    split
    · simp; assumption
    · rename_i hx
      rw [if_neg hx] at h
      simp at h
      simpa using ih h
theorem ix_ne (id : Int) (l : List Lt) : ∀ i, i < ix id l → (l.getD i Lt.nil).id ≠ id := by
  induction l with
  | nil => intro i h; simp [ix] at h
  | cons x l ih =>
    intro i h
    unfold ix at h
    split at h
    · omega
    · rename_i hx
      cases i with
      | zero => simpa using hx
      | succ i => simpa using ih i (by omega)
/-- The first place with that id is that place. -/
theorem ix_eq {id : Int} {l : List Lt} {i : Nat} (h : i ≤ l.length) (h1 : ∀ j, j < i → (l.getD j Lt.nil).id ≠ id) (h2 : i < l.length → (l.getD i Lt.nil).id = id) : ix id l = i := by
  rcases Nat.lt_trichotomy (ix id l) i with h3 | h3 | h3
  · exact absurd (ix_at id l (by omega)) (h1 _ h3)
  · exact h3
  · exact absurd (h2 (by have := ix_le id l; omega)) (ix_ne id l _ h3)

/-- The place of an id, or -1. -/
def atOf (id : Int) (l : List Lt) : Int := if ix id l < l.length then (ix id l : Int) else -1
theorem atOf_hit {id : Int} {l : List Lt} {k : Nat} (hk : k < l.length) (h1 : ∀ j, j < k → (l.getD j Lt.nil).id ≠ id) (h2 : (l.getD k Lt.nil).id = id) : atOf id l = k := by
  have e := ix_eq (by omega) h1 (fun _ => h2)
  unfold atOf
  rw [e, if_pos hk]
theorem atOf_miss {id : Int} {l : List Lt} (h1 : ∀ j, j < l.length → (l.getD j Lt.nil).id ≠ id) : atOf id l = -1 := by
  have e := ix_eq (Nat.le_refl _) h1 (fun h => absurd h (by omega))
  unfold atOf
  rw [e, if_neg (by omega)]
theorem getD_get {l : List Lt} {i : Nat} (h : i < l.length) : l.getD i Lt.nil = l[i] := by
  rw [List.getD_eq_getElem?_getD, List.getElem?_eq_getElem h]
  rfl
theorem Bds.at {K : Int} {l : List Lt} (h : Bds K l) {i : Nat} (hi : i < l.length) : Bd K (l.getD i Lt.nil) := by
  rw [getD_get hi]
  exact h.get hi
theorem getD_set {l : List Lt} {i j : Nat} {x : Lt} (h : i < l.length) : (l.set i x).getD j Lt.nil = if j = i then x else l.getD j Lt.nil := by
  simp only [List.getD_eq_getElem?_getD]
  by_cases e : j = i
  · subst e; rw [if_pos rfl, List.getElem?_set_self h]; rfl
  · rw [if_neg e, List.getElem?_set_ne (by omega)]
theorem Bds.set {K : Int} {l : List Lt} (h : Bds K l) (i : Nat) {x : Lt} (hx : Bd K x) : Bds K (l.set i x) := by
  intro y hy
  rcases List.mem_or_eq_of_mem_set hy with h1 | h1
  · exact h y h1
  · rw [h1]; exact hx
theorem Bhs.at {l : List Lt} (h : Bhs l) {i : Nat} (hi : i < l.length) : Bh (l.getD i Lt.nil) := by
  rw [getD_get hi]
  exact h _ (List.getElem_mem hi)
theorem Bhs.set {l : List Lt} (h : Bhs l) (i : Nat) {x : Lt} (hx : Bh x) : Bhs (l.set i x) := by
  intro y hy
  rcases List.mem_or_eq_of_mem_set hy with h1 | h1
  · exact h y h1
  · rw [h1]; exact hx
theorem Bds.h {K : Int} {l : List Lt} (h : Bds K l) (hK : K ≤ 1000000000000) : Bhs l := fun x hx => (h x hx).h hK
theorem tk_stop (l : List Lt) (is : List Nat) (n : Int) (p : List (Int × Int)) (h : n ≤ 0) : tk l is n p = (l, p, n) := by
  cases is with
  | nil => rfl
  | cons i is => rw [tk, if_pos h]
theorem tk_cons (l : List Lt) (i : Nat) (is : List Nat) (n : Int) (p : List (Int × Int)) (h : 0 < n) : tk l (i :: is) n p = tk (l.set i (hold (l.getD i Lt.nil) (min (rest (l.getD i Lt.nil)) n))) is (n - min (rest (l.getD i Lt.nil)) n) (p ++ [((l.getD i Lt.nil).id, min (rest (l.getD i Lt.nil)) n)]) := by
  rw [tk, if_neg (by omega)]
theorem us_step {now : Int} {l : List Lt} {p : List (Int × Int)} {k : Nat} {n : Int} (hk : k < p.length) : us now l (p.drop k) n = if ix (p.getD k (0, 0)).1 l < l.length then us now (l.set (ix (p.getD k (0, 0)).1 l) (endp (l.getD (ix (p.getD k (0, 0)).1 l) Lt.nil) (p.getD k (0, 0)).2 (min (p.getD k (0, 0)).2 n) now)) (p.drop (k + 1)) (n - min (p.getD k (0, 0)).2 n) else us now l (p.drop (k + 1)) n := by
  have e : p.drop k = p.getD k (0, 0) :: p.drop (k + 1) := by
    rw [List.drop_eq_getElem_cons hk, List.getD_eq_getElem?_getD, List.getElem?_eq_getElem hk]
    rfl
  rw [e]
  generalize p.getD k (0, 0) = q
  obtain ⟨id, m⟩ := q
  rfl
theorem Bd.endp {K : Int} {x : Lt} (h : Bd K x) {k u now : Int} (hk : 0 ≤ k) (hk2 : k ≤ 1000000) (hu : 0 ≤ u) (hu2 : u ≤ k) : Bd (K + 1000000) (endp x k u now) := by
  obtain ⟨h1, h2, h3, h4, h5, h6, h7, h8⟩ := h
  refine ⟨?_, ?_, ?_, ?_, ?_, ?_, ?_, ?_⟩ <;> simp only [Lo.endp]
  all_goals (try split)
  all_goals omega
theorem Bds.step {K : Int} {l : List Lt} (h : Bds K l) (i : Nat) {x : Lt} (hx : Bd (K + 1000000) x) : Bds (K + 1000000) (l.set i x) := (h.mono (by omega)).set i hx
theorem drop_getD {is : List Nat} {k : Nat} (h : k < is.length) : is.drop k = is.getD k 0 :: is.drop (k + 1) := by
  rw [List.drop_eq_getElem_cons h, List.getD_eq_getElem?_getD, List.getElem?_eq_getElem h]
  rfl
theorem chkFrom_drop {l : List Lt} {id : Int} {k : Nat} (hk : k < l.length) : chkFrom id (l.drop k) = if one id (l.getD k Lt.nil) = 0 then chkFrom (l.getD k Lt.nil).id (l.drop (k + 1)) else one id (l.getD k Lt.nil) := by
  rw [List.drop_eq_getElem_cons hk, getD_get hk]
  rfl
theorem lf_append (now : Int) (a b : List Lt) : lf now (a ++ b) = lf now a + lf now b := by
  induction a with
  | nil => simp [lf]
  | cons x l ih => simp only [List.cons_append, lf, ih]; omega
theorem lf_take {l : List Lt} {now : Int} {k : Nat} (hk : k < l.length) : lf now (l.take (k + 1)) = lf now (l.take k) + (if vld (l.getD k Lt.nil) now = true then rest (l.getD k Lt.nil) else 0) := by
  rw [List.take_succ_eq_append_getElem hk, lf_append, getD_get hk]
  simp [lf]
theorem lf_bd {K : Int} (hK : 0 ≤ K) (now : Int) (l : List Lt) (h : Bds K l) : -(5 * K * l.length) ≤ lf now l ∧ lf now l ≤ 5 * K * l.length := by
  induction l with
  | nil => simp [lf]
  | cons x l ih =>
    have h1 := ih fun y hy => h y (List.mem_cons_of_mem _ hy)
    have h2 := (h x (List.mem_cons_self ..)).rest
    simp only [lf, List.length_cons]
    have h3 : 5 * K * ((l.length + 1 : Nat) : Int) = 5 * K * l.length + 5 * K := by push_cast; rw [Int.mul_add, Int.mul_one]
    rw [h3]
    split <;> omega

end Lo
end Go.Proofs.Ytegbinlpojpffaa
