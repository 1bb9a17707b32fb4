/-
  An account's bytes, parsed: the account again.
-/
import Derived.Test.YtghgkjollafeiaaRW
import Derived.Test.YtghgkjollafeiaaPp
namespace Go.Proofs.Ytghgkjollafeiaa
open Go.RowKit

theorem take_front (a r : List Nat) (n : Nat) (hn : a.length = n) : takeS ⟨a ++ r, 0⟩ n = (⟨r, 0⟩, a) := by
  subst hn
  unfold takeS
  rw [if_neg (by simp), if_neg (by simp)]
  simp
theorem text_back (t : ByteArray) (z : ByteArray) (r : List Nat) : textS .pr ⟨textB t ++ r, 0⟩ z = (⟨r, 0⟩, t) := by
  exact textS_back t r z
theorem ints_back (xs : List Int) (r : List Nat) (h : ∀ x ∈ xs, I64 x) (zs : List Int) (hz : zs.length = xs.length) : numsS .pr ⟨intsB xs ++ r, 0⟩ zs = (⟨r, 0⟩, xs) := numsS_back xs r h zs hz
theorem many_back {D E : Type} (F : Sx → Sx × E) (f : D → List Nat) (h : D → E) (xs : List D) (hF : ∀ x ∈ xs, ∀ r, F ⟨f x ++ r, 0⟩ = (⟨r, 0⟩, h x)) : ∀ n, n ≤ xs.length → ∀ r, manyS F n ⟨(xs.take n).flatMap f ++ r, 0⟩ = (⟨r, 0⟩, (xs.take n).map h)
  | 0, _, r => by simp [manyS]
  | n + 1, hn, r => by
    have ih := many_back F f h xs hF n (by omega)
    have e : xs.take (n + 1) = xs.take n ++ [xs[n]] := List.take_succ_eq_append_getElem (by omega)
    rw [e, List.flatMap_append, List.append_assoc]
    simp only [List.flatMap_cons, List.flatMap_nil, List.append_nil]
    show ((F (manyS F n _).1).1, (manyS F n _).2 ++ [(F (manyS F n _).1).2]) = _
    rw [ih (f xs[n] ++ r), hF _ (List.getElem_mem (by omega)) r, List.map_append]
    rfl
theorem list_back {D E : Type} (F : Sx → Sx × E) (f : D → List Nat) (h : D → E) (xs : List D) (hF : ∀ x ∈ xs, ∀ r, F ⟨f x ++ r, 0⟩ = (⟨r, 0⟩, h x)) (r : List Nat) : listS F ⟨listB f xs ++ r, 0⟩ = (⟨r, 0⟩, xs.map h) := by
  have hc : countS .pr ⟨listB f xs ++ r, 0⟩ 0 = (⟨xs.flatMap f ++ r, 0⟩, xs.length) := by
    unfold listB
    rw [List.append_assoc]
    show ((takeS ⟨[xs.length] ++ (xs.flatMap f ++ r), 0⟩ 1).1, (takeS ⟨[xs.length] ++ (xs.flatMap f ++ r), 0⟩ 1).2.headD 0) = _
    rw [take_front [xs.length] _ 1 rfl]
    rfl
  unfold listS
  rw [hc]
  have := many_back F f h xs hF xs.length (Nat.le_refl _) r
  rw [List.take_of_length_le (Nat.le_refl _)] at this
  exact this

/-- A statement without a term is none. -/
def plainE (d : EntD) : EntD := if d.xs.headD 0 = 0 then ⟨d.id, d.er, d.l, noT, nz 8⟩ else d
def plainA (d : AccD) : AccD := ⟨d.nm, d.key, d.pn, d.px, d.t, d.lots, d.n, d.holds, d.win.map plainE⟩
structure EntI (d : EntD) : Prop where
  id : I64 d.id
  er : 0 ≤ d.er ∧ d.er ≤ 255
  l : ∀ x ∈ d.l, I64 x
  ll : d.l.length = 3
  xs : ∀ x ∈ d.xs, I64 x
  lx : d.xs.length = 8
structure HoldI (d : HoldD) : Prop where
  id : I64 d.id
  ps : ∀ p ∈ d.ps, p.length = 2 ∧ ∀ x ∈ p, I64 x
  t : ∀ x ∈ d.t, I64 x
  lt : d.t.length = 2
structure AccI (d : AccD) : Prop where
  px : ∀ x ∈ d.px, I64 x
  lp : d.px.length = 9
  t : ∀ x ∈ d.t, I64 x
  lt : d.t.length = 3
  lots : ∀ p ∈ d.lots, p.length = 9 ∧ ∀ x ∈ p, I64 x
  n : ∀ x ∈ d.n, I64 x
  ln : d.n.length = 2
  holds : ∀ h ∈ d.holds, HoldI h
  win : ∀ e ∈ d.win, EntI e

theorem num_back (x y : Int) (r : List Nat) (h : I64 x) : numS .pr ⟨be8 x ++ r, 0⟩ y = (⟨r, 0⟩, x) := by
  have := ints_back [x] r (fun z hz => by rw [List.mem_singleton.1 hz]; exact h) [y] rfl
  unfold intsB at this
  simp only [List.flatMap_cons, List.flatMap_nil, List.append_nil] at this
  have e1 := congrArg Prod.fst this
  have e2 := congrArg Prod.snd this
  have e1' : (numS .pr ⟨be8 x ++ r, 0⟩ y).1 = ⟨r, 0⟩ := e1
  have e2' : [(numS .pr ⟨be8 x ++ r, 0⟩ y).2] = [x] := e2
  injection e2' with e3
  exact Prod.ext e1' e3
theorem hold_back (d : HoldD) (h : HoldI d) (r : List Nat) : FH ⟨holdBy d ++ r, 0⟩ = (⟨r, 0⟩, d) := by
  have e1 : numS .pr ⟨holdBy d ++ r, 0⟩ 0 = (⟨listB intsB d.ps ++ (intsB d.t ++ r), 0⟩, d.id) := by
    unfold holdBy
    rw [List.append_assoc, List.append_assoc]
    exact num_back _ _ _ h.id
  have e2 : listS F2 ⟨listB intsB d.ps ++ (intsB d.t ++ r), 0⟩ = (⟨intsB d.t ++ r, 0⟩, d.ps) := by
    rw [list_back F2 intsB id d.ps (fun x hx r => ints_back x r (h.ps x hx).2 (nz 2) (by rw [(h.ps x hx).1]; rfl)) _, List.map_id]
  have e3 := ints_back d.t r h.t (nz 2) (by rw [h.lt]; rfl)
  unfold FH
  rw [e1]
  show ((numsS .pr (listS F2 ⟨listB intsB d.ps ++ (intsB d.t ++ r), 0⟩).1 (nz 2)).1, (⟨d.id, (listS F2 ⟨listB intsB d.ps ++ (intsB d.t ++ r), 0⟩).2, (numsS .pr (listS F2 ⟨listB intsB d.ps ++ (intsB d.t ++ r), 0⟩).1 (nz 2)).2⟩ : HoldD)) = _
  rw [e2]
  show ((numsS .pr ⟨intsB d.t ++ r, 0⟩ (nz 2)).1, (⟨d.id, d.ps, (numsS .pr ⟨intsB d.t ++ r, 0⟩ (nz 2)).2⟩ : HoldD)) = _
  rw [e3]
theorem ent_back (d : EntD) (h : EntI d) (r : List Nat) : FE ⟨entBy d ++ r, 0⟩ = (⟨r, 0⟩, plainE d) := by
  obtain ⟨F, hF⟩ : ∃ F, (if d.xs.headD 0 = 0 then [0] else [1] ++ tiB d.nm d.xs) ++ r = F := ⟨_, rfl⟩
  have e0 : entBy d ++ r = be8 d.id ++ ([d.er.toNat] ++ (intsB d.l ++ F)) := by
    rw [← hF]
    unfold entBy
    simp only [List.append_assoc]
  have h1 : ent1 .pr ⟨entBy d ++ r, 0⟩ E0 = (⟨[d.er.toNat] ++ (intsB d.l ++ F), 0⟩, d.id) := by
    rw [e0]
    exact num_back _ _ _ h.id
  have h2 : ent2 .pr ⟨entBy d ++ r, 0⟩ E0 = (⟨intsB d.l ++ F, 0⟩, d.er) := by
    unfold ent2
    rw [h1]
    show ((takeS ⟨[d.er.toNat] ++ (intsB d.l ++ F), 0⟩ 1).1, (((takeS ⟨[d.er.toNat] ++ (intsB d.l ++ F), 0⟩ 1).2.headD 0 : Nat) : Int)) = _
    rw [take_front [d.er.toNat] _ 1 rfl]
    show ((⟨intsB d.l ++ F, 0⟩ : Sx), ((d.er.toNat : Nat) : Int)) = _
    rw [Int.toNat_of_nonneg h.er.1]
  have h3 : ent3 .pr ⟨entBy d ++ r, 0⟩ E0 = (⟨F, 0⟩, d.l) := by
    unfold ent3
    rw [h2]
    exact ints_back d.l F h.l _ (by rw [h.ll]; rfl)
  by_cases hz : d.xs.headD 0 = 0
  · have hF' : F = [0] ++ r := by rw [← hF, if_pos hz]
    have h4 : ent4 .pr ⟨entBy d ++ r, 0⟩ E0 = (⟨r, 0⟩, false) := by
      unfold ent4
      rw [h3, hF']
      show (if (takeS ⟨[0] ++ r, 0⟩ 1).2.headD 0 > 1 then refuseS (takeS ⟨[0] ++ r, 0⟩ 1).1 11 else (takeS ⟨[0] ++ r, 0⟩ 1).1, (takeS ⟨[0] ++ r, 0⟩ 1).2.headD 0 == 1) = _
      rw [take_front [0] r 1 rfl]
      rfl
    unfold FE entS
    rw [h4, h1, h2, h3]
    unfold plainE
    rw [if_pos hz]
    rfl
  · have hF' : F = [1] ++ (tiB d.nm d.xs ++ r) := by rw [← hF, if_neg hz, List.append_assoc]
    have h4 : ent4 .pr ⟨entBy d ++ r, 0⟩ E0 = (⟨tiB d.nm d.xs ++ r, 0⟩, true) := by
      unfold ent4
      rw [h3, hF']
      show (if (takeS ⟨[1] ++ (tiB d.nm d.xs ++ r), 0⟩ 1).2.headD 0 > 1 then refuseS (takeS ⟨[1] ++ (tiB d.nm d.xs ++ r), 0⟩ 1).1 11 else (takeS ⟨[1] ++ (tiB d.nm d.xs ++ r), 0⟩ 1).1, (takeS ⟨[1] ++ (tiB d.nm d.xs ++ r), 0⟩ 1).2.headD 0 == 1) = _
      rw [take_front [1] _ 1 rfl]
      rfl
    have h5 : ent5 .pr ⟨entBy d ++ r, 0⟩ E0 = (⟨r, 0⟩, d.nm, d.xs) := by
      unfold ent5
      rw [h4]
      exact tiS_back d.nm d.xs r _ _ h.xs (by rw [h.lx]; rfl)
    unfold FE entS
    rw [h5, h4, h1, h2, h3]
    unfold plainE
    rw [if_neg hz]
    simp only [if_neg hz]
    rfl
theorem acc_back (d : AccD) (h : AccI d) : FA ⟨accBy d, 0⟩ = (⟨[], 0⟩, plainA d) := by
  obtain ⟨R7, e7⟩ : ∃ R, listB entBy d.win ++ [] = R := ⟨_, rfl⟩
  obtain ⟨R6, e6⟩ : ∃ R, listB holdBy d.holds ++ R7 = R := ⟨_, rfl⟩
  obtain ⟨R5, e5⟩ : ∃ R, intsB d.n ++ R6 = R := ⟨_, rfl⟩
  obtain ⟨R4, e4⟩ : ∃ R, listB intsB d.lots ++ R5 = R := ⟨_, rfl⟩
  obtain ⟨R3, e3⟩ : ∃ R, intsB d.t ++ R4 = R := ⟨_, rfl⟩
  obtain ⟨R2, e2⟩ : ∃ R, tiB d.pn d.px ++ R3 = R := ⟨_, rfl⟩
  obtain ⟨R1, e1⟩ : ∃ R, textB d.key ++ R2 = R := ⟨_, rfl⟩
  have e : accBy d = textB d.nm ++ R1 := by
    rw [← e1, ← e2, ← e3, ← e4, ← e5, ← e6, ← e7]
    unfold accBy
    simp only [List.append_assoc, List.append_nil]
  rw [e]
  have h1 : fa1 ⟨textB d.nm ++ R1, 0⟩ = (⟨R1, 0⟩, d.nm) := text_back d.nm noT _
  have h2 : fa2 ⟨textB d.nm ++ R1, 0⟩ = (⟨R2, 0⟩, d.key) := by unfold fa2; rw [h1, ← e1]; exact text_back d.key noT _
  have h3 : fa3 ⟨textB d.nm ++ R1, 0⟩ = (⟨R3, 0⟩, d.pn, d.px) := by unfold fa3; rw [h2, ← e2]; exact tiS_back d.pn d.px _ noT (nz 9) h.px (by rw [h.lp]; rfl)
  have h4 : fa4 ⟨textB d.nm ++ R1, 0⟩ = (⟨R4, 0⟩, d.t) := by unfold fa4; rw [h3, ← e3]; exact ints_back d.t _ h.t (nz 3) (by rw [h.lt]; rfl)
  have h5 : fa5 ⟨textB d.nm ++ R1, 0⟩ = (⟨R5, 0⟩, d.lots) := by
    unfold fa5
    rw [h4, ← e4]
    refine (list_back F9 intsB id d.lots (fun x hx r => ints_back x r (h.lots x hx).2 (nz 9) (by rw [(h.lots x hx).1]; rfl)) _).trans ?_
    rw [List.map_id]
  have h6 : fa6 ⟨textB d.nm ++ R1, 0⟩ = (⟨R6, 0⟩, d.n) := by unfold fa6; rw [h5, ← e5]; exact ints_back d.n _ h.n (nz 2) (by rw [h.ln]; rfl)
  have h7 : fa7 ⟨textB d.nm ++ R1, 0⟩ = (⟨R7, 0⟩, d.holds) := by
    unfold fa7
    rw [h6, ← e6]
    refine (list_back FH holdBy id d.holds (fun x hx r => hold_back x (h.holds x hx) r) _).trans ?_
    rw [List.map_id]
  have h8 : fa8 ⟨textB d.nm ++ R1, 0⟩ = (⟨[], 0⟩, d.win.map plainE) := by
    unfold fa8
    rw [h7, ← e7]
    exact list_back FE entBy plainE d.win (fun x hx r => ent_back x (h.win x hx) r) _
  unfold FA
  rw [h1, h2, h3, h4, h5, h6, h7, h8]
  rfl
end Go.Proofs.Ytghgkjollafeiaa
