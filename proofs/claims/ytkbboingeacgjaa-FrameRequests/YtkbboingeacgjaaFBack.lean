/-
  What can be read was written so.
-/
import Derived.Test.YtkbboingeacgjaaQTD
namespace Go.Proofs.Ytkbboingeacgjaa
open Go.RowKit

def textB (t : ByteArray) : List Nat := [t.size] ++ natBytes t
def intsB (l : List Int) : List Nat := l.flatMap be8
theorem countS_fault {s : Sx} (h : s.e ≠ 0) : countS .pr s 0 = (s, 0) := by
  show ((takeS s 1).1, (takeS s 1).2.headD 0) = _
  rw [takeS_fault h]
  rfl
theorem text_e {s : Sx} {z : ByteArray} (h : (textS .pr s z).1.e = 0) : s.e = 0 := Classical.byContradiction fun k => by
  have e : textS .pr s z = ((takeS (countS .pr s 0).1 (countS .pr s 0).2).1, textOf (takeS (countS .pr s 0).1 (countS .pr s 0).2).2) := rfl
  rw [e, countS_fault k] at h
  exact k (by rw [takeS_fault k] at h; exact h)
def Byt (l : List Nat) : Prop := ∀ x ∈ l, x < 256
theorem Byt.right {a b : List Nat} (h : Byt (a ++ b)) : Byt b := fun x hx => h x (List.mem_append_right _ hx)
theorem Byt.left {a b : List Nat} (h : Byt (a ++ b)) : Byt a := fun x hx => h x (List.mem_append_left _ hx)
theorem beNum_inj : ∀ (n : Nat) (l m : List Nat), l.length = n → m.length = n → Byt l → Byt m → beNum l = beNum m → l = m
  | 0, l, m, hl, hm, _, _, _ => by rw [List.eq_nil_of_length_eq_zero hl, List.eq_nil_of_length_eq_zero hm]
  | n + 1, l, m, hl, hm, bl, bm, h => by
    have nl : l ≠ [] := fun e => by rw [e] at hl; cases hl
    have nm : m ≠ [] := fun e => by rw [e] at hm; cases hm
    obtain ⟨l', x, rfl⟩ : ∃ l' x, l = l' ++ [x] := ⟨l.dropLast, l.getLast nl, (List.dropLast_concat_getLast nl).symm⟩
    obtain ⟨m', y, rfl⟩ : ∃ m' y, m = m' ++ [y] := ⟨m.dropLast, m.getLast nm, (List.dropLast_concat_getLast nm).symm⟩
    rw [beNum_snoc, beNum_snoc] at h
    have hx : x < 256 := bl x (by simp)
    have hy : y < 256 := bm y (by simp)
    have h1 : beNum l' = beNum m' := by omega
    have h2 : x = y := by omega
    rw [List.length_append, List.length_singleton] at hl hm
    rw [beNum_inj n l' m' (by omega) (by omega) bl.left bm.left h1, h2]
theorem be8_back (l : List Nat) (hl : l.length = 8) (hb : Byt l) : be8 (i64of (beNum l)) = l := by
  refine beNum_inj 8 _ _ (be8_length _) hl (be8_lt _) hb ?_
  have h1 := beNum_be8 (i64of (beNum l))
  have h2 := beNum_lt l hb
  rw [hl] at h2
  have h3 : i64of (beNum l) % 18446744073709551616 = (beNum l : Int) := by
    unfold i64of
    split <;> omega
  rw [h3] at h1
  exact Int.ofNat.inj h1
theorem nat_text (l : List Nat) (hb : Byt l) : natBytes (textOf l) = l := by
  unfold textOf natBytes
  rw [strOfNums_data, List.map_map, List.map_map]
  conv => rhs; rw [← List.map_id l]
  apply List.map_congr_left
  intro x hx
  have := hb x hx
  simp
  omega
theorem take_e {s : Sx} {n : Nat} (h : (takeS s n).1.e = 0) : s.e = 0 ∧ s.l = (takeS s n).2 ++ (takeS s n).1.l := by
  by_cases he : s.e = 0
  · refine ⟨he, ?_⟩
    unfold takeS at h ⊢
    rw [if_neg (by omega)] at h ⊢
    split at h
    · cases h
    · rename_i hn
      rw [if_neg hn]
      exact (List.take_append_drop n s.l).symm
  · rw [takeS_fault he] at h
    exact absurd h he

/-- What F reads, f writes; and it is such as P says. -/
def Wb {D : Type} (F : Sx → Sx × D) (f : D → List Nat) (P : D → Prop) : Prop := ∀ s, Byt s.l → (F s).1.e = 0 → s.e = 0 ∧ s.l = f (F s).2 ++ (F s).1.l ∧ P (F s).2
theorem wb_num : Wb (fun s => numS .pr s 0) be8 (fun _ => True) := fun s hb h => by
  obtain ⟨h1, h2⟩ := take_e (n := 8) h
  have hb8 : Byt (takeS s 8).2 := takeS_lt s 8 hb
  refine ⟨h1, ?_, trivial⟩
  show s.l = be8 (i64of (beNum (takeS s 8).2)) ++ (takeS s 8).1.l
  rw [be8_back _ (takeS_length s 8) hb8]
  exact h2
theorem one_list {l : List Nat} (h : l.length = 1) : [l.headD 0] = l := by
  match l, h with
  | [x], _ => rfl
theorem wb_count : Wb (fun s => countS .pr s 0) (fun k => [k]) (fun k => k < 256) := fun s hb h => by
  obtain ⟨h1, h2⟩ := take_e (n := 1) h
  refine ⟨h1, ?_, headD_lt (takeS_lt s 1 hb)⟩
  show s.l = [(takeS s 1).2.headD 0] ++ (takeS s 1).1.l
  rw [one_list (takeS_length s 1)]
  exact h2
theorem wb_text (z : ByteArray) : Wb (fun s => textS .pr s z) textB (fun t => t.size ≤ 255) := fun s hb h => by
  have e : textS .pr s z = ((takeS (countS .pr s 0).1 (countS .pr s 0).2).1, textOf (takeS (countS .pr s 0).1 (countS .pr s 0).2).2) := rfl
  dsimp only at h ⊢
  rw [e] at h ⊢
  dsimp only at h ⊢
  obtain ⟨h1, h2⟩ := take_e h
  obtain ⟨k1, k2, k3⟩ := wb_count s hb h1
  dsimp only at k2 k3
  have hb2 : Byt (countS .pr s 0).1.l := by rw [k2] at hb; exact hb.right
  have hb3 : Byt (takeS (countS .pr s 0).1 (countS .pr s 0).2).2 := takeS_lt _ _ hb2
  have hn := nat_text _ hb3
  have hs : (textOf (takeS (countS .pr s 0).1 (countS .pr s 0).2).2).size = (countS .pr s 0).2 := by
    rw [← natBytes_length, hn, takeS_length]
  refine ⟨k1, ?_, by rw [hs]; omega⟩
  unfold textB
  rw [hs, hn, List.append_assoc, ← h2]
  exact k2
theorem wb_nums : ∀ (l : List Int), Wb (fun s => numsS .pr s l) intsB (fun _ => True)
  | [] => fun s _ h => ⟨h, rfl, trivial⟩
  | x :: l => fun s hb h => by
    have e : numsS .pr s (x :: l) = ((numsS .pr (numS .pr s 0).1 l).1, (numS .pr s 0).2 :: (numsS .pr (numS .pr s 0).1 l).2) := rfl
    dsimp only at h ⊢
    rw [e] at h ⊢
    dsimp only at h ⊢
    have hne : (numS .pr s 0).1.e = 0 := Classical.byContradiction fun k => by rw [numsS_fault l k] at h; exact k h
    obtain ⟨k1, k2, _⟩ := wb_num s hb hne
    dsimp only at k2
    have hb2 : Byt (numS .pr s 0).1.l := by rw [k2] at hb; exact hb.right
    obtain ⟨_, m2, _⟩ := wb_nums l (numS .pr s 0).1 hb2 h
    dsimp only at m2
    refine ⟨k1, ?_, trivial⟩
    show s.l = be8 _ ++ intsB _ ++ _
    rw [List.append_assoc, ← m2]
    exact k2
theorem wb_ti (k : Nat) : ∀ s, Byt s.l → (tiS .pr s ByteArray.empty (List.replicate k 0)).1.e = 0 → s.e = 0 ∧ s.l = tiB (tiS .pr s ByteArray.empty (List.replicate k 0)).2.1 (tiS .pr s ByteArray.empty (List.replicate k 0)).2.2 ++ (tiS .pr s ByteArray.empty (List.replicate k 0)).1.l ∧ (tiS .pr s ByteArray.empty (List.replicate k 0)).2.1.size ≤ 255 := fun s hb h => by
  have h1 := tiS_text h
  obtain ⟨k1, k2, k3⟩ := wb_text ByteArray.empty s hb h1
  dsimp only at k2 k3
  have hb2 : Byt (textS .pr s ByteArray.empty).1.l := by rw [k2] at hb; exact hb.right
  obtain ⟨_, m2, _⟩ := wb_nums (List.replicate k 0) _ hb2 h
  dsimp only at m2
  refine ⟨k1, ?_, k3⟩
  show s.l = textB (textS .pr s ByteArray.empty).2 ++ intsB (numsS .pr (textS .pr s ByteArray.empty).1 (List.replicate k 0)).2 ++ (numsS .pr (textS .pr s ByteArray.empty).1 (List.replicate k 0)).1.l
  rw [List.append_assoc, ← m2]
  exact k2
theorem refuse_e {s : Sx} {e : Nat} (h : (refuseS s e).e = 0) (he : e ≠ 0) : False := by
  unfold refuseS at h
  split at h
  · exact he h
  · rename_i k
    exact k h
end Go.Proofs.Ytkbboingeacgjaa
