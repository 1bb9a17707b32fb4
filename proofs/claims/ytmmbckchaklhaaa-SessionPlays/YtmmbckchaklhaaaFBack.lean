/-
  What can be read was written so.
-/
import Derived.Test.YtmmbckchaklhaaaFAnsQ
namespace Go.Proofs.Ytmmbckchaklhaaa
open Go.RowKit

def textB (t : ByteArray) : List Nat := [t.size] ++ natBytes t
def intsB (l : List Int) : List Nat := l.flatMap be8
theorem countS_fault {s : Sx} (h : s.e ≠ 0) : countS .pr s 0 = (s, 0) := by
  show ((takeS s 1).1, (takeS s 1).2.headD 0) = _
  rw [takeS_fault h]
  rfl
theorem count_e {s : Sx} (h : (countS .pr s 0).1.e = 0) : s.e = 0 := Classical.byContradiction fun k => by rw [countS_fault k] at h; exact k h
theorem text_e {s : Sx} {z : ByteArray} (h : (textS .pr s z).1.e = 0) : s.e = 0 := Classical.byContradiction fun k => by
  have e : textS .pr s z = ((takeS (countS .pr s 0).1 (countS .pr s 0).2).1, textOf (takeS (countS .pr s 0).1 (countS .pr s 0).2).2) := rfl
  rw [e, countS_fault k] at h
  exact k (by rw [takeS_fault k] at h; exact h)
theorem nums_stick (l : List Int) : ∀ s : Sx, s.e ≠ 0 → (numsS .pr s l).1.e = s.e := fun s h => by rw [numsS_fault l h]
def Byt (l : List Nat) : Prop := ∀ x ∈ l, x < 256
theorem Byt.right {a b : List Nat} (h : Byt (a ++ b)) : Byt b := fun x hx => h x (List.mem_append_right _ hx)
theorem Byt.left {a b : List Nat} (h : Byt (a ++ b)) : Byt a := fun x hx => h x (List.mem_append_left _ hx)
theorem beNum_inj : ∀ (n : Nat) (l m : List Nat), l.length = n → m.length = n → Byt l → Byt m → beNum l = beNum m → l = m
  | 0, l, m, hl, hm, _, _, _ => by rw [List.eq_nil_of_length_eq_zero hl, List.eq_nil_of_length_eq_zero hm]
  | n + 1, l, m, hl, hm, bl, bm, h => by
    have nl : l ≠ [] := fun e => by rw [e] at hl; cases hl
    have nm : m ≠ [] := fun e => by rw [e] at hm; cases hm
    obtain ⟨l', x, rfl⟩ : ∃ l' x, l = l' ++ [x] := ⟨l.dropLast, l.getLast nl, (List.dropLast_concat_getLast nl).symm⟩
    obtain ⟨m', y, rfl⟩ : ∃ m' y, m = m' ++ [y] := ⟨m.dropLast, m.getLast nm, (List.dropLast_concat_getLast nm).symm⟩
    rw [beNum_snoc, beNum_snoc] at h
    have hx : x < 256 := bl x (by simp)
    have hy : y < 256 := bm y (by simp)
    have h1 : beNum l' = beNum m' := by omega
    have h2 : x = y := by omega
    rw [List.length_append, List.length_singleton] at hl hm
    rw [beNum_inj n l' m' (by omega) (by omega) bl.left bm.left h1, h2]
theorem be8_back (l : List Nat) (hl : l.length = 8) (hb : Byt l) : be8 (i64of (beNum l)) = l := by
  refine beNum_inj 8 _ _ (be8_length _) hl (be8_lt _) hb ?_
  have h1 := beNum_be8 (i64of (beNum l))
  have h2 := beNum_lt l hb
  rw [hl] at h2
  have h3 : i64of (beNum l) % 18446744073709551616 = (beNum l : Int) := by
    unfold i64of
    split <;> omega
  rw [h3] at h1
  exact Int.ofNat.inj h1
theorem nat_text (l : List Nat) (hb : Byt l) : natBytes (textOf l) = l := by
  unfold textOf natBytes
  rw [strOfNums_data, List.map_map, List.map_map]
  conv => rhs; rw [← List.map_id l]
  apply List.map_congr_left
  intro x hx
  have := hb x hx
  simp
  omega
theorem take_e {s : Sx} {n : Nat} (h : (takeS s n).1.e = 0) : s.e = 0 ∧ s.l = (takeS s n).2 ++ (takeS s n).1.l := by
  by_cases he : s.e = 0
  · refine ⟨he, ?_⟩
    unfold takeS at h ⊢
    rw [if_neg (by omega)] at h ⊢
    split at h
    · cases h
    · rename_i hn
      rw [if_neg hn]
      exact (List.take_append_drop n s.l).symm
  · rw [takeS_fault he] at h
    exact absurd h he

/-- What F reads, f writes; and it is such as P says. -/
def Wb {D : Type} (F : Sx → Sx × D) (f : D → List Nat) (P : D → Prop) : Prop := ∀ s, Byt s.l → (F s).1.e = 0 → s.e = 0 ∧ s.l = f (F s).2 ++ (F s).1.l ∧ P (F s).2
theorem wb_num : Wb (fun s => numS .pr s 0) be8 (fun _ => True) := fun s hb h => by
  obtain ⟨h1, h2⟩ := take_e (n := 8) h
  have hb8 : Byt (takeS s 8).2 := takeS_lt s 8 hb
  refine ⟨h1, ?_, trivial⟩
  show s.l = be8 (i64of (beNum (takeS s 8).2)) ++ (takeS s 8).1.l
  rw [be8_back _ (takeS_length s 8) hb8]
  exact h2
theorem one_list {l : List Nat} (h : l.length = 1) : [l.headD 0] = l := by
  match l, h with
  | [x], _ => rfl
theorem wb_count : Wb (fun s => countS .pr s 0) (fun k => [k]) (fun k => k < 256) := fun s hb h => by
  obtain ⟨h1, h2⟩ := take_e (n := 1) h
  refine ⟨h1, ?_, headD_lt (takeS_lt s 1 hb)⟩
  show s.l = [(takeS s 1).2.headD 0] ++ (takeS s 1).1.l
  rw [one_list (takeS_length s 1)]
  exact h2
theorem wb_text (z : ByteArray) : Wb (fun s => textS .pr s z) textB (fun t => t.size ≤ 255) := fun s hb h => by
  have e : textS .pr s z = ((takeS (countS .pr s 0).1 (countS .pr s 0).2).1, textOf (takeS (countS .pr s 0).1 (countS .pr s 0).2).2) := rfl
  dsimp only at h ⊢
  rw [e] at h ⊢
  dsimp only at h ⊢
  obtain ⟨h1, h2⟩ := take_e h
  obtain ⟨k1, k2, k3⟩ := wb_count s hb h1
  dsimp only at k2 k3
  have hb2 : Byt (countS .pr s 0).1.l := by rw [k2] at hb; exact hb.right
  have hb3 : Byt (takeS (countS .pr s 0).1 (countS .pr s 0).2).2 := takeS_lt _ _ hb2
  have hn := nat_text _ hb3
  have hs : (textOf (takeS (countS .pr s 0).1 (countS .pr s 0).2).2).size = (countS .pr s 0).2 := by
    rw [← natBytes_length, hn, takeS_length]
  refine ⟨k1, ?_, by rw [hs]; omega⟩
  unfold textB
  rw [hs, hn, List.append_assoc, ← h2]
  exact k2
theorem wb_nums : ∀ (l : List Int), Wb (fun s => numsS .pr s l) intsB (fun _ => True)
  | [] => fun s _ h => ⟨h, rfl, trivial⟩
  | x :: l => fun s hb h => by
    have e : numsS .pr s (x :: l) = ((numsS .pr (numS .pr s 0).1 l).1, (numS .pr s 0).2 :: (numsS .pr (numS .pr s 0).1 l).2) := rfl
    dsimp only at h ⊢
    rw [e] at h ⊢
    dsimp only at h ⊢
    have hne : (numS .pr s 0).1.e = 0 := Classical.byContradiction fun k => by rw [numsS_fault l k] at h; exact k h
    obtain ⟨k1, k2, _⟩ := wb_num s hb hne
    dsimp only at k2
    have hb2 : Byt (numS .pr s 0).1.l := by rw [k2] at hb; exact hb.right
    obtain ⟨_, m2, _⟩ := wb_nums l (numS .pr s 0).1 hb2 h
    dsimp only at m2
    refine ⟨k1, ?_, trivial⟩
    show s.l = be8 _ ++ intsB _ ++ _
    rw [List.append_assoc, ← m2]
    exact k2
theorem wb_ti (k : Nat) : ∀ s, Byt s.l → (tiS .pr s ByteArray.empty (List.replicate k 0)).1.e = 0 → s.e = 0 ∧ s.l = tiB (tiS .pr s ByteArray.empty (List.replicate k 0)).2.1 (tiS .pr s ByteArray.empty (List.replicate k 0)).2.2 ++ (tiS .pr s ByteArray.empty (List.replicate k 0)).1.l ∧ (tiS .pr s ByteArray.empty (List.replicate k 0)).2.1.size ≤ 255 := fun s hb h => by
  have h1 := tiS_text h
  obtain ⟨k1, k2, k3⟩ := wb_text ByteArray.empty s hb h1
  dsimp only at k2 k3
  have hb2 : Byt (textS .pr s ByteArray.empty).1.l := by rw [k2] at hb; exact hb.right
  obtain ⟨_, m2, _⟩ := wb_nums (List.replicate k 0) _ hb2 h
  dsimp only at m2
  refine ⟨k1, ?_, k3⟩
  show s.l = textB (textS .pr s ByteArray.empty).2 ++ intsB (numsS .pr (textS .pr s ByteArray.empty).1 (List.replicate k 0)).2 ++ (numsS .pr (textS .pr s ByteArray.empty).1 (List.replicate k 0)).1.l
  rw [List.append_assoc, ← m2]
  exact k2
theorem refuse_e {s : Sx} {e : Nat} (h : (refuseS s e).e = 0) (he : e ≠ 0) : False := by
  unfold refuseS at h
  split at h
  · exact he h
  · rename_i k
    exact k h
/-- The bytes of an entry behind its id. -/
def anB (d : EntD) : List Nat := [d.er.toNat] ++ intsB d.l ++ (if d.xs.headD 0 = 0 then [0] else [1] ++ tiB d.nm d.xs)
theorem wb_an : Wb anS anB (fun d => (0 ≤ d.er ∧ d.er ≤ 255) ∧ d.nm.size ≤ 255) := fun s hb h => by
  have e2 : an2 s = ((countS .pr s 0).1, ((countS .pr s 0).2 : Int)) := rfl
  have e4 : an4 s = (if (countS .pr (an3 s).1 0).2 > 1 then refuseS (countS .pr (an3 s).1 0).1 11 else (countS .pr (an3 s).1 0).1, (countS .pr (an3 s).1 0).2 == 1) := rfl
  have e5 : an5 s = tiS .pr (an4 s).1 ByteArray.empty (List.replicate 8 0) := rfl
  have h4 : (an4 s).1.e = 0 := by
    unfold anS at h
    split at h
    · dsimp only at h
      split at h
      · exact (refuse_e h (by omega)).elim
      · rw [e5] at h
        exact (Classical.byContradiction fun k => by
          have h1 := tiS_text h
          exact k (text_e h1))
    · exact h
  have h4c : ¬ (countS .pr (an3 s).1 0).2 > 1 := fun k => by
    rw [e4, if_pos k] at h4
    exact refuse_e h4 (by omega)
  rw [if_neg h4c] at e4
  have h4e : (countS .pr (an3 s).1 0).1.e = 0 := by rw [e4] at h4; exact h4
  have h3 : (an3 s).1.e = 0 := count_e h4e
  have h2 : (an2 s).1.e = 0 := Classical.byContradiction fun k => k ((nums_stick (List.replicate 3 0) _ k).symm.trans h3)
  obtain ⟨k1, k2, k3⟩ := wb_count s hb (by rw [e2] at h2; exact h2)
  dsimp only at k2 k3
  have hb2 : Byt (an2 s).1.l := by rw [e2]; rw [k2] at hb; exact hb.right
  obtain ⟨_, m2, _⟩ := wb_nums (List.replicate 3 0) (an2 s).1 hb2 h3
  dsimp only at m2
  have m2' : (an2 s).1.l = intsB (an3 s).2 ++ (an3 s).1.l := m2
  have hb3 : Byt (an3 s).1.l := by rw [m2'] at hb2; exact hb2.right
  obtain ⟨_, r2, _⟩ := wb_count (an3 s).1 hb3 h4e
  dsimp only at r2
  have hb4 : Byt (an4 s).1.l := by rw [e4]; rw [r2] at hb3; exact hb3.right
  have hs : s.l = [(countS .pr s 0).2] ++ (intsB (an3 s).2 ++ ([(countS .pr (an3 s).1 0).2] ++ (an4 s).1.l)) := by
    rw [e4]
    dsimp only
    rw [← r2, ← m2', e2]
    exact k2
  have her : (an2 s).2 = ((countS .pr s 0).2 : Int) := by rw [e2]
  unfold anS at h ⊢
  by_cases hf : (an4 s).2 = true
  · rw [if_pos hf] at h ⊢
    dsimp only at h ⊢
    have hk : (countS .pr (an3 s).1 0).2 = 1 := by rw [e4] at hf; simpa using hf
    have hz : ¬ (an5 s).2.2.headD 0 = 0 := fun k => by
      rw [if_pos k] at h
      exact refuse_e h (by omega)
    rw [if_neg hz] at h ⊢
    rw [e5] at h
    obtain ⟨_, q2, q3⟩ := wb_ti 8 (an4 s).1 hb4 h
    rw [← e5] at q2 q3
    refine ⟨k1, ?_, by rw [her]; omega, q3⟩
    unfold anB
    dsimp only
    rw [if_neg hz, her, Int.toNat_natCast]
    rw [hs, hk, q2]
    simp only [List.append_assoc]
  · rw [if_neg hf] at h ⊢
    dsimp only at h ⊢
    have hk : (countS .pr (an3 s).1 0).2 = 0 := by
      rw [e4] at hf
      have : ¬ (countS .pr (an3 s).1 0).2 = 1 := fun k => hf (by simp [k])
      omega
    refine ⟨k1, ?_, by rw [her]; omega, by decide⟩
    unfold anB
    dsimp only
    rw [if_pos (by rfl), her, Int.toNat_natCast]
    rw [hs, hk]
    simp only [List.append_assoc]
end Go.Proofs.Ytmmbckchaklhaaa
