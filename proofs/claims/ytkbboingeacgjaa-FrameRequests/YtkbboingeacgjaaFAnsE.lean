/-
  Answers, by themselves: both parses agree; what was written is read as it was; what can be read was written so.
-/
import Derived.Test.YtkbboingeacgjaaFAnsR
import Derived.Test.YtkbboingeacgjaaFBack
namespace Go.Proofs.Ytkbboingeacgjaa
open Go.RowKit

theorem take_ok {s : Sx} {n : Nat} (h : s.e = 0) (hn : n ≤ s.l.length) : takeS s n = (⟨s.l.drop n, 0⟩, s.l.take n) := by unfold takeS; rw [if_neg (by omega), if_neg (by omega)]
theorem take_cut {s : Sx} {n : Nat} (h : s.e = 0) (hn : s.l.length < n) : takeS s n = (⟨s.l, 8⟩, List.replicate n 0) := by unfold takeS; rw [if_neg (by omega), if_pos hn]
theorem nums_ee (l : List Int) : ∀ s : Sx, s.e = 0 → (numsS .pr s l).1.e = if s.l.length < 8 * l.length then 8 else 0 := by
  induction l with
  | nil => intro s h; simp [numsS, h]
  | cons x l ih =>
    intro s h
    show (numsS .pr (takeS s 8).1 l).1.e = _
    by_cases h8 : s.l.length < 8
    · rw [take_cut h h8, numsS_fault l (by simp), if_pos (by rw [List.length_cons]; omega)]
    · rw [take_ok h (by omega), ih _ rfl]
      show (if (s.l.drop 8).length < 8 * l.length then 8 else 0) = _
      rw [List.length_drop, List.length_cons]
      by_cases h9 : s.l.length - 8 < 8 * l.length
      · rw [if_pos h9, if_pos (by omega)]
      · rw [if_neg h9, if_neg (by omega)]
theorem text_fault {s : Sx} (h : s.e ≠ 0) (z : ByteArray) : (textS .pr s z).1 = s := by
  show (takeS (countS .pr s 0).1 (countS .pr s 0).2).1 = s
  rw [countS_fault h, takeS_fault h]
theorem ti_ee (k : Nat) (s : Sx) (h : s.e = 0) : (tiS .pr s ByteArray.empty (List.replicate k 0)).1.e = if s.l.length < 1 + 8 * k + s.l.headD 0 then 8 else 0 := by
  show (numsS .pr (takeS (takeS s 1).1 ((takeS s 1).2.headD 0)).1 (List.replicate k 0)).1.e = _
  by_cases h1 : s.l.length < 1
  · rw [take_cut h h1, takeS_fault (by simp), numsS_fault _ (by simp), if_pos (by omega)]
  · have hh : (s.l.take 1).headD 0 = s.l.headD 0 := by
      match s.l, h1 with
      | x :: _, _ => rfl
    rw [take_ok h (by omega)]
    show (numsS .pr (takeS ⟨s.l.drop 1, 0⟩ ((s.l.take 1).headD 0)).1 (List.replicate k 0)).1.e = _
    rw [hh]
    by_cases h2 : s.l.length - 1 < s.l.headD 0
    · rw [take_cut rfl (by rw [List.length_drop]; exact h2), numsS_fault _ (by simp), if_pos (by omega)]
    · rw [take_ok rfl (by rw [List.length_drop]; omega), nums_ee _ _ rfl]
      show (if ((s.l.drop 1).drop (s.l.headD 0)).length < 8 * (List.replicate k (0 : Int)).length then 8 else 0) = _
      rw [List.length_drop, List.length_drop, List.length_replicate]
      by_cases h3 : s.l.length - 1 - s.l.headD 0 < 8 * k
      · rw [if_pos h3, if_pos (by omega)]
      · rw [if_neg h3, if_neg (by omega)]
theorem nums_i64 (l : List Int) : ∀ s : Sx, Byt s.l → ∀ x ∈ (numsS .pr s l).2, I64 x := by
  induction l with
  | nil => intro s _ x hx; cases hx
  | cons y l ih =>
    intro s hb x hx
    rcases List.mem_cons.1 (show x ∈ (numS .pr s y).2 :: (numsS .pr (numS .pr s y).1 l).2 from hx) with rfl | hx
    · exact i64of_bd _ (takeS_lt s 8 hb) (takeS_length s 8)
    · exact ih _ (takeS_rest s 8 hb) x hx
theorem text_byt {s : Sx} (hb : Byt s.l) (z : ByteArray) : Byt (textS .pr s z).1.l := takeS_rest _ _ (takeS_rest s 1 hb)

/-- A record that is taken as a whole is what is read field by field. -/
theorem rec_ti (k : Nat) (s : Sx) (hb : Byt s.l) : (tiS .pr s ByteArray.empty (List.replicate k 0)).1.e = (recS s (1 + 8 * k)).1.e ∧ ((recS s (1 + 8 * k)).1.e = 0 → (tiS .pr s ByteArray.empty (List.replicate k 0)).1 = (recS s (1 + 8 * k)).1 ∧ parsedTi k (recS s (1 + 8 * k)).2 = (0, (tiS .pr s ByteArray.empty (List.replicate k 0)).2.1, (tiS .pr s ByteArray.empty (List.replicate k 0)).2.2)) := by
  by_cases he : s.e = 0
  · have hte := ti_ee k s he
    unfold recS
    by_cases hl : s.l.length < 1 + 8 * k + s.l.headD 0
    · rw [if_pos hl] at hte
      rw [take_cut he hl, hte]
      exact ⟨rfl, fun h => by cases h⟩
    · rw [if_neg hl] at hte
      obtain ⟨_, h2, h3⟩ := wb_ti k s hb hte
      have hx : (tiS .pr s ByteArray.empty (List.replicate k 0)).2.2.length = k := (numsS_length .pr _ _).trans (by simp)
      have hi : ∀ x ∈ (tiS .pr s ByteArray.empty (List.replicate k 0)).2.2, I64 x := nums_i64 _ _ (text_byt hb _)
      obtain ⟨⟨⟨tl, te⟩, nm, xs⟩, ht⟩ : ∃ T, tiS .pr s ByteArray.empty (List.replicate k 0) = T := ⟨_, rfl⟩
      rw [ht] at hte h2 h3 hx hi ⊢
      dsimp only at hte h2 h3 hx hi ⊢
      subst hte
      obtain ⟨sl, se⟩ := s
      obtain rfl : se = 0 := he
      obtain rfl : sl = tiB nm xs ++ tl := h2
      have hhd : (tiB nm xs ++ tl).headD 0 = nm.size := rfl
      have hlen : (tiB nm xs).length = 1 + 8 * k + nm.size := by
        unfold tiB
        rw [List.length_append, List.length_append, natBytes_length, flat8_length, hx, List.length_singleton]
        omega
      show 0 = (takeS ⟨tiB nm xs ++ tl, 0⟩ (1 + 8 * k + (tiB nm xs ++ tl).headD 0)).1.e ∧ _
      rw [hhd, takeS_front (tiB nm xs) tl _ hlen]
      exact ⟨rfl, fun _ => ⟨rfl, parsed_back nm xs k hx hi⟩⟩
  · have h1 : (tiS .pr s ByteArray.empty (List.replicate k 0)).1 = s := by
      show (numsS .pr (textS .pr s ByteArray.empty).1 (List.replicate k 0)).1 = s
      rw [text_fault he, numsS_fault _ he]
    have h2 : (recS s (1 + 8 * k)).1 = s := by unfold recS; rw [takeS_fault he]
    rw [h1, h2]
    exact ⟨rfl, fun h => absurd h he⟩

theorem refuse_keep {s : Sx} (h : s.e ≠ 0) (e : Nat) : refuseS s e = s := by unfold refuseS; rw [if_neg h]
theorem end_e {s : Sx} (h : s.e ≠ 0) : endS s = s.e := by
  unfold endS
  split
  · rfl
  · rw [refuse_keep h]

theorem num_front (x : Int) (hx : I64 x) (r : List Nat) : numS .pr ⟨be8 x ++ r, 0⟩ 0 = (⟨r, 0⟩, x) := by
  show ((takeS ⟨be8 x ++ r, 0⟩ 8).1, i64of (beNum (takeS ⟨be8 x ++ r, 0⟩ 8).2)) = _
  rw [takeS_front (be8 x) r 8 (be8_length x)]
  show (_, i64of (beNum (be8 x))) = _
  rw [i64of_be8 x hx.1 hx.2]

theorem end_el {s : Sx} (h : endS s = 0) : s.e = 0 ∧ s.l = [] := by
  unfold endS at h
  split at h
  · exact ⟨h, by assumption⟩
  · unfold refuseS at h
    split at h
    · cases h
    · exact absurd h (by assumption)

end Go.Proofs.Ytkbboingeacgjaa
