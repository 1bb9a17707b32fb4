/-
  Answers, by themselves: both parses agree; what was written is read as it was; what can be read was written so.
-/
import Derived.Test.YtmmbckchaklhaaaFAnsR
import Derived.Test.YtmmbckchaklhaaaFBack
namespace Go.Proofs.Ytmmbckchaklhaaa
open Go.RowKit

theorem take_ok {s : Sx} {n : Nat} (h : s.e = 0) (hn : n ≤ s.l.length) : takeS s n = (⟨s.l.drop n, 0⟩, s.l.take n) := by unfold takeS; rw [if_neg (by omega), if_neg (by omega)]
theorem take_cut {s : Sx} {n : Nat} (h : s.e = 0) (hn : s.l.length < n) : takeS s n = (⟨s.l, 8⟩, List.replicate n 0) := by unfold takeS; rw [if_neg (by omega), if_pos hn]
theorem nums_ee (l : List Int) : ∀ s : Sx, s.e = 0 → (numsS .pr s l).1.e = if s.l.length < 8 * l.length then 8 else 0 := by
  induction l with
  | nil => intro s h; simp [numsS, h]
  | cons x l ih =>
    intro s h
    show (numsS .pr (takeS s 8).1 l).1.e = _
    by_cases h8 : s.l.length < 8
    · rw [take_cut h h8, numsS_fault l (by simp), if_pos (by rw [List.length_cons]; omega)]
    · rw [take_ok h (by omega), ih _ rfl]
      show (if (s.l.drop 8).length < 8 * l.length then 8 else 0) = _
      rw [List.length_drop, List.length_cons]
      by_cases h9 : s.l.length - 8 < 8 * l.length
      · rw [if_pos h9, if_pos (by omega)]
      · rw [if_neg h9, if_neg (by omega)]
theorem text_fault {s : Sx} (h : s.e ≠ 0) (z : ByteArray) : (textS .pr s z).1 = s := by
  show (takeS (countS .pr s 0).1 (countS .pr s 0).2).1 = s
  rw [countS_fault h, takeS_fault h]
theorem ti_ee (k : Nat) (s : Sx) (h : s.e = 0) : (tiS .pr s ByteArray.empty (List.replicate k 0)).1.e = if s.l.length < 1 + 8 * k + s.l.headD 0 then 8 else 0 := by
  show (numsS .pr (takeS (takeS s 1).1 ((takeS s 1).2.headD 0)).1 (List.replicate k 0)).1.e = _
  by_cases h1 : s.l.length < 1
  · rw [take_cut h h1, takeS_fault (by simp), numsS_fault _ (by simp), if_pos (by omega)]
  · have hh : (s.l.take 1).headD 0 = s.l.headD 0 := by
      match s.l, h1 with
      | x :: _, _ => rfl
    rw [take_ok h (by omega)]
    show (numsS .pr (takeS ⟨s.l.drop 1, 0⟩ ((s.l.take 1).headD 0)).1 (List.replicate k 0)).1.e = _
    rw [hh]
    by_cases h2 : s.l.length - 1 < s.l.headD 0
    · rw [take_cut rfl (by rw [List.length_drop]; exact h2), numsS_fault _ (by simp), if_pos (by omega)]
    · rw [take_ok rfl (by rw [List.length_drop]; omega), nums_ee _ _ rfl]
      show (if ((s.l.drop 1).drop (s.l.headD 0)).length < 8 * (List.replicate k (0 : Int)).length then 8 else 0) = _
      rw [List.length_drop, List.length_drop, List.length_replicate]
      by_cases h3 : s.l.length - 1 - s.l.headD 0 < 8 * k
      · rw [if_pos h3, if_pos (by omega)]
      · rw [if_neg h3, if_neg (by omega)]
theorem nums_i64 (l : List Int) : ∀ s : Sx, Byt s.l → ∀ x ∈ (numsS .pr s l).2, I64 x := by
  induction l with
  | nil => intro s _ x hx; cases hx
  | cons y l ih =>
    intro s hb x hx
    rcases List.mem_cons.1 (show x ∈ (numS .pr s y).2 :: (numsS .pr (numS .pr s y).1 l).2 from hx) with rfl | hx
    · exact i64of_bd _ (takeS_lt s 8 hb) (takeS_length s 8)
    · exact ih _ (takeS_rest s 8 hb) x hx
theorem text_byt {s : Sx} (hb : Byt s.l) (z : ByteArray) : Byt (textS .pr s z).1.l := takeS_rest _ _ (takeS_rest s 1 hb)

/-- A record that is taken as a whole is what is read field by field. -/
theorem rec_ti (k : Nat) (s : Sx) (hb : Byt s.l) : (tiS .pr s ByteArray.empty (List.replicate k 0)).1.e = (recS s (1 + 8 * k)).1.e ∧ ((recS s (1 + 8 * k)).1.e = 0 → (tiS .pr s ByteArray.empty (List.replicate k 0)).1 = (recS s (1 + 8 * k)).1 ∧ parsedTi k (recS s (1 + 8 * k)).2 = (0, (tiS .pr s ByteArray.empty (List.replicate k 0)).2.1, (tiS .pr s ByteArray.empty (List.replicate k 0)).2.2)) := by
  by_cases he : s.e = 0
  · have hte := ti_ee k s he
    unfold recS
    by_cases hl : s.l.length < 1 + 8 * k + s.l.headD 0
    · rw [if_pos hl] at hte
      rw [take_cut he hl, hte]
      exact ⟨rfl, fun h => by cases h⟩
    · rw [if_neg hl] at hte
      obtain ⟨_, h2, h3⟩ := wb_ti k s hb hte
      have hx : (tiS .pr s ByteArray.empty (List.replicate k 0)).2.2.length = k := (numsS_length .pr _ _).trans (by simp)
      have hi : ∀ x ∈ (tiS .pr s ByteArray.empty (List.replicate k 0)).2.2, I64 x := nums_i64 _ _ (text_byt hb _)
      obtain ⟨⟨⟨tl, te⟩, nm, xs⟩, ht⟩ : ∃ T, tiS .pr s ByteArray.empty (List.replicate k 0) = T := ⟨_, rfl⟩
      rw [ht] at hte h2 h3 hx hi ⊢
      dsimp only at hte h2 h3 hx hi ⊢
      subst hte
      obtain ⟨sl, se⟩ := s
      obtain rfl : se = 0 := he
      obtain rfl : sl = tiB nm xs ++ tl := h2
      have hhd : (tiB nm xs ++ tl).headD 0 = nm.size := rfl
      have hlen : (tiB nm xs).length = 1 + 8 * k + nm.size := by
        unfold tiB
        rw [List.length_append, List.length_append, natBytes_length, flat8_length, hx, List.length_singleton]
        omega
      show 0 = (takeS ⟨tiB nm xs ++ tl, 0⟩ (1 + 8 * k + (tiB nm xs ++ tl).headD 0)).1.e ∧ _
      rw [hhd, takeS_front (tiB nm xs) tl _ hlen]
      exact ⟨rfl, fun _ => ⟨rfl, parsed_back nm xs k hx hi⟩⟩
  · have h1 : (tiS .pr s ByteArray.empty (List.replicate k 0)).1 = s := by
      show (numsS .pr (textS .pr s ByteArray.empty).1 (List.replicate k 0)).1 = s
      rw [text_fault he, numsS_fault _ he]
    have h2 : (recS s (1 + 8 * k)).1 = s := by unfold recS; rw [takeS_fault he]
    rw [h1, h2]
    exact ⟨rfl, fun h => absurd h he⟩

theorem refuse_keep {s : Sx} (h : s.e ≠ 0) (e : Nat) : refuseS s e = s := by unfold refuseS; rw [if_neg h]
theorem end_e {s : Sx} (h : s.e ≠ 0) : endS s = s.e := by
  unfold endS
  split
  · rfl
  · rw [refuse_keep h]

/-- Both parses agree. -/
theorem pan_ran (l : List Nat) (hb : Byt l) : endS (panS ⟨l, 0⟩).1 = endS (anS ⟨l, 0⟩).1 ∧ (endS (anS ⟨l, 0⟩).1 = 0 → (panS ⟨l, 0⟩).2 = ranA ⟨l, 0⟩) := by
  obtain ⟨s, hs⟩ : ∃ s : Sx, s = ⟨l, 0⟩ := ⟨_, rfl⟩
  have hbs : Byt s.l := by rw [hs]; exact hb
  rw [← hs]
  clear hs
  obtain ⟨⟨s1, la⟩, e1⟩ : ∃ T, takeS s 1 = T := ⟨_, rfl⟩
  obtain ⟨⟨s2, x1⟩, e2⟩ : ∃ T, numS .pr s1 0 = T := ⟨_, rfl⟩
  obtain ⟨⟨s3, x2⟩, e3⟩ : ∃ T, numS .pr s2 0 = T := ⟨_, rfl⟩
  obtain ⟨⟨s4, x3⟩, e4⟩ : ∃ T, numS .pr s3 0 = T := ⟨_, rfl⟩
  obtain ⟨⟨s5, lf⟩, e5⟩ : ∃ T, takeS s4 1 = T := ⟨_, rfl⟩
  obtain ⟨⟨s6, lt⟩, e6⟩ : ∃ T, recS s5 65 = T := ⟨_, rfl⟩
  have hb1 : Byt s1.l := by have := takeS_rest s 1 hbs; rw [e1] at this; exact this
  have hb2 : Byt s2.l := by have := takeS_rest s1 8 hb1; rw [show (takeS s1 8).1 = s2 from congrArg Prod.fst e2] at this; exact this
  have hb3 : Byt s3.l := by have := takeS_rest s2 8 hb2; rw [show (takeS s2 8).1 = s3 from congrArg Prod.fst e3] at this; exact this
  have hb4 : Byt s4.l := by have := takeS_rest s3 8 hb3; rw [show (takeS s3 8).1 = s4 from congrArg Prod.fst e4] at this; exact this
  have hb5 : Byt s5.l := by have := takeS_rest s4 1 hb4; rw [e5] at this; exact this
  have h2 : an2 s = (s1, ((la.headD 0 : Nat) : Int)) := by
    show ((takeS s 1).1, (((takeS s 1).2.headD 0 : Nat) : Int)) = _
    rw [e1]
  have h3 : an3 s = (s4, [x1, x2, x3]) := by
    unfold an3
    rw [h2]
    show numsS .pr s1 [0, 0, 0] = _
    simp only [numsS, e2, e3, e4]
  have h4 : an4 s = (if lf.headD 0 > 1 then refuseS s5 11 else s5, lf.headD 0 == 1) := by
    unfold an4
    rw [h3]
    show (if (takeS s4 1).2.headD 0 > 1 then refuseS (takeS s4 1).1 11 else (takeS s4 1).1, (takeS s4 1).2.headD 0 == 1) = _
    rw [e5]
  obtain ⟨f, hf⟩ : ∃ f, lf.headD 0 = f := ⟨_, rfl⟩
  rw [hf] at h4
  unfold panS
  simp only [e1, e2, e3, e4, e5, e6, hf]
  by_cases f0 : f = 0
  · subst f0
    rw [if_pos rfl]
    have hA : anS s = (s5, ⟨0, ((la.headD 0 : Nat) : Int), [x1, x2, x3], ByteArray.empty, List.replicate 8 0⟩) := by
      unfold anS
      rw [h4, h2, h3]
      rfl
    unfold ranA
    rw [hA]
    exact ⟨rfl, fun _ => rfl⟩
  · rw [if_neg f0]
    by_cases f1 : f = 1
    · subst f1
      rw [if_pos rfl]
      have hr := rec_ti 8 s5 hb5
      rw [show 1 + 8 * 8 = 65 from rfl, e6] at hr
      dsimp only at hr
      have h4' : an4 s = (s5, true) := by rw [h4]; rfl
      obtain ⟨⟨t5, nm, xs⟩, ht⟩ : ∃ T, tiS .pr s5 ByteArray.empty (List.replicate 8 0) = T := ⟨_, rfl⟩
      have h5 : an5 s = (t5, nm, xs) := by
        unfold an5
        rw [h4']
        exact ht
      rw [ht] at hr
      dsimp only at hr
      obtain ⟨r1, r2⟩ := hr
      have hA : anS s = (if xs.headD 0 = 0 then refuseS t5 11 else t5, ⟨0, ((la.headD 0 : Nat) : Int), [x1, x2, x3], nm, xs⟩) := by
        unfold anS
        rw [h4', h5, h2, h3]
        rfl
      unfold ranA
      rw [hA]
      generalize parsedTi 8 lt = pt at *
      obtain ⟨pe, pnm, pxs⟩ := pt
      dsimp only
      by_cases hz : s6.e = 0
      · obtain ⟨q1, q2⟩ := r2 hz
        injection q2 with q2 q3
        injection q3 with q3 q4
        subst q1 q3 q4
        exact ⟨rfl, fun _ => rfl⟩
      · have ht5 : t5.e ≠ 0 := by rw [r1]; exact hz
        rw [refuse_keep hz, ite_self, end_e hz, refuse_keep ht5, ite_self, end_e ht5]
        exact ⟨r1.symm, fun k => absurd k ht5⟩
    · rw [if_neg f1]
      have hA : anS s = (refuseS s5 11, ⟨0, ((la.headD 0 : Nat) : Int), [x1, x2, x3], ByteArray.empty, List.replicate 8 0⟩) := by
        unfold anS
        have hg : f > 1 := by omega
        have hn : (f == 1) = false := by rw [beq_eq_false_iff_ne]; exact f1
        rw [h4, h2, h3, if_pos hg, hn]
        rfl
      unfold ranA
      rw [hA]
      exact ⟨rfl, fun _ => rfl⟩

theorem num_front (x : Int) (hx : I64 x) (r : List Nat) : numS .pr ⟨be8 x ++ r, 0⟩ 0 = (⟨r, 0⟩, x) := by
  show ((takeS ⟨be8 x ++ r, 0⟩ 8).1, i64of (beNum (takeS ⟨be8 x ++ r, 0⟩ 8).2)) = _
  rw [takeS_front (be8 x) r 8 (be8_length x)]
  show (_, i64of (beNum (be8 x))) = _
  rw [i64of_be8 x hx.1 hx.2]

/-- What was written is read as it was. -/
theorem pan_back (a : Aw) (ha : a.Ok) (hn : a.Nums) (hz : a.z1 = 0 → a.nm = ByteArray.empty ∧ a.z2 = 0 ∧ a.z3 = 0 ∧ a.z4 = 0 ∧ a.z5 = 0 ∧ a.z6 = 0 ∧ a.z7 = 0 ∧ a.z8 = 0) : panS ⟨awB a, 0⟩ = (⟨[], 0⟩, a) := by
  obtain ⟨er, l1, l2, l3, nm, z1, z2, z3, z4, z5, z6, z7, z8⟩ := a
  obtain ⟨ha1, ha2, ha3⟩ := ha
  unfold Aw.Nums at hn
  dsimp only at ha1 ha2 ha3 hn hz
  obtain ⟨n, rfl⟩ : ∃ n : Nat, er = (n : Int) := ⟨er.toNat, by omega⟩
  have i1 : I64 l1 := hn l1 (by simp)
  have i2 : I64 l2 := hn l2 (by simp)
  have i3 : I64 l3 := hn l3 (by simp)
  obtain ⟨r, hr⟩ : ∃ r, (if z1 = 0 then [0] else [1] ++ tiB nm [z1, z2, z3, z4, z5, z6, z7, z8]) = r := ⟨_, rfl⟩
  have hB : awB ⟨(n : Int), l1, l2, l3, nm, z1, z2, z3, z4, z5, z6, z7, z8⟩ = [n] ++ (be8 l1 ++ (be8 l2 ++ (be8 l3 ++ r))) := by
    unfold awB ansBy
    show [n] ++ [l1, l2, l3].flatMap be8 ++ (if z1 = 0 then [0] else [1] ++ tiB nm [z1, z2, z3, z4, z5, z6, z7, z8]) = _
    rw [hr]
    simp
  rw [hB]
  unfold panS
  simp only [takeS_front [n] _ 1 rfl, num_front l1 i1, num_front l2 i2, num_front l3 i3]
  by_cases h0 : z1 = 0
  · obtain ⟨rfl, rfl, rfl, rfl, rfl, rfl, rfl, rfl⟩ := hz h0
    subst h0
    rw [if_pos rfl] at hr
    subst hr
    rfl
  · rw [if_neg h0] at hr
    subst hr
    have hrec : recS ⟨tiB nm [z1, z2, z3, z4, z5, z6, z7, z8], 0⟩ 65 = (⟨[], 0⟩, tiB nm [z1, z2, z3, z4, z5, z6, z7, z8]) := by
      unfold recS
      have h1 := takeS_front (tiB nm [z1, z2, z3, z4, z5, z6, z7, z8]) [] (65 + (tiB nm [z1, z2, z3, z4, z5, z6, z7, z8]).headD 0) (by
        show _ = 65 + nm.size
        unfold tiB
        rw [List.length_append, List.length_append, natBytes_length, flat8_length, List.length_singleton]
        show 1 + nm.size + 8 * 8 = _
        omega)
      rw [List.append_nil] at h1
      exact h1
    have hpb := parsed_back nm [z1, z2, z3, z4, z5, z6, z7, z8] 8 rfl (fun x hx => hn x (by simp only [List.mem_cons, List.not_mem_nil, or_false] at hx ⊢; rcases hx with h | h | h | h | h | h | h | h <;> simp [h]))
    simp only [takeS_front [1] (tiB nm [z1, z2, z3, z4, z5, z6, z7, z8]) 1 rfl, hrec, hpb]
    rw [if_neg (show ¬ ([1] : List Nat).headD 0 = 0 by decide), if_pos (show ([1] : List Nat).headD 0 = 1 from rfl), if_neg (show ¬ [z1, z2, z3, z4, z5, z6, z7, z8].headD 0 = 0 from h0)]
    rfl

theorem end_el {s : Sx} (h : endS s = 0) : s.e = 0 ∧ s.l = [] := by
  unfold endS at h
  split at h
  · exact ⟨h, by assumption⟩
  · unfold refuseS at h
    split at h
    · cases h
    · exact absurd h (by assumption)

/-- What can be read was written so. -/
theorem ran_wb (l : List Nat) (hb : Byt l) (h : endS (anS ⟨l, 0⟩).1 = 0) : awB (ranA ⟨l, 0⟩) = l ∧ (ranA ⟨l, 0⟩).Ok := by
  obtain ⟨h1, h2⟩ := end_el h
  obtain ⟨_, h3, ⟨h4, h5⟩, h6⟩ := wb_an ⟨l, 0⟩ hb h1
  rw [h2, List.append_nil] at h3
  refine ⟨?_, h4, h5, h6⟩
  have h7 : l = anB (anS ⟨l, 0⟩).2 := h3
  refine Eq.trans ?_ h7.symm
  obtain ⟨n1, n2⟩ := an_lens ⟨l, 0⟩
  unfold awB ranA anB ansBy intsB
  generalize (anS ⟨l, 0⟩).2 = d at *
  obtain ⟨id, er, dl, nm, xs⟩ := d
  dsimp only at n1 n2 ⊢
  match dl, xs, n1, n2 with
  | [a, b, c], [x1, x2, x3, x4, x5, x6, x7, x8], _, _ => rfl

end Go.Proofs.Ytmmbckchaklhaaa
