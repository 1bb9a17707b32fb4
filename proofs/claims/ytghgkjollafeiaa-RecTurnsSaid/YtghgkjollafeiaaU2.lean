/-
  What is read is written as it stood; the lines of RecTurns that draw.
-/
import Derived.Test.YtghgkjollafeiaaU1
import Derived.Test.YtghgkjollafeiaaAD
namespace Go.Proofs.Ytghgkjollafeiaa
open Go.RowKit

def Byt (l : List Nat) : Prop := ∀ x ∈ l, x < 256
theorem Byt.right {a b : List Nat} (h : Byt (a ++ b)) : Byt b := fun x hx => h x (List.mem_append_right _ hx)
theorem Byt.left {a b : List Nat} (h : Byt (a ++ b)) : Byt a := fun x hx => h x (List.mem_append_left _ hx)
theorem beNum_inj : ∀ (n : Nat) (l m : List Nat), l.length = n → m.length = n → Byt l → Byt m → beNum l = beNum m → l = m
  | 0, l, m, hl, hm, _, _, _ => by rw [List.eq_nil_of_length_eq_zero hl, List.eq_nil_of_length_eq_zero hm]
  | n + 1, l, m, hl, hm, bl, bm, h => by
    have nl : l ≠ [] := fun e => by rw [e] at hl; cases hl
    have nm : m ≠ [] := fun e => by rw [e] at hm; cases hm
    obtain ⟨l', x, rfl⟩ : ∃ l' x, l = l' ++ [x] := ⟨l.dropLast, l.getLast nl, (List.dropLast_concat_getLast nl).symm⟩
    obtain ⟨m', y, rfl⟩ : ∃ m' y, m = m' ++ [y] := ⟨m.dropLast, m.getLast nm, (List.dropLast_concat_getLast nm).symm⟩
    rw [beNum_snoc, beNum_snoc] at h
    have hx : x < 256 := bl x (by simp)
    have hy : y < 256 := bm y (by simp)
    have h1 : beNum l' = beNum m' := by omega
    have h2 : x = y := by omega
    rw [List.length_append, List.length_singleton] at hl hm
    rw [beNum_inj n l' m' (by omega) (by omega) bl.left bm.left h1, h2]
theorem be8_back (l : List Nat) (hl : l.length = 8) (hb : Byt l) : be8 (i64of (beNum l)) = l := by
  refine beNum_inj 8 _ _ (be8_length _) hl (be8_lt _) hb ?_
  have h1 := beNum_be8 (i64of (beNum l))
  have h2 := beNum_lt l hb
  rw [hl] at h2
  have h3 : i64of (beNum l) % 18446744073709551616 = (beNum l : Int) := by
    unfold i64of
    split <;> omega
  rw [h3] at h1
  exact Int.ofNat.inj h1
theorem nat_text (l : List Nat) (hb : Byt l) : natBytes (textOf l) = l := by
  unfold textOf natBytes
  rw [strOfNums_data, List.map_map, List.map_map]
  conv => rhs; rw [← List.map_id l]
  apply List.map_congr_left
  intro x hx
  have := hb x hx
  simp
  omega
theorem take_e {s : Sx} {n : Nat} (h : (takeS s n).1.e = 0) : s.e = 0 ∧ s.l = (takeS s n).2 ++ (takeS s n).1.l := by
  by_cases he : s.e = 0
  · refine ⟨he, ?_⟩
    unfold takeS at h ⊢
    rw [if_neg (by omega)] at h ⊢
    split at h
    · cases h
    · rename_i hn
      rw [if_neg hn]
      exact (List.take_append_drop n s.l).symm
  · rw [takeS_fault he] at h
    exact absurd h he

/-- What F reads, f writes; and it is such as P says. -/
def Wb {D : Type} (F : Sx → Sx × D) (f : D → List Nat) (P : D → Prop) : Prop := ∀ s, Byt s.l → (F s).1.e = 0 → s.e = 0 ∧ s.l = f (F s).2 ++ (F s).1.l ∧ P (F s).2
theorem wb_num : Wb (fun s => numS .pr s 0) be8 (fun _ => True) := fun s hb h => by
  obtain ⟨h1, h2⟩ := take_e (n := 8) h
  have hb8 : Byt (takeS s 8).2 := takeS_lt s 8 hb
  refine ⟨h1, ?_, trivial⟩
  show s.l = be8 (i64of (beNum (takeS s 8).2)) ++ (takeS s 8).1.l
  rw [be8_back _ (takeS_length s 8) hb8]
  exact h2
theorem one_list {l : List Nat} (h : l.length = 1) : [l.headD 0] = l := by
  match l, h with
  | [x], _ => rfl
theorem wb_count : Wb (fun s => countS .pr s 0) (fun k => [k]) (fun k => k < 256) := fun s hb h => by
  obtain ⟨h1, h2⟩ := take_e (n := 1) h
  refine ⟨h1, ?_, headD_lt (takeS_lt s 1 hb)⟩
  show s.l = [(takeS s 1).2.headD 0] ++ (takeS s 1).1.l
  rw [one_list (takeS_length s 1)]
  exact h2
theorem wb_text (z : ByteArray) : Wb (fun s => textS .pr s z) textB (fun t => t.size ≤ 255) := fun s hb h => by
  have e : textS .pr s z = ((takeS (countS .pr s 0).1 (countS .pr s 0).2).1, textOf (takeS (countS .pr s 0).1 (countS .pr s 0).2).2) := rfl
  dsimp only at h ⊢
  rw [e] at h ⊢
  dsimp only at h ⊢
  obtain ⟨h1, h2⟩ := take_e h
  obtain ⟨k1, k2, k3⟩ := wb_count s hb h1
  dsimp only at k2 k3
  have hb2 : Byt (countS .pr s 0).1.l := by rw [k2] at hb; exact hb.right
  have hb3 : Byt (takeS (countS .pr s 0).1 (countS .pr s 0).2).2 := takeS_lt _ _ hb2
  have hn := nat_text _ hb3
  have hs : (textOf (takeS (countS .pr s 0).1 (countS .pr s 0).2).2).size = (countS .pr s 0).2 := by
    rw [← natBytes_length, hn, takeS_length]
  refine ⟨k1, ?_, by rw [hs]; omega⟩
  unfold textB
  rw [hs, hn, List.append_assoc, ← h2]
  exact k2
theorem wb_nums : ∀ (l : List Int), Wb (fun s => numsS .pr s l) intsB (fun _ => True)
  | [] => fun s _ h => ⟨h, rfl, trivial⟩
  | x :: l => fun s hb h => by
    have e : numsS .pr s (x :: l) = ((numsS .pr (numS .pr s 0).1 l).1, (numS .pr s 0).2 :: (numsS .pr (numS .pr s 0).1 l).2) := rfl
    dsimp only at h ⊢
    rw [e] at h ⊢
    dsimp only at h ⊢
    have hne : (numS .pr s 0).1.e = 0 := Classical.byContradiction fun k => by rw [numsS_fault l k] at h; exact k h
    obtain ⟨k1, k2, _⟩ := wb_num s hb hne
    dsimp only at k2
    have hb2 : Byt (numS .pr s 0).1.l := by rw [k2] at hb; exact hb.right
    obtain ⟨_, m2, _⟩ := wb_nums l (numS .pr s 0).1 hb2 h
    dsimp only at m2
    refine ⟨k1, ?_, trivial⟩
    show s.l = be8 _ ++ intsB _ ++ _
    rw [List.append_assoc, ← m2]
    exact k2
theorem wb_many {D : Type} {F : Sx → Sx × D} {f : D → List Nat} {P : D → Prop} (hF : Wb F f P) (hS : Stick F) (n : Nat) : ∀ (s : Sx), Byt s.l → (manyS F n s).1.e = 0 → s.e = 0 ∧ s.l = (manyS F n s).2.flatMap f ++ (manyS F n s).1.l ∧ ∀ d ∈ (manyS F n s).2, P d := by
  induction n with
  | zero => exact fun s _ h => ⟨h, rfl, fun d hd => by cases hd⟩
  | succ n ih =>
    intro s hb h
    rw [manyS_succ] at h ⊢
    dsimp only at h ⊢
    have hst : (manyS F n s).1.e = 0 := Classical.byContradiction fun k => k ((hS _ k).symm.trans h)
    obtain ⟨k1, k2, k3⟩ := ih s hb hst
    have hb2 : Byt (manyS F n s).1.l := by rw [k2] at hb; exact hb.right
    obtain ⟨_, m2, m3⟩ := hF _ hb2 h
    refine ⟨k1, ?_, fun d hd => ?_⟩
    · rw [List.flatMap_append, List.append_assoc]
      simp only [List.flatMap_cons, List.flatMap_nil, List.append_nil]
      rw [← m2]
      exact k2
    · rcases List.mem_append.1 hd with hd | hd
      · exact k3 d hd
      · rw [List.mem_singleton.1 hd]
        exact m3
theorem wb_list {D : Type} {F : Sx → Sx × D} {f : D → List Nat} {P : D → Prop} (hF : Wb F f P) (hS : Stick F) : Wb (listS F) (listB f) (fun l => l.length ≤ 255 ∧ ∀ d ∈ l, P d) := fun s hb h => by
  unfold listS at h ⊢
  have hc : (countS .pr s 0).1.e = 0 := many_e hS h
  obtain ⟨k1, k2, k3⟩ := wb_count s hb hc
  dsimp only at k2 k3
  have hb2 : Byt (countS .pr s 0).1.l := by rw [k2] at hb; exact hb.right
  obtain ⟨_, m2, m3⟩ := wb_many hF hS _ _ hb2 h
  have hl := manyS_length F (countS .pr s 0).2 (countS .pr s 0).1
  refine ⟨k1, ?_, by rw [hl]; omega, m3⟩
  unfold listB
  rw [hl, List.append_assoc, ← m2]
  exact k2
theorem wb_hold : Wb FH holdBy (fun d => d.ps.length ≤ 255) := fun s hb h => by
  have h0 : (listS F2 (numS .pr s 0).1).1.e = 0 := Classical.byContradiction fun k => k ((nums_stick (nz 2) _ k).symm.trans h)
  have h1 : (numS .pr s 0).1.e = 0 := Classical.byContradiction fun k => k ((listS_stick (F := F2) _ k).symm.trans h0)
  obtain ⟨k1, k2, _⟩ := wb_num s hb h1
  dsimp only at k2
  have hb2 : Byt (numS .pr s 0).1.l := by rw [k2] at hb; exact hb.right
  obtain ⟨_, m2, m3, _⟩ := wb_list (F := F2) (wb_nums (nz 2)) F2_stick _ hb2 h0
  have hb3 : Byt (listS F2 (numS .pr s 0).1).1.l := by rw [m2] at hb2; exact hb2.right
  obtain ⟨_, r2, _⟩ := wb_nums (nz 2) _ hb3 h
  dsimp only at r2
  refine ⟨k1, ?_, m3⟩
  show s.l = be8 (numS .pr s 0).2 ++ listB intsB (listS F2 (numS .pr s 0).1).2 ++ intsB (numsS .pr (listS F2 (numS .pr s 0).1).1 (nz 2)).2 ++ (numsS .pr (listS F2 (numS .pr s 0).1).1 (nz 2)).1.l
  rw [List.append_assoc, ← r2, List.append_assoc, ← m2]
  exact k2
theorem wb_ti (k : Nat) : ∀ s, Byt s.l → (tiS .pr s ByteArray.empty (List.replicate k 0)).1.e = 0 → s.e = 0 ∧ s.l = tiB (tiS .pr s ByteArray.empty (List.replicate k 0)).2.1 (tiS .pr s ByteArray.empty (List.replicate k 0)).2.2 ++ (tiS .pr s ByteArray.empty (List.replicate k 0)).1.l ∧ (tiS .pr s ByteArray.empty (List.replicate k 0)).2.1.size ≤ 255 := fun s hb h => by
  have h1 := tiS_text h
  obtain ⟨k1, k2, k3⟩ := wb_text ByteArray.empty s hb h1
  dsimp only at k2 k3
  have hb2 : Byt (textS .pr s ByteArray.empty).1.l := by rw [k2] at hb; exact hb.right
  obtain ⟨_, m2, _⟩ := wb_nums (List.replicate k 0) _ hb2 h
  dsimp only at m2
  refine ⟨k1, ?_, k3⟩
  show s.l = textB (textS .pr s ByteArray.empty).2 ++ intsB (numsS .pr (textS .pr s ByteArray.empty).1 (List.replicate k 0)).2 ++ (numsS .pr (textS .pr s ByteArray.empty).1 (List.replicate k 0)).1.l
  rw [List.append_assoc, ← m2]
  exact k2
theorem refuse_e {s : Sx} {e : Nat} (h : (refuseS s e).e = 0) (he : e ≠ 0) : False := by
  unfold refuseS at h
  split at h
  · exact he h
  · rename_i k
    exact k h
/-- The bytes of an entry behind its id. -/
def anB (d : EntD) : List Nat := [d.er.toNat] ++ intsB d.l ++ (if d.xs.headD 0 = 0 then [0] else [1] ++ tiB d.nm d.xs)
theorem wb_an : Wb anS anB (fun d => (0 ≤ d.er ∧ d.er ≤ 255) ∧ d.nm.size ≤ 255) := fun s hb h => by
  have e2 : an2 s = ((countS .pr s 0).1, ((countS .pr s 0).2 : Int)) := rfl
  have e4 : an4 s = (if (countS .pr (an3 s).1 0).2 > 1 then refuseS (countS .pr (an3 s).1 0).1 11 else (countS .pr (an3 s).1 0).1, (countS .pr (an3 s).1 0).2 == 1) := rfl
  have e5 : an5 s = tiS .pr (an4 s).1 ByteArray.empty (List.replicate 8 0) := rfl
  have h4 : (an4 s).1.e = 0 := by
    unfold anS at h
    split at h
    · dsimp only at h
      split at h
      · exact (refuse_e h (by omega)).elim
      · rw [e5] at h
        exact (Classical.byContradiction fun k => by
          have h1 := tiS_text h
          exact k (text_e h1))
    · exact h
  have h4c : ¬ (countS .pr (an3 s).1 0).2 > 1 := fun k => by
    rw [e4, if_pos k] at h4
    exact refuse_e h4 (by omega)
  rw [if_neg h4c] at e4
  have h4e : (countS .pr (an3 s).1 0).1.e = 0 := by rw [e4] at h4; exact h4
  have h3 : (an3 s).1.e = 0 := count_e h4e
  have h2 : (an2 s).1.e = 0 := Classical.byContradiction fun k => k ((nums_stick (List.replicate 3 0) _ k).symm.trans h3)
  obtain ⟨k1, k2, k3⟩ := wb_count s hb (by rw [e2] at h2; exact h2)
  dsimp only at k2 k3
  have hb2 : Byt (an2 s).1.l := by rw [e2]; rw [k2] at hb; exact hb.right
  obtain ⟨_, m2, _⟩ := wb_nums (List.replicate 3 0) (an2 s).1 hb2 h3
  dsimp only at m2
  have m2' : (an2 s).1.l = intsB (an3 s).2 ++ (an3 s).1.l := m2
  have hb3 : Byt (an3 s).1.l := by rw [m2'] at hb2; exact hb2.right
  obtain ⟨_, r2, _⟩ := wb_count (an3 s).1 hb3 h4e
  dsimp only at r2
  have hb4 : Byt (an4 s).1.l := by rw [e4]; rw [r2] at hb3; exact hb3.right
  have hs : s.l = [(countS .pr s 0).2] ++ (intsB (an3 s).2 ++ ([(countS .pr (an3 s).1 0).2] ++ (an4 s).1.l)) := by
    rw [e4]
    dsimp only
    rw [← r2, ← m2', e2]
    exact k2
  have her : (an2 s).2 = ((countS .pr s 0).2 : Int) := by rw [e2]
  unfold anS at h ⊢
  by_cases hf : (an4 s).2 = true
  · rw [if_pos hf] at h ⊢
    dsimp only at h ⊢
    have hk : (countS .pr (an3 s).1 0).2 = 1 := by rw [e4] at hf; simpa using hf
    have hz : ¬ (an5 s).2.2.headD 0 = 0 := fun k => by
      rw [if_pos k] at h
      exact refuse_e h (by omega)
    rw [if_neg hz] at h ⊢
    rw [e5] at h
    obtain ⟨_, q2, q3⟩ := wb_ti 8 (an4 s).1 hb4 h
    rw [← e5] at q2 q3
    refine ⟨k1, ?_, by rw [her]; omega, q3⟩
    unfold anB
    dsimp only
    rw [if_neg hz, her, Int.toNat_natCast]
    rw [hs, hk, q2]
    simp only [List.append_assoc]
  · rw [if_neg hf] at h ⊢
    dsimp only at h ⊢
    have hk : (countS .pr (an3 s).1 0).2 = 0 := by
      rw [e4] at hf
      have : ¬ (countS .pr (an3 s).1 0).2 = 1 := fun k => hf (by simp [k])
      omega
    refine ⟨k1, ?_, by rw [her]; omega, by decide⟩
    unfold anB
    dsimp only
    rw [if_pos (by rfl), her, Int.toNat_natCast]
    rw [hs, hk]
    simp only [List.append_assoc]
theorem wb_ent : Wb FE entBy (fun d => EntOk d) := fun s hb h => by
  rw [ent_an] at h ⊢
  dsimp only at h ⊢
  have h1 : (numS .pr s 0).1.e = 0 := Classical.byContradiction fun k => k ((an_stick _ k).symm.trans h)
  obtain ⟨k1, k2, _⟩ := wb_num s hb h1
  dsimp only at k2
  have hb2 : Byt (numS .pr s 0).1.l := by rw [k2] at hb; exact hb.right
  obtain ⟨_, m2, m3, m4⟩ := wb_an _ hb2 h
  have hl := anS_len (numS .pr s 0).1
  refine ⟨k1, ?_, ⟨hl.1, hl.2, m3, m4⟩⟩
  have e : entBy { (anS (numS .pr s 0).1).2 with id := (numS .pr s 0).2 } = be8 (numS .pr s 0).2 ++ anB (anS (numS .pr s 0).1).2 := by
    unfold entBy anB
    simp only [List.append_assoc]
  rw [e, List.append_assoc, ← m2]
  exact k2
/-- An account that can be read is written as it stood. -/
theorem wb_acc (l : List Nat) (hb : Byt l) (hlen : l.length ≤ 500000000) (h : endS (FA ⟨l, 0⟩).1 = 0) : accBy (FA ⟨l, 0⟩).2 = l ∧ AccOk (FA ⟨l, 0⟩).2 := by
  obtain ⟨s0, hs0⟩ : ∃ s : Sx, s = ⟨l, 0⟩ := ⟨_, rfl⟩
  have hl0 : s0.l = l := by rw [hs0]
  rw [← hs0] at h ⊢
  have b0 : Byt s0.l := by rw [hl0]; exact hb
  clear hs0
  obtain ⟨⟨s1, nm1⟩, e1⟩ : ∃ T, textS .pr s0 ByteArray.empty = T := ⟨_, rfl⟩
  obtain ⟨⟨s2, key2⟩, e2⟩ : ∃ T, textS .pr s1 ByteArray.empty = T := ⟨_, rfl⟩
  obtain ⟨⟨s3, pn3, px3⟩, e3⟩ : ∃ T, tiS .pr s2 ByteArray.empty (List.replicate 9 0) = T := ⟨_, rfl⟩
  obtain ⟨⟨s4, tt⟩, e4⟩ : ∃ T, numsS .pr s3 (nz 3) = T := ⟨_, rfl⟩
  obtain ⟨⟨s5, l5⟩, e5⟩ : ∃ T, listS F9 s4 = T := ⟨_, rfl⟩
  obtain ⟨⟨s6, nn⟩, e6⟩ : ∃ T, numsS .pr s5 (nz 2) = T := ⟨_, rfl⟩
  obtain ⟨⟨s7, l7⟩, e7⟩ : ∃ T, listS FH s6 = T := ⟨_, rfl⟩
  obtain ⟨⟨s8, l8⟩, e8⟩ : ∃ T, listS FE s7 = T := ⟨_, rfl⟩
  have a1 : fa1 s0 = (s1, nm1) := e1
  have a2 : fa2 s0 = (s2, key2) := by unfold fa2; rw [a1]; exact e2
  have a3 : fa3 s0 = (s3, pn3, px3) := by unfold fa3; rw [a2]; exact e3
  have a4 : fa4 s0 = (s4, tt) := by unfold fa4; rw [a3]; exact e4
  have a5 : fa5 s0 = (s5, l5) := by unfold fa5; rw [a4]; exact e5
  have a6 : fa6 s0 = (s6, nn) := by unfold fa6; rw [a5]; exact e6
  have a7 : fa7 s0 = (s7, l7) := by unfold fa7; rw [a6]; exact e7
  have a8 : fa8 s0 = (s8, l8) := by unfold fa8; rw [a7]; exact e8
  have hFA : FA s0 = (s8, ⟨nm1, key2, pn3, px3, tt, l5, nn, l7, l8⟩) := by
    unfold FA
    rw [a1, a2, a3, a4, a5, a6, a7, a8]
  rw [hFA] at h ⊢
  dsimp only at h ⊢
  clear hFA a1 a2 a3 a4 a5 a6 a7 a8
  obtain ⟨k8, hnil⟩ : s8.e = 0 ∧ s8.l = [] := by
    unfold endS at h
    split at h
    · rename_i k
      exact ⟨h, k⟩
    · exact (refuse_e h (by omega)).elim
  have x8 : (listS FE s7).1.e = 0 := by rw [e8]; exact k8
  have k7 : s7.e = 0 := Classical.byContradiction fun k => k ((listS_stick (F := FE) _ k).symm.trans x8)
  have x7 : (listS FH s6).1.e = 0 := by rw [e7]; exact k7
  have k6 : s6.e = 0 := Classical.byContradiction fun k => k ((listS_stick (F := FH) _ k).symm.trans x7)
  have x6 : (numsS .pr s5 (nz 2)).1.e = 0 := by rw [e6]; exact k6
  have k5 : s5.e = 0 := Classical.byContradiction fun k => k ((nums_stick (nz 2) _ k).symm.trans x6)
  have x5 : (listS F9 s4).1.e = 0 := by rw [e5]; exact k5
  have k4 : s4.e = 0 := Classical.byContradiction fun k => k ((listS_stick (F := F9) _ k).symm.trans x5)
  have x4 : (numsS .pr s3 (nz 3)).1.e = 0 := by rw [e4]; exact k4
  have k3 : s3.e = 0 := Classical.byContradiction fun k => k ((nums_stick (nz 3) _ k).symm.trans x4)
  have x3 : (tiS .pr s2 ByteArray.empty (List.replicate 9 0)).1.e = 0 := by rw [e3]; exact k3
  have k2 : s2.e = 0 := text_e (tiS_text x3)
  have x2 : (textS .pr s1 ByteArray.empty).1.e = 0 := by rw [e2]; exact k2
  have k1 : s1.e = 0 := text_e x2
  have x1 : (textS .pr s0 ByteArray.empty).1.e = 0 := by rw [e1]; exact k1
  have c1 := wb_text ByteArray.empty s0 b0 x1
  dsimp only at c1
  rw [e1] at c1
  dsimp only at c1
  have b1 : Byt s1.l := by rw [c1.2.1] at b0; exact b0.right
  have c2 := wb_text ByteArray.empty s1 b1 x2
  dsimp only at c2
  rw [e2] at c2
  dsimp only at c2
  have b2 : Byt s2.l := by rw [c2.2.1] at b1; exact b1.right
  have c3 := wb_ti 9 s2 b2 x3
  rw [e3] at c3
  dsimp only at c3
  have b3 : Byt s3.l := by rw [c3.2.1] at b2; exact b2.right
  have c4 := wb_nums (nz 3) s3 b3 x4
  dsimp only at c4
  rw [e4] at c4
  dsimp only at c4
  have b4 : Byt s4.l := by rw [c4.2.1] at b3; exact b3.right
  have c5 := wb_list (F := F9) (wb_nums (nz 9)) F9_stick s4 b4 x5
  rw [e5] at c5
  dsimp only at c5
  have b5 : Byt s5.l := by rw [c5.2.1] at b4; exact b4.right
  have c6 := wb_nums (nz 2) s5 b5 x6
  dsimp only at c6
  rw [e6] at c6
  dsimp only at c6
  have b6 : Byt s6.l := by rw [c6.2.1] at b5; exact b5.right
  have c7 := wb_list wb_hold FH_stick s6 b6 x7
  rw [e7] at c7
  dsimp only at c7
  have b7 : Byt s7.l := by rw [c7.2.1] at b6; exact b6.right
  have c8 := wb_list wb_ent FE_stick s7 b7 x8
  rw [e8] at c8
  dsimp only at c8
  have hfin : accBy ⟨nm1, key2, pn3, px3, tt, l5, nn, l7, l8⟩ = l := by
    rw [← hl0, c1.2.1, c2.2.1, c3.2.1, c4.2.1, c5.2.1, c6.2.1, c7.2.1, c8.2.1, hnil]
    unfold accBy
    simp only [List.append_assoc, List.append_nil]
  exact ⟨hfin, ⟨c1.2.2, c2.2.2, c3.2.2, c5.2.2.1, c7.2.2.1, c7.2.2.2, c8.2.2.1, c8.2.2.2, by rw [hfin]; exact hlen⟩⟩
end Go.Proofs.Ytghgkjollafeiaa

/-
  RecTurns: the lines that compare.
-/
namespace Go.Proofs.Ytghgkjollafeiaa
open Go.RowKit

/-- The region of that number of RecTurns. -/
noncomputable def reg5 (n : Nat) : Code := match Try.f5.body with
  | some c => (regOf n c).getD .skip
  | none => .skip
theorem own_bytesAt {w : World} {base : Nat} {v : Option Addr} {n c : Nat} {l : List Nat} (h : w.ownsRow base 5 1 (.slice v n c) l.length (l.map byteCell)) : BytesAt w v l := by
  by_cases hl : 0 < l.length
  · obtain ⟨g, cap, e, _, _, _, hB, _⟩ := own_bytes h hl
    injection e with e1 e2 e3
    rw [e1]
    exact hB
  · exact .inl (List.eq_nil_of_length_eq_zero (by omega))

set_option maxRecDepth 100000 in
set_option maxHeartbeats 12800000 in
theorem reg5_22_ok (W : World) {g0 g1 g2 g3 g4 g5 g6 g7 g8 g9 g10 g11 g12 g13 g14 g16 g17 g22 g23 g24 g25 g26 g27 g28 g29 g30 g31 g32 g33 g34 g35 g36 g37 g38 g39 g40 g41 g42 g43 g44 g45 g46 g47 g48 g49 g50 g51 g52 g53 g54 g55 g56 g57 g58 g59 g60 g61 g62 g63 g64 g65 g66 g67 g68 g69 g70 g71 g72 g73 g74 g75 g76 g77 g78 g79 g80 g81 g82 g83 g84 g85 g86 g87 g88 g89 g90 g91 g92 g93 g94 g95 g96 g97 g98 g99 g100 g101 g102 g103 g104 g105 g106 g107 g108 g109 g110 g111 g112 g113 g114 g115 g116 g117 g118 g119 g120 g121 g122 g123 g124 g125 g126 g127 g128 g129 g130 g131 g132 g133 g134 g135 g136 g137 g138 g139 g140 g141 g142 g143 g144 g145 g146 g147 g148 g149 g150 g151 g152 g153 g154 g155 g156 g157 g158 g159 g160 g161 g162 g163 g164 g165 g166 g167 g168 g169 g170 g171 g172 g173 g174 g175 g176 g177 g178 g179 g180 g181 g182 g183 g184 g185 g186 g187 g188 g189 g190 g191 g192 g193 g194 g195 g196 g197 g198 g199 g200 g201 g202 g203 g204 g205 g206 g207 g208 g209 : Value} (cx cy : List Value) (bx bz capb : Nat) (ba : Option Addr) (LB : List Nat) (Q : Exit → Act → World → Prop)
    (lx : cx.length = 20) (ly : cy.length = 20)
    (HS : Hid (∀ w', Turn [] W w' → (convert 31 9 (.slice ba LB.length capb)).run Try.prog w' = .ok (.string (textOf LB)) w' ∧ w'.rangeAt bx 0 cx ∧ w'.rangeAt bz 0 cy))
    (HSM : Hid (∀ w', Turn [] W w' → Calls Try.prog 12 #[.agg cx.toArray, .agg cy.toArray] w' fun e w'' => e = .returned (.bool true) ∧ Turn [] w' w''))
    (HEN : Hid (∀ w', Turn [] W w' → Calls Try.prog 9 #[.agg cx.toArray] w' fun e w'' => ∃ v, e = .returned v ∧ Out w' w'' v LB))
    (hQ : ∀ (t125 t126 t127 t128 t129 t130 t131 t132 t133 t134 t135 t136 t137 t138 t139 t140 t141 t142 t143 t144 : Value) w', Turn [] W w' → Q .normal ⟨#[g0, g1, g2, g3, g4, g5, g6, g7, g8, g9, g10, g11, g12, g13, g14, .slice ba LB.length capb, g16, g17, .pointer (some ⟨bx, 0, none⟩), .int .i64 0, .pointer (some ⟨bz, 0, none⟩), .int .i64 0, g22, g23, g24, g25, g26, g27, g28, g29, g30, g31, g32, g33, g34, g35, g36, g37, g38, g39, g40, g41, g42, g43, g44, g45, g46, g47, g48, g49, g50, g51, g52, g53, g54, g55, g56, g57, g58, g59, g60, g61, g62, g63, g64, g65, g66, g67, g68, g69, g70, g71, g72, g73, g74, g75, g76, g77, g78, g79, g80, g81, g82, g83, g84, g85, g86, g87, g88, g89, g90, g91, g92, g93, g94, g95, g96, g97, g98, g99, g100, g101, g102, g103, g104, g105, g106, g107, g108, g109, g110, g111, g112, g113, g114, g115, g116, g117, g118, g119, g120, g121, g122, g123, g124, t125, t126, t127, t128, t129, t130, t131, t132, t133, t134, t135, t136, t137, t138, t139, t140, t141, t142, t143, t144, .bool false, g146, g147, g148, g149, g150, g151, g152, g153, g154, g155, g156, g157, g158, g159, g160, g161, g162, g163, g164, g165, g166, g167, g168, g169, g170, g171, g172, g173, g174, g175, g176, g177, g178, g179, g180, g181, g182, g183, g184, g185, g186, g187, g188, g189, g190, g191, g192, g193, g194, g195, g196, g197, g198, g199, g200, g201, g202, g203, g204, g205, g206, g207, g208, g209], []⟩ w') :
    Code.wp Try.prog (reg5 22) Q ⟨#[g0, g1, g2, g3, g4, g5, g6, g7, g8, g9, g10, g11, g12, g13, g14, .slice ba LB.length capb, g16, g17, .pointer (some ⟨bx, 0, none⟩), .int .i64 0, .pointer (some ⟨bz, 0, none⟩), .int .i64 0, g22, g23, g24, g25, g26, g27, g28, g29, g30, g31, g32, g33, g34, g35, g36, g37, g38, g39, g40, g41, g42, g43, g44, g45, g46, g47, g48, g49, g50, g51, g52, g53, g54, g55, g56, g57, g58, g59, g60, g61, g62, g63, g64, g65, g66, g67, g68, g69, g70, g71, g72, g73, g74, g75, g76, g77, g78, g79, g80, g81, g82, g83, g84, g85, g86, g87, g88, g89, g90, g91, g92, g93, g94, g95, g96, g97, g98, g99, g100, g101, g102, g103, g104, g105, g106, g107, g108, g109, g110, g111, g112, g113, g114, g115, g116, g117, g118, g119, g120, g121, g122, g123, g124, g125, g126, g127, g128, g129, g130, g131, g132, g133, g134, g135, g136, g137, g138, g139, g140, g141, g142, g143, g144, g145, g146, g147, g148, g149, g150, g151, g152, g153, g154, g155, g156, g157, g158, g159, g160, g161, g162, g163, g164, g165, g166, g167, g168, g169, g170, g171, g172, g173, g174, g175, g176, g177, g178, g179, g180, g181, g182, g183, g184, g185, g186, g187, g188, g189, g190, g191, g192, g193, g194, g195, g196, g197, g198, g199, g200, g201, g202, g203, g204, g205, g206, g207, g208, g209], []⟩ W := by
  conv => arg 2; whnf
  dsimp only
  have HQ := hide hQ
  obtain ⟨hi0, dt, hu, hd⟩ := sz28
  have ix : (Try.prog.info? 28).map (·.size) = some cx.length := by rw [hi0, lx]
  have iy : (Try.prog.info? 28).map (·.size) = some cy.length := by rw [hi0, ly]
  have HT0 : Hid (Turn [] W W.drew) := (Turn.refl [] W).drew

  clear hQ lx ly hi0
  generalize hcx : cx.toArray = X at *
  generalize hcy : cy.toArray = Y at *
  have HCx := hide hcx
  have HCy := hide hcy
  clear hcx hcy
  refine wp_region_noPanic ?_
  refine wp_region_held_drew (S := fun w' => (convert 31 9 (.slice ba LB.length capb)).run Try.prog w' = .ok (.string (textOf LB)) w' ∧ w'.rangeAt bx 0 cx ∧ w'.rangeAt bz 0 cy) (by kernel_rfl) (HS.out _ HT0.out) (fun hHeld => ?_)
  refine' wpAnyH_take (i := 0) (oi := { dst := some 125, op := Go.Op.move (Go.Operand.tmp 19), type := 33, pos := "law.go:103", after := #[], guard := none }) (v := _) rfl (by kernel_rfl) (by kernel_rfl) (by kernel_rfl) (fun _ _ _ h => h) (Or.inl ⟨by rfl, ?_⟩) (by assumption) ?_
  rotate_left
  · intro w hSw; (try dsimp only at hSw); go_simp <;> with_reducible rfl
  simp only [Act.put, List.setIfInBounds_toArray, List.set_cons_zero, List.set_cons_succ]
  refine' wpAnyH_take (i := 1) (oi := { dst := some 126, op := Go.Op.move (Go.Operand.tmp 21), type := 3, pos := "law.go:103", after := #[], guard := none }) (v := _) rfl (by kernel_rfl) (by kernel_rfl) (by kernel_rfl) (fun _ _ _ h => h) (Or.inl ⟨by rfl, ?_⟩) (by assumption) ?_
  rotate_left
  · intro w hSw; (try dsimp only at hSw); go_simp <;> with_reducible rfl
  simp only [Act.put, List.setIfInBounds_toArray, List.set_cons_zero, List.set_cons_succ]
  refine' wpAnyH_take (i := 2) (oi := { dst := some 127, op := Go.Op.binOp Go.BinOp.neq 3 (Go.Operand.tmp 125) (Go.Operand.tmp 126) 3, type := 4, pos := "law.go:103", after := #[{ on := 0, ground := Go.Ground.data }, { on := 1, ground := Go.Ground.data }], guard := none }) (v := _) rfl (by kernel_rfl) (by kernel_rfl) (by kernel_rfl) (fun _ _ _ h => h) (Or.inl ⟨by rfl, ?_⟩) (by assumption) ?_
  rotate_left
  · intro w hSw; (try dsimp only at hSw); go_simp <;> with_reducible rfl
  simp only [Act.put, List.setIfInBounds_toArray, List.set_cons_zero, List.set_cons_succ]
  refine' wpAnyH_take (i := 3) (oi := { dst := some 128, op := Go.Op.move (Go.Operand.tmp 127), type := 4, pos := "law.go:103", after := #[{ on := 2, ground := Go.Ground.data }], guard := none }) (v := _) rfl (by kernel_rfl) (by kernel_rfl) (by kernel_rfl) (fun _ _ _ h => h) (Or.inl ⟨by rfl, ?_⟩) (by assumption) ?_
  rotate_left
  · intro w hSw; (try dsimp only at hSw); go_simp <;> with_reducible rfl
  simp only [Act.put, List.setIfInBounds_toArray, List.set_cons_zero, List.set_cons_succ]
  refine' wpAnyH_take (i := 4) (oi := { dst := some 129, op := Go.Op.load 28 (Go.Operand.tmp 18), type := 28, pos := "law.go:103", after := #[{ on := 3, ground := Go.Ground.guard }], guard := some (3, false) }) (v := .agg X) rfl (by kernel_rfl) (by kernel_rfl) (by kernel_rfl) (fun _ _ _ h => h) (by rw [← HCx.out]; exact yieldsIf_load_mid (by rfl) _ _ rfl _ _ rfl _ _ (fun w hw => hw.2.1) hu hd ix) (by assumption) ?_
  simp only [Act.put, List.setIfInBounds_toArray, List.set_cons_zero, List.set_cons_succ]
  refine' wpAnyH_take (i := 5) (oi := { dst := some 130, op := Go.Op.load 28 (Go.Operand.tmp 20), type := 28, pos := "law.go:103", after := #[{ on := 3, ground := Go.Ground.guard }], guard := some (3, false) }) (v := .agg Y) rfl (by kernel_rfl) (by kernel_rfl) (by kernel_rfl) (fun _ _ _ h => h) (by rw [← HCy.out]; exact yieldsIf_load_mid (by rfl) _ _ rfl _ _ rfl _ _ (fun w hw => hw.2.2) hu hd iy) (by assumption) ?_
  simp only [Act.put, List.setIfInBounds_toArray, List.set_cons_zero, List.set_cons_succ]
  refine wpAnyH_ready (rs := [6]) (by kernel_rfl) (by simp) ?_
  refine AllReadyH.cons rfl (fun K hK => ?_) AllReadyH.nil
  go_simp
  go_wp2_with (first | (go_at_call 12; (with_reducible refine (HSM.out _ HT0.out).mono ?_); rintro e q1 ⟨rfl, hT⟩; have HT1 : Hid (Turn [] W q1) := HT0.out.trans hT; clear hT) | fail)
  refine hK.out _ _ ?_ (fun hHeld => ?_)
  · exact HS.out _ HT1.out
  clear hK K
  try simp only [Act.put, List.setIfInBounds_toArray, List.set_cons_zero, List.set_cons_succ]
  refine' wpAnyH_take (i := 7) (oi := { dst := some 132, op := Go.Op.unOp Go.UnOp.not 4 (Go.Operand.tmp 131), type := 4, pos := "law.go:103", after := #[{ on := 6, ground := Go.Ground.data }, { on := 3, ground := Go.Ground.guard }], guard := some (3, false) }) (v := _) rfl (by kernel_rfl) (by kernel_rfl) (by kernel_rfl) (fun _ _ _ h => h) (Or.inl ⟨by rfl, ?_⟩) (by assumption) ?_
  rotate_left
  · intro w hSw; (try dsimp only at hSw); go_simp <;> with_reducible rfl
  simp only [Act.put, List.setIfInBounds_toArray, List.set_cons_zero, List.set_cons_succ]
  refine' wpAnyH_take (i := 8) (oi := { dst := some 133, op := Go.Op.pick (Go.Operand.tmp 128) (Go.Operand.const (Go.Value.bool true)) (Go.Operand.tmp 132), type := 4, pos := "law.go:103", after := #[{ on := 3, ground := Go.Ground.data }, { on := 7, ground := Go.Ground.data }], guard := none }) (v := _) rfl (by kernel_rfl) (by kernel_rfl) (by kernel_rfl) (fun _ _ _ h => h) (Or.inl ⟨by rfl, ?_⟩) (by assumption) ?_
  rotate_left
  · intro w hSw; (try dsimp only at hSw); go_simp <;> with_reducible rfl
  simp only [Act.put, List.setIfInBounds_toArray, List.set_cons_zero, List.set_cons_succ]
  refine' wpAnyH_take (i := 9) (oi := { dst := some 134, op := Go.Op.move (Go.Operand.tmp 133), type := 4, pos := "law.go:103", after := #[{ on := 8, ground := Go.Ground.data }, { on := 6, ground := Go.Ground.chain }], guard := none }) (v := _) rfl (by kernel_rfl) (by kernel_rfl) (by kernel_rfl) (fun _ _ _ h => h) (Or.inl ⟨by rfl, ?_⟩) (by assumption) ?_
  rotate_left
  · intro w hSw; (try dsimp only at hSw); go_simp <;> with_reducible rfl
  simp only [Act.put, List.setIfInBounds_toArray, List.set_cons_zero, List.set_cons_succ]
  refine' wpAnyH_take (i := 10) (oi := { dst := some 135, op := Go.Op.move (Go.Operand.tmp 21), type := 3, pos := "law.go:103", after := #[{ on := 9, ground := Go.Ground.guard }], guard := some (9, false) }) (v := _) rfl (by kernel_rfl) (by kernel_rfl) (by kernel_rfl) (fun _ _ _ h => h) (Or.inl ⟨by rfl, ?_⟩) (by assumption) ?_
  rotate_left
  · intro w hSw; (try dsimp only at hSw); go_simp <;> with_reducible rfl
  simp only [Act.put, List.setIfInBounds_toArray, List.set_cons_zero, List.set_cons_succ]
  refine' wpAnyH_take (i := 11) (oi := { dst := some 136, op := Go.Op.binOp Go.BinOp.eql 3 (Go.Operand.tmp 135) (Go.Operand.const (Go.Value.int Go.IntKind.i64 0)) 3, type := 4, pos := "law.go:103", after := #[{ on := 10, ground := Go.Ground.data }, { on := 9, ground := Go.Ground.guard }], guard := some (9, false) }) (v := _) rfl (by kernel_rfl) (by kernel_rfl) (by kernel_rfl) (fun _ _ _ h => h) (Or.inl ⟨by rfl, ?_⟩) (by assumption) ?_
  rotate_left
  · intro w hSw; (try dsimp only at hSw); go_simp <;> with_reducible rfl
  simp only [Act.put, List.setIfInBounds_toArray, List.set_cons_zero, List.set_cons_succ]
  refine' wpAnyH_take (i := 12) (oi := { dst := some 137, op := Go.Op.move (Go.Operand.tmp 136), type := 4, pos := "law.go:103", after := #[{ on := 11, ground := Go.Ground.data }, { on := 9, ground := Go.Ground.chain }, { on := 9, ground := Go.Ground.guard }], guard := some (9, false) }) (v := _) rfl (by kernel_rfl) (by kernel_rfl) (by kernel_rfl) (fun _ _ _ h => h) (Or.inl ⟨by rfl, ?_⟩) (by assumption) ?_
  rotate_left
  · intro w hSw; (try dsimp only at hSw); go_simp <;> with_reducible rfl
  simp only [Act.put, List.setIfInBounds_toArray, List.set_cons_zero, List.set_cons_succ]
  refine' wpAnyH_take (i := 13) (oi := { dst := some 138, op := Go.Op.load 28 (Go.Operand.tmp 18), type := 28, pos := "law.go:103", after := #[{ on := 12, ground := Go.Ground.guard }], guard := some (12, true) }) (v := .agg X) rfl (by kernel_rfl) (by kernel_rfl) (by kernel_rfl) (fun _ _ _ h => h) (by rw [← HCx.out]; exact yieldsIf_load_mid (by rfl) _ _ rfl _ _ rfl _ _ (fun w hw => hw.2.1) hu hd ix) (by assumption) ?_
  simp only [Act.put, List.setIfInBounds_toArray, List.set_cons_zero, List.set_cons_succ]
  refine' wpAnyH_take (i := 16) (oi := { dst := some 141, op := Go.Op.move (Go.Operand.tmp 15), type := 31, pos := "law.go:103", after := #[{ on := 12, ground := Go.Ground.guard }], guard := some (12, true) }) (v := _) rfl (by kernel_rfl) (by kernel_rfl) (by kernel_rfl) (fun _ _ _ h => h) (Or.inl ⟨by rfl, ?_⟩) (by assumption) ?_
  rotate_left
  · intro w hSw; (try dsimp only at hSw); go_simp <;> with_reducible rfl
  simp only [Act.put, List.setIfInBounds_toArray, List.set_cons_zero, List.set_cons_succ]
  refine' wpAnyH_take (i := 17) (oi := { dst := some 142, op := Go.Op.convert 31 9 (Go.Operand.tmp 141), type := 9, pos := "law.go:103", after := #[{ on := 16, ground := Go.Ground.data }, { on := 12, ground := Go.Ground.guard }], guard := some (12, true) }) (v := _) rfl (by kernel_rfl) (by kernel_rfl) (by kernel_rfl) (fun _ _ _ h => h) (Or.inl ⟨by rfl, ?_⟩) (by assumption) ?_
  rotate_left
  · intro w hSw; (try dsimp only at hSw); go_simp <;> with_reducible rfl
  simp only [Act.put, List.setIfInBounds_toArray, List.set_cons_zero, List.set_cons_succ]
  refine wpAnyH_ready (rs := [14]) (by kernel_rfl) (by simp) ?_
  refine AllReadyH.cons rfl (fun K hK => ?_) AllReadyH.nil
  go_simp
  go_wp2_with (first | (go_at_call 9; (with_reducible refine (HEN.out _ HT1.out).mono ?_); rintro e q2 ⟨v2, rfl, hO⟩; have HT2 : Hid (Turn [] W q2) := HT1.out.trans hO.old; obtain ⟨va7, vc7, rfl⟩ := own_form hO.own; have hcr7 := text_at (own_bytesAt hO.own) LB.length vc7 rfl; clear hO) | fail)
  refine hK.out _ _ ?_ (fun hHeld => ?_)
  · exact HS.out _ HT2.out
  clear hK K
  try simp only [Act.put, List.setIfInBounds_toArray, List.set_cons_zero, List.set_cons_succ]
  refine wpAnyH_ready (rs := [15]) (by kernel_rfl) (by simp) ?_
  refine AllReadyH.cons rfl (fun K hK => ?_) AllReadyH.nil
  go_simp
  go_wp2_with fail
  refine hK.out _ _ ?_ (fun hHeld => ?_)
  · exact HS.out _ HT2.out
  clear hK K hcr7
  try simp only [Act.put, List.setIfInBounds_toArray, List.set_cons_zero, List.set_cons_succ]
  refine' wpAnyH_take (i := 18) (oi := { dst := some 143, op := Go.Op.binOp Go.BinOp.neq 9 (Go.Operand.tmp 140) (Go.Operand.tmp 142) 9, type := 4, pos := "law.go:103", after := #[{ on := 15, ground := Go.Ground.data }, { on := 17, ground := Go.Ground.data }, { on := 12, ground := Go.Ground.guard }], guard := some (12, true) }) (v := _) rfl (by kernel_rfl) (by kernel_rfl) (by kernel_rfl) (fun _ _ _ h => h) (Or.inl ⟨by rfl, ?_⟩) (by assumption) ?_
  rotate_left
  · intro w hSw; (try dsimp only at hSw); go_simp <;> with_reducible rfl
  simp only [Act.put, List.setIfInBounds_toArray, List.set_cons_zero, List.set_cons_succ]
  refine' wpAnyH_take (i := 19) (oi := { dst := some 144, op := Go.Op.pick (Go.Operand.tmp 137) (Go.Operand.tmp 143) (Go.Operand.const (Go.Value.bool false)), type := 4, pos := "law.go:103", after := #[{ on := 12, ground := Go.Ground.data }, { on := 18, ground := Go.Ground.data }, { on := 9, ground := Go.Ground.guard }], guard := some (9, false) }) (v := _) rfl (by kernel_rfl) (by kernel_rfl) (by kernel_rfl) (fun _ _ _ h => h) (Or.inl ⟨by rfl, ?_⟩) (by assumption) ?_
  rotate_left
  · intro w hSw; (try dsimp only at hSw); go_simp <;> with_reducible rfl
  simp only [Act.put, List.setIfInBounds_toArray, List.set_cons_zero, List.set_cons_succ]
  refine' wpAnyH_take (i := 20) (oi := { dst := some 145, op := Go.Op.pick (Go.Operand.tmp 134) (Go.Operand.const (Go.Value.bool true)) (Go.Operand.tmp 144), type := 4, pos := "law.go:103", after := #[{ on := 9, ground := Go.Ground.data }, { on := 19, ground := Go.Ground.data }], guard := none }) (v := _) rfl (by kernel_rfl) (by kernel_rfl) (by kernel_rfl) (fun _ _ _ h => h) (Or.inl ⟨by rfl, ?_⟩) (by assumption) ?_
  rotate_left
  · intro w hSw; (try dsimp only at hSw); go_simp <;> with_reducible rfl
  simp only [Act.put, List.setIfInBounds_toArray, List.set_cons_zero, List.set_cons_succ]
  refine wpAnyH_done (by kernel_rfl) ?_ _
  refine NoPanic.normal ?_
  exact HQ.out _ _ _ _ _ _ _ _ _ _ _ _ _ _ _ _ _ _ _ _ _ HT2.out

set_option maxRecDepth 100000 in
set_option maxHeartbeats 12800000 in
theorem reg5_22_bad (W : World) {g0 g1 g2 g3 g4 g5 g6 g7 g8 g9 g10 g11 g12 g13 g14 g16 g17 g22 g23 g24 g25 g26 g27 g28 g29 g30 g31 g32 g33 g34 g35 g36 g37 g38 g39 g40 g41 g42 g43 g44 g45 g46 g47 g48 g49 g50 g51 g52 g53 g54 g55 g56 g57 g58 g59 g60 g61 g62 g63 g64 g65 g66 g67 g68 g69 g70 g71 g72 g73 g74 g75 g76 g77 g78 g79 g80 g81 g82 g83 g84 g85 g86 g87 g88 g89 g90 g91 g92 g93 g94 g95 g96 g97 g98 g99 g100 g101 g102 g103 g104 g105 g106 g107 g108 g109 g110 g111 g112 g113 g114 g115 g116 g117 g118 g119 g120 g121 g122 g123 g124 g125 g126 g127 g128 g129 g130 g131 g132 g133 g134 g135 g136 g137 g138 g139 g140 g141 g142 g143 g144 g145 g146 g147 g148 g149 g150 g151 g152 g153 g154 g155 g156 g157 g158 g159 g160 g161 g162 g163 g164 g165 g166 g167 g168 g169 g170 g171 g172 g173 g174 g175 g176 g177 g178 g179 g180 g181 g182 g183 g184 g185 g186 g187 g188 g189 g190 g191 g192 g193 g194 g195 g196 g197 g198 g199 g200 g201 g202 g203 g204 g205 g206 g207 g208 g209 : Value} (cx cy : List Value) (bx bz capb f : Nat) (ba : Option Addr) (LB : List Nat) (Q : Exit → Act → World → Prop)
    (lx : cx.length = 20) (ly : cy.length = 20) (hf : ¬ f = 0)
    (HS : Hid (∀ w', Turn [] W w' → (convert 31 9 (.slice ba LB.length capb)).run Try.prog w' = .ok (.string (textOf LB)) w' ∧ w'.rangeAt bx 0 cx ∧ w'.rangeAt bz 0 cy))
    (HSM : Hid (∀ w', Turn [] W w' → Calls Try.prog 12 #[.agg cx.toArray, .agg cy.toArray] w' fun e w'' => e = .returned (.bool true) ∧ Turn [] w' w''))
    (hQ : ∀ (t125 t126 t127 t128 t129 t130 t131 t132 t133 t134 t135 t136 t137 t138 t139 t140 t141 t142 t143 t144 : Value) w', Turn [] W w' → Q .normal ⟨#[g0, g1, g2, g3, g4, g5, g6, g7, g8, g9, g10, g11, g12, g13, g14, .slice ba LB.length capb, g16, g17, .pointer (some ⟨bx, 0, none⟩), .int .i64 (f : Nat), .pointer (some ⟨bz, 0, none⟩), .int .i64 (f : Nat), g22, g23, g24, g25, g26, g27, g28, g29, g30, g31, g32, g33, g34, g35, g36, g37, g38, g39, g40, g41, g42, g43, g44, g45, g46, g47, g48, g49, g50, g51, g52, g53, g54, g55, g56, g57, g58, g59, g60, g61, g62, g63, g64, g65, g66, g67, g68, g69, g70, g71, g72, g73, g74, g75, g76, g77, g78, g79, g80, g81, g82, g83, g84, g85, g86, g87, g88, g89, g90, g91, g92, g93, g94, g95, g96, g97, g98, g99, g100, g101, g102, g103, g104, g105, g106, g107, g108, g109, g110, g111, g112, g113, g114, g115, g116, g117, g118, g119, g120, g121, g122, g123, g124, t125, t126, t127, t128, t129, t130, t131, t132, t133, t134, t135, t136, t137, t138, t139, t140, t141, t142, t143, t144, .bool false, g146, g147, g148, g149, g150, g151, g152, g153, g154, g155, g156, g157, g158, g159, g160, g161, g162, g163, g164, g165, g166, g167, g168, g169, g170, g171, g172, g173, g174, g175, g176, g177, g178, g179, g180, g181, g182, g183, g184, g185, g186, g187, g188, g189, g190, g191, g192, g193, g194, g195, g196, g197, g198, g199, g200, g201, g202, g203, g204, g205, g206, g207, g208, g209], []⟩ w') :
    Code.wp Try.prog (reg5 22) Q ⟨#[g0, g1, g2, g3, g4, g5, g6, g7, g8, g9, g10, g11, g12, g13, g14, .slice ba LB.length capb, g16, g17, .pointer (some ⟨bx, 0, none⟩), .int .i64 (f : Nat), .pointer (some ⟨bz, 0, none⟩), .int .i64 (f : Nat), g22, g23, g24, g25, g26, g27, g28, g29, g30, g31, g32, g33, g34, g35, g36, g37, g38, g39, g40, g41, g42, g43, g44, g45, g46, g47, g48, g49, g50, g51, g52, g53, g54, g55, g56, g57, g58, g59, g60, g61, g62, g63, g64, g65, g66, g67, g68, g69, g70, g71, g72, g73, g74, g75, g76, g77, g78, g79, g80, g81, g82, g83, g84, g85, g86, g87, g88, g89, g90, g91, g92, g93, g94, g95, g96, g97, g98, g99, g100, g101, g102, g103, g104, g105, g106, g107, g108, g109, g110, g111, g112, g113, g114, g115, g116, g117, g118, g119, g120, g121, g122, g123, g124, g125, g126, g127, g128, g129, g130, g131, g132, g133, g134, g135, g136, g137, g138, g139, g140, g141, g142, g143, g144, g145, g146, g147, g148, g149, g150, g151, g152, g153, g154, g155, g156, g157, g158, g159, g160, g161, g162, g163, g164, g165, g166, g167, g168, g169, g170, g171, g172, g173, g174, g175, g176, g177, g178, g179, g180, g181, g182, g183, g184, g185, g186, g187, g188, g189, g190, g191, g192, g193, g194, g195, g196, g197, g198, g199, g200, g201, g202, g203, g204, g205, g206, g207, g208, g209], []⟩ W := by
  conv => arg 2; whnf
  dsimp only
  have HQ := hide hQ
  obtain ⟨hi0, dt, hu, hd⟩ := sz28
  have ix : (Try.prog.info? 28).map (·.size) = some cx.length := by rw [hi0, lx]
  have iy : (Try.prog.info? 28).map (·.size) = some cy.length := by rw [hi0, ly]
  have HT0 : Hid (Turn [] W W.drew) := (Turn.refl [] W).drew
  have hfn : ¬ ((f : Nat) : Int) = 0 := fun k => hf (Int.ofNat.inj k)
  clear hQ lx ly hi0
  generalize hcx : cx.toArray = X at *
  generalize hcy : cy.toArray = Y at *
  have HCx := hide hcx
  have HCy := hide hcy
  clear hcx hcy
  refine wp_region_noPanic ?_
  refine wp_region_held_drew (S := fun w' => (convert 31 9 (.slice ba LB.length capb)).run Try.prog w' = .ok (.string (textOf LB)) w' ∧ w'.rangeAt bx 0 cx ∧ w'.rangeAt bz 0 cy) (by kernel_rfl) (HS.out _ HT0.out) (fun hHeld => ?_)
  refine' wpAnyH_take (i := 0) (oi := { dst := some 125, op := Go.Op.move (Go.Operand.tmp 19), type := 33, pos := "law.go:103", after := #[], guard := none }) (v := _) rfl (by kernel_rfl) (by kernel_rfl) (by kernel_rfl) (fun _ _ _ h => h) (Or.inl ⟨by rfl, ?_⟩) (by assumption) ?_
  rotate_left
  · intro w hSw; (try dsimp only at hSw); go_simp <;> with_reducible rfl
  simp only [Act.put, List.setIfInBounds_toArray, List.set_cons_zero, List.set_cons_succ]
  refine' wpAnyH_take (i := 1) (oi := { dst := some 126, op := Go.Op.move (Go.Operand.tmp 21), type := 3, pos := "law.go:103", after := #[], guard := none }) (v := _) rfl (by kernel_rfl) (by kernel_rfl) (by kernel_rfl) (fun _ _ _ h => h) (Or.inl ⟨by rfl, ?_⟩) (by assumption) ?_
  rotate_left
  · intro w hSw; (try dsimp only at hSw); go_simp <;> with_reducible rfl
  simp only [Act.put, List.setIfInBounds_toArray, List.set_cons_zero, List.set_cons_succ]
  refine' wpAnyH_take (i := 2) (oi := { dst := some 127, op := Go.Op.binOp Go.BinOp.neq 3 (Go.Operand.tmp 125) (Go.Operand.tmp 126) 3, type := 4, pos := "law.go:103", after := #[{ on := 0, ground := Go.Ground.data }, { on := 1, ground := Go.Ground.data }], guard := none }) (v := _) rfl (by kernel_rfl) (by kernel_rfl) (by kernel_rfl) (fun _ _ _ h => h) (Or.inl ⟨by rfl, ?_⟩) (by assumption) ?_
  rotate_left
  · intro w hSw; (try dsimp only at hSw); go_simp <;> with_reducible rfl
  simp only [Act.put, List.setIfInBounds_toArray, List.set_cons_zero, List.set_cons_succ]
  refine' wpAnyH_take (i := 3) (oi := { dst := some 128, op := Go.Op.move (Go.Operand.tmp 127), type := 4, pos := "law.go:103", after := #[{ on := 2, ground := Go.Ground.data }], guard := none }) (v := _) rfl (by kernel_rfl) (by kernel_rfl) (by kernel_rfl) (fun _ _ _ h => h) (Or.inl ⟨by rfl, ?_⟩) (by assumption) ?_
  rotate_left
  · intro w hSw; (try dsimp only at hSw); go_simp <;> with_reducible rfl
  simp only [Act.put, List.setIfInBounds_toArray, List.set_cons_zero, List.set_cons_succ]
  refine' wpAnyH_take (i := 4) (oi := { dst := some 129, op := Go.Op.load 28 (Go.Operand.tmp 18), type := 28, pos := "law.go:103", after := #[{ on := 3, ground := Go.Ground.guard }], guard := some (3, false) }) (v := .agg X) rfl (by kernel_rfl) (by kernel_rfl) (by kernel_rfl) (fun _ _ _ h => h) (by rw [← HCx.out]; exact yieldsIf_load_mid (by rfl) _ _ rfl _ _ rfl _ _ (fun w hw => hw.2.1) hu hd ix) (by assumption) ?_
  simp only [Act.put, List.setIfInBounds_toArray, List.set_cons_zero, List.set_cons_succ]
  refine' wpAnyH_take (i := 5) (oi := { dst := some 130, op := Go.Op.load 28 (Go.Operand.tmp 20), type := 28, pos := "law.go:103", after := #[{ on := 3, ground := Go.Ground.guard }], guard := some (3, false) }) (v := .agg Y) rfl (by kernel_rfl) (by kernel_rfl) (by kernel_rfl) (fun _ _ _ h => h) (by rw [← HCy.out]; exact yieldsIf_load_mid (by rfl) _ _ rfl _ _ rfl _ _ (fun w hw => hw.2.2) hu hd iy) (by assumption) ?_
  simp only [Act.put, List.setIfInBounds_toArray, List.set_cons_zero, List.set_cons_succ]
  refine wpAnyH_ready (rs := [6]) (by kernel_rfl) (by simp) ?_
  refine AllReadyH.cons rfl (fun K hK => ?_) AllReadyH.nil
  go_simp
  go_wp2_with (first | (go_at_call 12; (with_reducible refine (HSM.out _ HT0.out).mono ?_); rintro e q1 ⟨rfl, hT⟩; have HT1 : Hid (Turn [] W q1) := HT0.out.trans hT; clear hT) | fail)
  refine hK.out _ _ ?_ (fun hHeld => ?_)
  · exact HS.out _ HT1.out
  clear hK K
  try simp only [Act.put, List.setIfInBounds_toArray, List.set_cons_zero, List.set_cons_succ]
  refine' wpAnyH_take (i := 7) (oi := { dst := some 132, op := Go.Op.unOp Go.UnOp.not 4 (Go.Operand.tmp 131), type := 4, pos := "law.go:103", after := #[{ on := 6, ground := Go.Ground.data }, { on := 3, ground := Go.Ground.guard }], guard := some (3, false) }) (v := _) rfl (by kernel_rfl) (by kernel_rfl) (by kernel_rfl) (fun _ _ _ h => h) (Or.inl ⟨by rfl, ?_⟩) (by assumption) ?_
  rotate_left
  · intro w hSw; (try dsimp only at hSw); go_simp <;> with_reducible rfl
  simp only [Act.put, List.setIfInBounds_toArray, List.set_cons_zero, List.set_cons_succ]
  refine' wpAnyH_take (i := 8) (oi := { dst := some 133, op := Go.Op.pick (Go.Operand.tmp 128) (Go.Operand.const (Go.Value.bool true)) (Go.Operand.tmp 132), type := 4, pos := "law.go:103", after := #[{ on := 3, ground := Go.Ground.data }, { on := 7, ground := Go.Ground.data }], guard := none }) (v := _) rfl (by kernel_rfl) (by kernel_rfl) (by kernel_rfl) (fun _ _ _ h => h) (Or.inl ⟨by rfl, ?_⟩) (by assumption) ?_
  rotate_left
  · intro w hSw; (try dsimp only at hSw); go_simp <;> with_reducible rfl
  simp only [Act.put, List.setIfInBounds_toArray, List.set_cons_zero, List.set_cons_succ]
  refine' wpAnyH_take (i := 9) (oi := { dst := some 134, op := Go.Op.move (Go.Operand.tmp 133), type := 4, pos := "law.go:103", after := #[{ on := 8, ground := Go.Ground.data }, { on := 6, ground := Go.Ground.chain }], guard := none }) (v := _) rfl (by kernel_rfl) (by kernel_rfl) (by kernel_rfl) (fun _ _ _ h => h) (Or.inl ⟨by rfl, ?_⟩) (by assumption) ?_
  rotate_left
  · intro w hSw; (try dsimp only at hSw); go_simp <;> with_reducible rfl
  simp only [Act.put, List.setIfInBounds_toArray, List.set_cons_zero, List.set_cons_succ]
  refine' wpAnyH_take (i := 10) (oi := { dst := some 135, op := Go.Op.move (Go.Operand.tmp 21), type := 3, pos := "law.go:103", after := #[{ on := 9, ground := Go.Ground.guard }], guard := some (9, false) }) (v := _) rfl (by kernel_rfl) (by kernel_rfl) (by kernel_rfl) (fun _ _ _ h => h) (Or.inl ⟨by rfl, ?_⟩) (by assumption) ?_
  rotate_left
  · intro w hSw; (try dsimp only at hSw); go_simp <;> with_reducible rfl
  simp only [Act.put, List.setIfInBounds_toArray, List.set_cons_zero, List.set_cons_succ]
  refine' wpAnyH_take (i := 11) (oi := { dst := some 136, op := Go.Op.binOp Go.BinOp.eql 3 (Go.Operand.tmp 135) (Go.Operand.const (Go.Value.int Go.IntKind.i64 0)) 3, type := 4, pos := "law.go:103", after := #[{ on := 10, ground := Go.Ground.data }, { on := 9, ground := Go.Ground.guard }], guard := some (9, false) }) (v := .bool false) rfl (by kernel_rfl) (by kernel_rfl) (by kernel_rfl) (fun _ _ _ h => h) (Or.inl ⟨by rfl, ?_⟩) (by assumption) ?_
  · intro w hSw; (try dsimp only at hSw); go_simp <;> first | with_reducible rfl | (simp [hfn]; done)
  simp only [Act.put, List.setIfInBounds_toArray, List.set_cons_zero, List.set_cons_succ]
  refine' wpAnyH_take (i := 12) (oi := { dst := some 137, op := Go.Op.move (Go.Operand.tmp 136), type := 4, pos := "law.go:103", after := #[{ on := 11, ground := Go.Ground.data }, { on := 9, ground := Go.Ground.chain }, { on := 9, ground := Go.Ground.guard }], guard := some (9, false) }) (v := _) rfl (by kernel_rfl) (by kernel_rfl) (by kernel_rfl) (fun _ _ _ h => h) (Or.inl ⟨by rfl, ?_⟩) (by assumption) ?_
  rotate_left
  · intro w hSw; (try dsimp only at hSw); go_simp <;> with_reducible rfl
  simp only [Act.put, List.setIfInBounds_toArray, List.set_cons_zero, List.set_cons_succ]
  refine wpAnyH_take (i := 13) (oi := { dst := some 138, op := Go.Op.load 28 (Go.Operand.tmp 18), type := 28, pos := "law.go:103", after := #[{ on := 12, ground := Go.Ground.guard }], guard := some (12, true) }) (v := undef) rfl (by kernel_rfl) (by kernel_rfl) (by kernel_rfl) (fun _ _ _ h => h) (Or.inr ⟨by rfl, rfl⟩) (by assumption) ?_
  simp only [Act.put, List.setIfInBounds_toArray, List.set_cons_zero, List.set_cons_succ]
  refine wpAnyH_take (i := 14) (oi := { dst := some 139, op := Go.Op.call { callee := Go.Callee.value (Go.Operand.func 9), args := #[Go.Operand.tmp 138], argTypes := #[28] }, type := 31, pos := "law.go:103", after := #[{ on := 13, ground := Go.Ground.data }, { on := 12, ground := Go.Ground.chain }, { on := 12, ground := Go.Ground.guard }], guard := some (12, true) }) (v := undef) rfl (by kernel_rfl) (by kernel_rfl) (by kernel_rfl) (fun _ _ _ h => h) (Or.inr ⟨by rfl, rfl⟩) (by assumption) ?_
  simp only [Act.put, List.setIfInBounds_toArray, List.set_cons_zero, List.set_cons_succ]
  refine wpAnyH_take (i := 15) (oi := { dst := some 140, op := Go.Op.convert 31 9 (Go.Operand.tmp 139), type := 9, pos := "law.go:103", after := #[{ on := 14, ground := Go.Ground.data }, { on := 12, ground := Go.Ground.guard }], guard := some (12, true) }) (v := undef) rfl (by kernel_rfl) (by kernel_rfl) (by kernel_rfl) (fun _ _ _ h => h) (Or.inr ⟨by rfl, rfl⟩) (by assumption) ?_
  simp only [Act.put, List.setIfInBounds_toArray, List.set_cons_zero, List.set_cons_succ]
  refine wpAnyH_take (i := 16) (oi := { dst := some 141, op := Go.Op.move (Go.Operand.tmp 15), type := 31, pos := "law.go:103", after := #[{ on := 12, ground := Go.Ground.guard }], guard := some (12, true) }) (v := undef) rfl (by kernel_rfl) (by kernel_rfl) (by kernel_rfl) (fun _ _ _ h => h) (Or.inr ⟨by rfl, rfl⟩) (by assumption) ?_
  simp only [Act.put, List.setIfInBounds_toArray, List.set_cons_zero, List.set_cons_succ]
  refine wpAnyH_take (i := 17) (oi := { dst := some 142, op := Go.Op.convert 31 9 (Go.Operand.tmp 141), type := 9, pos := "law.go:103", after := #[{ on := 16, ground := Go.Ground.data }, { on := 12, ground := Go.Ground.guard }], guard := some (12, true) }) (v := undef) rfl (by kernel_rfl) (by kernel_rfl) (by kernel_rfl) (fun _ _ _ h => h) (Or.inr ⟨by rfl, rfl⟩) (by assumption) ?_
  simp only [Act.put, List.setIfInBounds_toArray, List.set_cons_zero, List.set_cons_succ]
  refine wpAnyH_take (i := 18) (oi := { dst := some 143, op := Go.Op.binOp Go.BinOp.neq 9 (Go.Operand.tmp 140) (Go.Operand.tmp 142) 9, type := 4, pos := "law.go:103", after := #[{ on := 15, ground := Go.Ground.data }, { on := 17, ground := Go.Ground.data }, { on := 12, ground := Go.Ground.guard }], guard := some (12, true) }) (v := undef) rfl (by kernel_rfl) (by kernel_rfl) (by kernel_rfl) (fun _ _ _ h => h) (Or.inr ⟨by rfl, rfl⟩) (by assumption) ?_
  simp only [Act.put, List.setIfInBounds_toArray, List.set_cons_zero, List.set_cons_succ]
  refine' wpAnyH_take (i := 19) (oi := { dst := some 144, op := Go.Op.pick (Go.Operand.tmp 137) (Go.Operand.tmp 143) (Go.Operand.const (Go.Value.bool false)), type := 4, pos := "law.go:103", after := #[{ on := 12, ground := Go.Ground.data }, { on := 18, ground := Go.Ground.data }, { on := 9, ground := Go.Ground.guard }], guard := some (9, false) }) (v := _) rfl (by kernel_rfl) (by kernel_rfl) (by kernel_rfl) (fun _ _ _ h => h) (Or.inl ⟨by rfl, ?_⟩) (by assumption) ?_
  rotate_left
  · intro w hSw; (try dsimp only at hSw); go_simp <;> with_reducible rfl
  simp only [Act.put, List.setIfInBounds_toArray, List.set_cons_zero, List.set_cons_succ]
  refine' wpAnyH_take (i := 20) (oi := { dst := some 145, op := Go.Op.pick (Go.Operand.tmp 134) (Go.Operand.const (Go.Value.bool true)) (Go.Operand.tmp 144), type := 4, pos := "law.go:103", after := #[{ on := 9, ground := Go.Ground.data }, { on := 19, ground := Go.Ground.data }], guard := none }) (v := _) rfl (by kernel_rfl) (by kernel_rfl) (by kernel_rfl) (fun _ _ _ h => h) (Or.inl ⟨by rfl, ?_⟩) (by assumption) ?_
  rotate_left
  · intro w hSw; (try dsimp only at hSw); go_simp <;> with_reducible rfl
  simp only [Act.put, List.setIfInBounds_toArray, List.set_cons_zero, List.set_cons_succ]
  refine wpAnyH_done (by kernel_rfl) ?_ _
  refine NoPanic.normal ?_
  exact HQ.out _ _ _ _ _ _ _ _ _ _ _ _ _ _ _ _ _ _ _ _ _ HT1.out

set_option maxRecDepth 100000 in
set_option maxHeartbeats 12800000 in
theorem reg5_27_ok (W : World) {g0 g1 g2 g3 g4 g5 g6 g7 g8 g9 g10 g11 g12 g13 g14 g16 g17 g18 g19 g20 g21 g26 g27 g28 g29 g30 g31 g32 g33 g34 g35 g36 g37 g38 g39 g40 g41 g42 g43 g44 g45 g46 g47 g48 g49 g50 g51 g52 g53 g54 g55 g56 g57 g58 g59 g60 g61 g62 g63 g64 g65 g66 g67 g68 g69 g70 g71 g72 g73 g74 g75 g76 g77 g78 g79 g80 g81 g82 g83 g84 g85 g86 g87 g88 g89 g90 g91 g92 g93 g94 g95 g96 g97 g98 g99 g100 g101 g102 g103 g104 g105 g106 g107 g108 g109 g110 g111 g112 g113 g114 g115 g116 g117 g118 g119 g120 g121 g122 g123 g124 g125 g126 g127 g128 g129 g130 g131 g132 g133 g134 g135 g136 g137 g138 g139 g140 g141 g142 g143 g144 g145 g146 g147 g148 g149 g150 g151 g152 g153 g154 g155 g156 g157 g158 g159 g160 g161 g162 g163 g164 g165 g166 g167 g168 g169 g170 g171 g172 g173 g174 g175 g176 g177 g178 g179 g180 g181 g182 g183 g184 g185 g186 g187 g188 g189 g190 g191 g192 g193 g194 g195 g196 g197 g198 g199 g200 g201 g202 g203 g204 g205 g206 g207 g208 g209 : Value} (cx cy : List Value) (bx bz capb : Nat) (ba : Option Addr) (LB : List Nat) (Q : Exit → Act → World → Prop)
    (lx : cx.length = 10) (ly : cy.length = 10)
    (HS : Hid (∀ w', Turn [] W w' → (convert 31 9 (.slice ba LB.length capb)).run Try.prog w' = .ok (.string (textOf LB)) w' ∧ w'.rangeAt bx 0 cx ∧ w'.rangeAt bz 0 cy))
    (HSM : ∀ w', (binOp .neq 23 (.agg cx.toArray) (.agg cy.toArray)).run Try.prog w' = .ok (.bool false) w')
    (HEN : Hid (∀ w', Turn [] W w' → Calls Try.prog 15 #[.agg cx.toArray] w' fun e w'' => ∃ v, e = .returned v ∧ Out w' w'' v LB))
    (hQ : ∀ (t158 t159 t160 t161 t162 t163 t164 t165 t166 t167 t168 t169 t170 t171 t172 t173 t174 t175 t176 : Value) w', Turn [] W w' → Q .normal ⟨#[g0, g1, g2, g3, g4, g5, g6, g7, g8, g9, g10, g11, g12, g13, g14, .slice ba LB.length capb, g16, g17, g18, g19, g20, g21, .pointer (some ⟨bx, 0, none⟩), .int .i64 0, .pointer (some ⟨bz, 0, none⟩), .int .i64 0, g26, g27, g28, g29, g30, g31, g32, g33, g34, g35, g36, g37, g38, g39, g40, g41, g42, g43, g44, g45, g46, g47, g48, g49, g50, g51, g52, g53, g54, g55, g56, g57, g58, g59, g60, g61, g62, g63, g64, g65, g66, g67, g68, g69, g70, g71, g72, g73, g74, g75, g76, g77, g78, g79, g80, g81, g82, g83, g84, g85, g86, g87, g88, g89, g90, g91, g92, g93, g94, g95, g96, g97, g98, g99, g100, g101, g102, g103, g104, g105, g106, g107, g108, g109, g110, g111, g112, g113, g114, g115, g116, g117, g118, g119, g120, g121, g122, g123, g124, g125, g126, g127, g128, g129, g130, g131, g132, g133, g134, g135, g136, g137, g138, g139, g140, g141, g142, g143, g144, g145, g146, g147, g148, g149, g150, g151, g152, g153, g154, g155, g156, g157, t158, t159, t160, t161, t162, t163, t164, t165, t166, t167, t168, t169, t170, t171, t172, t173, t174, t175, t176, .bool false, g178, g179, g180, g181, g182, g183, g184, g185, g186, g187, g188, g189, g190, g191, g192, g193, g194, g195, g196, g197, g198, g199, g200, g201, g202, g203, g204, g205, g206, g207, g208, g209], []⟩ w') :
    Code.wp Try.prog (reg5 27) Q ⟨#[g0, g1, g2, g3, g4, g5, g6, g7, g8, g9, g10, g11, g12, g13, g14, .slice ba LB.length capb, g16, g17, g18, g19, g20, g21, .pointer (some ⟨bx, 0, none⟩), .int .i64 0, .pointer (some ⟨bz, 0, none⟩), .int .i64 0, g26, g27, g28, g29, g30, g31, g32, g33, g34, g35, g36, g37, g38, g39, g40, g41, g42, g43, g44, g45, g46, g47, g48, g49, g50, g51, g52, g53, g54, g55, g56, g57, g58, g59, g60, g61, g62, g63, g64, g65, g66, g67, g68, g69, g70, g71, g72, g73, g74, g75, g76, g77, g78, g79, g80, g81, g82, g83, g84, g85, g86, g87, g88, g89, g90, g91, g92, g93, g94, g95, g96, g97, g98, g99, g100, g101, g102, g103, g104, g105, g106, g107, g108, g109, g110, g111, g112, g113, g114, g115, g116, g117, g118, g119, g120, g121, g122, g123, g124, g125, g126, g127, g128, g129, g130, g131, g132, g133, g134, g135, g136, g137, g138, g139, g140, g141, g142, g143, g144, g145, g146, g147, g148, g149, g150, g151, g152, g153, g154, g155, g156, g157, g158, g159, g160, g161, g162, g163, g164, g165, g166, g167, g168, g169, g170, g171, g172, g173, g174, g175, g176, g177, g178, g179, g180, g181, g182, g183, g184, g185, g186, g187, g188, g189, g190, g191, g192, g193, g194, g195, g196, g197, g198, g199, g200, g201, g202, g203, g204, g205, g206, g207, g208, g209], []⟩ W := by
  conv => arg 2; whnf
  dsimp only
  have HQ := hide hQ
  obtain ⟨hi0, dt, hu, hd⟩ := sz23
  have ix : (Try.prog.info? 23).map (·.size) = some cx.length := by rw [hi0, lx]
  have iy : (Try.prog.info? 23).map (·.size) = some cy.length := by rw [hi0, ly]
  have HT0 : Hid (Turn [] W W.drew) := (Turn.refl [] W).drew

  clear hQ lx ly hi0
  generalize hcx : cx.toArray = X at *
  generalize hcy : cy.toArray = Y at *
  have HCx := hide hcx
  have HCy := hide hcy
  clear hcx hcy
  refine wp_region_noPanic ?_
  refine wp_region_held_drew (S := fun w' => (convert 31 9 (.slice ba LB.length capb)).run Try.prog w' = .ok (.string (textOf LB)) w' ∧ w'.rangeAt bx 0 cx ∧ w'.rangeAt bz 0 cy) (by kernel_rfl) (HS.out _ HT0.out) (fun hHeld => ?_)
  refine' wpAnyH_take (i := 0) (oi := { dst := some 158, op := Go.Op.move (Go.Operand.tmp 23), type := 33, pos := "law.go:109", after := #[], guard := none }) (v := _) rfl (by kernel_rfl) (by kernel_rfl) (by kernel_rfl) (fun _ _ _ h => h) (Or.inl ⟨by rfl, ?_⟩) (by assumption) ?_
  rotate_left
  · intro w hSw; (try dsimp only at hSw); go_simp <;> with_reducible rfl
  simp only [Act.put, List.setIfInBounds_toArray, List.set_cons_zero, List.set_cons_succ]
  refine' wpAnyH_take (i := 1) (oi := { dst := some 159, op := Go.Op.move (Go.Operand.tmp 25), type := 3, pos := "law.go:109", after := #[], guard := none }) (v := _) rfl (by kernel_rfl) (by kernel_rfl) (by kernel_rfl) (fun _ _ _ h => h) (Or.inl ⟨by rfl, ?_⟩) (by assumption) ?_
  rotate_left
  · intro w hSw; (try dsimp only at hSw); go_simp <;> with_reducible rfl
  simp only [Act.put, List.setIfInBounds_toArray, List.set_cons_zero, List.set_cons_succ]
  refine' wpAnyH_take (i := 2) (oi := { dst := some 160, op := Go.Op.binOp Go.BinOp.neq 3 (Go.Operand.tmp 158) (Go.Operand.tmp 159) 3, type := 4, pos := "law.go:109", after := #[{ on := 0, ground := Go.Ground.data }, { on := 1, ground := Go.Ground.data }], guard := none }) (v := _) rfl (by kernel_rfl) (by kernel_rfl) (by kernel_rfl) (fun _ _ _ h => h) (Or.inl ⟨by rfl, ?_⟩) (by assumption) ?_
  rotate_left
  · intro w hSw; (try dsimp only at hSw); go_simp <;> with_reducible rfl
  simp only [Act.put, List.setIfInBounds_toArray, List.set_cons_zero, List.set_cons_succ]
  refine' wpAnyH_take (i := 3) (oi := { dst := some 161, op := Go.Op.move (Go.Operand.tmp 160), type := 4, pos := "law.go:109", after := #[{ on := 2, ground := Go.Ground.data }], guard := none }) (v := _) rfl (by kernel_rfl) (by kernel_rfl) (by kernel_rfl) (fun _ _ _ h => h) (Or.inl ⟨by rfl, ?_⟩) (by assumption) ?_
  rotate_left
  · intro w hSw; (try dsimp only at hSw); go_simp <;> with_reducible rfl
  simp only [Act.put, List.setIfInBounds_toArray, List.set_cons_zero, List.set_cons_succ]
  refine' wpAnyH_take (i := 4) (oi := { dst := some 162, op := Go.Op.load 23 (Go.Operand.tmp 22), type := 23, pos := "law.go:109", after := #[{ on := 3, ground := Go.Ground.guard }], guard := some (3, false) }) (v := .agg X) rfl (by kernel_rfl) (by kernel_rfl) (by kernel_rfl) (fun _ _ _ h => h) (by rw [← HCx.out]; exact yieldsIf_load_mid (by rfl) _ _ rfl _ _ rfl _ _ (fun w hw => hw.2.1) hu hd ix) (by assumption) ?_
  simp only [Act.put, List.setIfInBounds_toArray, List.set_cons_zero, List.set_cons_succ]
  refine' wpAnyH_take (i := 5) (oi := { dst := some 163, op := Go.Op.load 23 (Go.Operand.tmp 24), type := 23, pos := "law.go:109", after := #[{ on := 3, ground := Go.Ground.guard }], guard := some (3, false) }) (v := .agg Y) rfl (by kernel_rfl) (by kernel_rfl) (by kernel_rfl) (fun _ _ _ h => h) (by rw [← HCy.out]; exact yieldsIf_load_mid (by rfl) _ _ rfl _ _ rfl _ _ (fun w hw => hw.2.2) hu hd iy) (by assumption) ?_
  simp only [Act.put, List.setIfInBounds_toArray, List.set_cons_zero, List.set_cons_succ]
  refine' wpAnyH_take (i := 6) (oi := { dst := some 164, op := Go.Op.binOp Go.BinOp.neq 23 (Go.Operand.tmp 162) (Go.Operand.tmp 163) 23, type := 4, pos := "law.go:109", after := #[{ on := 4, ground := Go.Ground.data }, { on := 5, ground := Go.Ground.data }, { on := 3, ground := Go.Ground.guard }], guard := some (3, false) }) (v := _) rfl (by kernel_rfl) (by kernel_rfl) (by kernel_rfl) (fun _ _ _ h => h) (Or.inl ⟨by rfl, ?_⟩) (by assumption) ?_
  rotate_left
  · intro w hSw; (try dsimp only at hSw); go_simp <;> with_reducible rfl
  simp only [Act.put, List.setIfInBounds_toArray, List.set_cons_zero, List.set_cons_succ]
  refine' wpAnyH_take (i := 7) (oi := { dst := some 165, op := Go.Op.pick (Go.Operand.tmp 161) (Go.Operand.const (Go.Value.bool true)) (Go.Operand.tmp 164), type := 4, pos := "law.go:109", after := #[{ on := 3, ground := Go.Ground.data }, { on := 6, ground := Go.Ground.data }], guard := none }) (v := _) rfl (by kernel_rfl) (by kernel_rfl) (by kernel_rfl) (fun _ _ _ h => h) (Or.inl ⟨by rfl, ?_⟩) (by assumption) ?_
  rotate_left
  · intro w hSw; (try dsimp only at hSw); go_simp <;> with_reducible rfl
  simp only [Act.put, List.setIfInBounds_toArray, List.set_cons_zero, List.set_cons_succ]
  refine' wpAnyH_take (i := 8) (oi := { dst := some 166, op := Go.Op.move (Go.Operand.tmp 165), type := 4, pos := "law.go:109", after := #[{ on := 7, ground := Go.Ground.data }, { on := 3, ground := Go.Ground.chain }], guard := none }) (v := _) rfl (by kernel_rfl) (by kernel_rfl) (by kernel_rfl) (fun _ _ _ h => h) (Or.inl ⟨by rfl, ?_⟩) (by assumption) ?_
  rotate_left
  · intro w hSw; (try dsimp only at hSw); go_simp <;> with_reducible rfl
  simp only [Act.put, List.setIfInBounds_toArray, List.set_cons_zero, List.set_cons_succ]
  refine' wpAnyH_take (i := 9) (oi := { dst := some 167, op := Go.Op.move (Go.Operand.tmp 25), type := 3, pos := "law.go:109", after := #[{ on := 8, ground := Go.Ground.guard }], guard := some (8, false) }) (v := _) rfl (by kernel_rfl) (by kernel_rfl) (by kernel_rfl) (fun _ _ _ h => h) (Or.inl ⟨by rfl, ?_⟩) (by assumption) ?_
  rotate_left
  · intro w hSw; (try dsimp only at hSw); go_simp <;> with_reducible rfl
  simp only [Act.put, List.setIfInBounds_toArray, List.set_cons_zero, List.set_cons_succ]
  refine' wpAnyH_take (i := 10) (oi := { dst := some 168, op := Go.Op.binOp Go.BinOp.eql 3 (Go.Operand.tmp 167) (Go.Operand.const (Go.Value.int Go.IntKind.i64 0)) 3, type := 4, pos := "law.go:109", after := #[{ on := 9, ground := Go.Ground.data }, { on := 8, ground := Go.Ground.guard }], guard := some (8, false) }) (v := _) rfl (by kernel_rfl) (by kernel_rfl) (by kernel_rfl) (fun _ _ _ h => h) (Or.inl ⟨by rfl, ?_⟩) (by assumption) ?_
  rotate_left
  · intro w hSw; (try dsimp only at hSw); go_simp <;> with_reducible rfl
  simp only [Act.put, List.setIfInBounds_toArray, List.set_cons_zero, List.set_cons_succ]
  refine' wpAnyH_take (i := 11) (oi := { dst := some 169, op := Go.Op.move (Go.Operand.tmp 168), type := 4, pos := "law.go:109", after := #[{ on := 10, ground := Go.Ground.data }, { on := 8, ground := Go.Ground.chain }, { on := 8, ground := Go.Ground.guard }], guard := some (8, false) }) (v := _) rfl (by kernel_rfl) (by kernel_rfl) (by kernel_rfl) (fun _ _ _ h => h) (Or.inl ⟨by rfl, ?_⟩) (by assumption) ?_
  rotate_left
  · intro w hSw; (try dsimp only at hSw); go_simp <;> with_reducible rfl
  simp only [Act.put, List.setIfInBounds_toArray, List.set_cons_zero, List.set_cons_succ]
  refine' wpAnyH_take (i := 12) (oi := { dst := some 170, op := Go.Op.load 23 (Go.Operand.tmp 22), type := 23, pos := "law.go:109", after := #[{ on := 11, ground := Go.Ground.guard }], guard := some (11, true) }) (v := .agg X) rfl (by kernel_rfl) (by kernel_rfl) (by kernel_rfl) (fun _ _ _ h => h) (by rw [← HCx.out]; exact yieldsIf_load_mid (by rfl) _ _ rfl _ _ rfl _ _ (fun w hw => hw.2.1) hu hd ix) (by assumption) ?_
  simp only [Act.put, List.setIfInBounds_toArray, List.set_cons_zero, List.set_cons_succ]
  refine' wpAnyH_take (i := 15) (oi := { dst := some 173, op := Go.Op.move (Go.Operand.tmp 15), type := 31, pos := "law.go:109", after := #[{ on := 11, ground := Go.Ground.guard }], guard := some (11, true) }) (v := _) rfl (by kernel_rfl) (by kernel_rfl) (by kernel_rfl) (fun _ _ _ h => h) (Or.inl ⟨by rfl, ?_⟩) (by assumption) ?_
  rotate_left
  · intro w hSw; (try dsimp only at hSw); go_simp <;> with_reducible rfl
  simp only [Act.put, List.setIfInBounds_toArray, List.set_cons_zero, List.set_cons_succ]
  refine' wpAnyH_take (i := 16) (oi := { dst := some 174, op := Go.Op.convert 31 9 (Go.Operand.tmp 173), type := 9, pos := "law.go:109", after := #[{ on := 15, ground := Go.Ground.data }, { on := 11, ground := Go.Ground.guard }], guard := some (11, true) }) (v := _) rfl (by kernel_rfl) (by kernel_rfl) (by kernel_rfl) (fun _ _ _ h => h) (Or.inl ⟨by rfl, ?_⟩) (by assumption) ?_
  rotate_left
  · intro w hSw; (try dsimp only at hSw); go_simp <;> with_reducible rfl
  simp only [Act.put, List.setIfInBounds_toArray, List.set_cons_zero, List.set_cons_succ]
  refine wpAnyH_ready (rs := [13]) (by kernel_rfl) (by simp) ?_
  refine AllReadyH.cons rfl (fun K hK => ?_) AllReadyH.nil
  go_simp
  go_wp2_with (first | (go_at_call 15; (with_reducible refine (HEN.out _ HT0.out).mono ?_); rintro e q2 ⟨v2, rfl, hO⟩; have HT2 : Hid (Turn [] W q2) := HT0.out.trans hO.old; obtain ⟨va7, vc7, rfl⟩ := own_form hO.own; have hcr7 := text_at (own_bytesAt hO.own) LB.length vc7 rfl; clear hO) | fail)
  refine hK.out _ _ ?_ (fun hHeld => ?_)
  · exact HS.out _ HT2.out
  clear hK K
  try simp only [Act.put, List.setIfInBounds_toArray, List.set_cons_zero, List.set_cons_succ]
  refine wpAnyH_ready (rs := [14]) (by kernel_rfl) (by simp) ?_
  refine AllReadyH.cons rfl (fun K hK => ?_) AllReadyH.nil
  go_simp
  go_wp2_with fail
  refine hK.out _ _ ?_ (fun hHeld => ?_)
  · exact HS.out _ HT2.out
  clear hK K hcr7
  try simp only [Act.put, List.setIfInBounds_toArray, List.set_cons_zero, List.set_cons_succ]
  refine' wpAnyH_take (i := 17) (oi := { dst := some 175, op := Go.Op.binOp Go.BinOp.neq 9 (Go.Operand.tmp 172) (Go.Operand.tmp 174) 9, type := 4, pos := "law.go:109", after := #[{ on := 14, ground := Go.Ground.data }, { on := 16, ground := Go.Ground.data }, { on := 11, ground := Go.Ground.guard }], guard := some (11, true) }) (v := _) rfl (by kernel_rfl) (by kernel_rfl) (by kernel_rfl) (fun _ _ _ h => h) (Or.inl ⟨by rfl, ?_⟩) (by assumption) ?_
  rotate_left
  · intro w hSw; (try dsimp only at hSw); go_simp <;> with_reducible rfl
  simp only [Act.put, List.setIfInBounds_toArray, List.set_cons_zero, List.set_cons_succ]
  refine' wpAnyH_take (i := 18) (oi := { dst := some 176, op := Go.Op.pick (Go.Operand.tmp 169) (Go.Operand.tmp 175) (Go.Operand.const (Go.Value.bool false)), type := 4, pos := "law.go:109", after := #[{ on := 11, ground := Go.Ground.data }, { on := 17, ground := Go.Ground.data }, { on := 8, ground := Go.Ground.guard }], guard := some (8, false) }) (v := _) rfl (by kernel_rfl) (by kernel_rfl) (by kernel_rfl) (fun _ _ _ h => h) (Or.inl ⟨by rfl, ?_⟩) (by assumption) ?_
  rotate_left
  · intro w hSw; (try dsimp only at hSw); go_simp <;> with_reducible rfl
  simp only [Act.put, List.setIfInBounds_toArray, List.set_cons_zero, List.set_cons_succ]
  refine' wpAnyH_take (i := 19) (oi := { dst := some 177, op := Go.Op.pick (Go.Operand.tmp 166) (Go.Operand.const (Go.Value.bool true)) (Go.Operand.tmp 176), type := 4, pos := "law.go:109", after := #[{ on := 8, ground := Go.Ground.data }, { on := 18, ground := Go.Ground.data }], guard := none }) (v := _) rfl (by kernel_rfl) (by kernel_rfl) (by kernel_rfl) (fun _ _ _ h => h) (Or.inl ⟨by rfl, ?_⟩) (by assumption) ?_
  rotate_left
  · intro w hSw; (try dsimp only at hSw); go_simp <;> with_reducible rfl
  simp only [Act.put, List.setIfInBounds_toArray, List.set_cons_zero, List.set_cons_succ]
  refine wpAnyH_done (by kernel_rfl) ?_ _
  refine NoPanic.normal ?_
  exact HQ.out _ _ _ _ _ _ _ _ _ _ _ _ _ _ _ _ _ _ _ _ HT2.out

set_option maxRecDepth 100000 in
set_option maxHeartbeats 12800000 in
theorem reg5_27_bad (W : World) {g0 g1 g2 g3 g4 g5 g6 g7 g8 g9 g10 g11 g12 g13 g14 g16 g17 g18 g19 g20 g21 g26 g27 g28 g29 g30 g31 g32 g33 g34 g35 g36 g37 g38 g39 g40 g41 g42 g43 g44 g45 g46 g47 g48 g49 g50 g51 g52 g53 g54 g55 g56 g57 g58 g59 g60 g61 g62 g63 g64 g65 g66 g67 g68 g69 g70 g71 g72 g73 g74 g75 g76 g77 g78 g79 g80 g81 g82 g83 g84 g85 g86 g87 g88 g89 g90 g91 g92 g93 g94 g95 g96 g97 g98 g99 g100 g101 g102 g103 g104 g105 g106 g107 g108 g109 g110 g111 g112 g113 g114 g115 g116 g117 g118 g119 g120 g121 g122 g123 g124 g125 g126 g127 g128 g129 g130 g131 g132 g133 g134 g135 g136 g137 g138 g139 g140 g141 g142 g143 g144 g145 g146 g147 g148 g149 g150 g151 g152 g153 g154 g155 g156 g157 g158 g159 g160 g161 g162 g163 g164 g165 g166 g167 g168 g169 g170 g171 g172 g173 g174 g175 g176 g177 g178 g179 g180 g181 g182 g183 g184 g185 g186 g187 g188 g189 g190 g191 g192 g193 g194 g195 g196 g197 g198 g199 g200 g201 g202 g203 g204 g205 g206 g207 g208 g209 : Value} (cx cy : List Value) (bx bz capb f : Nat) (ba : Option Addr) (LB : List Nat) (Q : Exit → Act → World → Prop)
    (lx : cx.length = 10) (ly : cy.length = 10) (hf : ¬ f = 0)
    (HS : Hid (∀ w', Turn [] W w' → (convert 31 9 (.slice ba LB.length capb)).run Try.prog w' = .ok (.string (textOf LB)) w' ∧ w'.rangeAt bx 0 cx ∧ w'.rangeAt bz 0 cy))
    (HSM : ∀ w', (binOp .neq 23 (.agg cx.toArray) (.agg cy.toArray)).run Try.prog w' = .ok (.bool false) w')
    (hQ : ∀ (t158 t159 t160 t161 t162 t163 t164 t165 t166 t167 t168 t169 t170 t171 t172 t173 t174 t175 t176 : Value) w', Turn [] W w' → Q .normal ⟨#[g0, g1, g2, g3, g4, g5, g6, g7, g8, g9, g10, g11, g12, g13, g14, .slice ba LB.length capb, g16, g17, g18, g19, g20, g21, .pointer (some ⟨bx, 0, none⟩), .int .i64 (f : Nat), .pointer (some ⟨bz, 0, none⟩), .int .i64 (f : Nat), g26, g27, g28, g29, g30, g31, g32, g33, g34, g35, g36, g37, g38, g39, g40, g41, g42, g43, g44, g45, g46, g47, g48, g49, g50, g51, g52, g53, g54, g55, g56, g57, g58, g59, g60, g61, g62, g63, g64, g65, g66, g67, g68, g69, g70, g71, g72, g73, g74, g75, g76, g77, g78, g79, g80, g81, g82, g83, g84, g85, g86, g87, g88, g89, g90, g91, g92, g93, g94, g95, g96, g97, g98, g99, g100, g101, g102, g103, g104, g105, g106, g107, g108, g109, g110, g111, g112, g113, g114, g115, g116, g117, g118, g119, g120, g121, g122, g123, g124, g125, g126, g127, g128, g129, g130, g131, g132, g133, g134, g135, g136, g137, g138, g139, g140, g141, g142, g143, g144, g145, g146, g147, g148, g149, g150, g151, g152, g153, g154, g155, g156, g157, t158, t159, t160, t161, t162, t163, t164, t165, t166, t167, t168, t169, t170, t171, t172, t173, t174, t175, t176, .bool false, g178, g179, g180, g181, g182, g183, g184, g185, g186, g187, g188, g189, g190, g191, g192, g193, g194, g195, g196, g197, g198, g199, g200, g201, g202, g203, g204, g205, g206, g207, g208, g209], []⟩ w') :
    Code.wp Try.prog (reg5 27) Q ⟨#[g0, g1, g2, g3, g4, g5, g6, g7, g8, g9, g10, g11, g12, g13, g14, .slice ba LB.length capb, g16, g17, g18, g19, g20, g21, .pointer (some ⟨bx, 0, none⟩), .int .i64 (f : Nat), .pointer (some ⟨bz, 0, none⟩), .int .i64 (f : Nat), g26, g27, g28, g29, g30, g31, g32, g33, g34, g35, g36, g37, g38, g39, g40, g41, g42, g43, g44, g45, g46, g47, g48, g49, g50, g51, g52, g53, g54, g55, g56, g57, g58, g59, g60, g61, g62, g63, g64, g65, g66, g67, g68, g69, g70, g71, g72, g73, g74, g75, g76, g77, g78, g79, g80, g81, g82, g83, g84, g85, g86, g87, g88, g89, g90, g91, g92, g93, g94, g95, g96, g97, g98, g99, g100, g101, g102, g103, g104, g105, g106, g107, g108, g109, g110, g111, g112, g113, g114, g115, g116, g117, g118, g119, g120, g121, g122, g123, g124, g125, g126, g127, g128, g129, g130, g131, g132, g133, g134, g135, g136, g137, g138, g139, g140, g141, g142, g143, g144, g145, g146, g147, g148, g149, g150, g151, g152, g153, g154, g155, g156, g157, g158, g159, g160, g161, g162, g163, g164, g165, g166, g167, g168, g169, g170, g171, g172, g173, g174, g175, g176, g177, g178, g179, g180, g181, g182, g183, g184, g185, g186, g187, g188, g189, g190, g191, g192, g193, g194, g195, g196, g197, g198, g199, g200, g201, g202, g203, g204, g205, g206, g207, g208, g209], []⟩ W := by
  conv => arg 2; whnf
  dsimp only
  have HQ := hide hQ
  obtain ⟨hi0, dt, hu, hd⟩ := sz23
  have ix : (Try.prog.info? 23).map (·.size) = some cx.length := by rw [hi0, lx]
  have iy : (Try.prog.info? 23).map (·.size) = some cy.length := by rw [hi0, ly]
  have HT0 : Hid (Turn [] W W.drew) := (Turn.refl [] W).drew
  have hfn : ¬ ((f : Nat) : Int) = 0 := fun k => hf (Int.ofNat.inj k)
  clear hQ lx ly hi0
  generalize hcx : cx.toArray = X at *
  generalize hcy : cy.toArray = Y at *
  have HCx := hide hcx
  have HCy := hide hcy
  clear hcx hcy
  refine wp_region_noPanic ?_
  refine wp_region_held_drew (S := fun w' => (convert 31 9 (.slice ba LB.length capb)).run Try.prog w' = .ok (.string (textOf LB)) w' ∧ w'.rangeAt bx 0 cx ∧ w'.rangeAt bz 0 cy) (by kernel_rfl) (HS.out _ HT0.out) (fun hHeld => ?_)
  refine' wpAnyH_take (i := 0) (oi := { dst := some 158, op := Go.Op.move (Go.Operand.tmp 23), type := 33, pos := "law.go:109", after := #[], guard := none }) (v := _) rfl (by kernel_rfl) (by kernel_rfl) (by kernel_rfl) (fun _ _ _ h => h) (Or.inl ⟨by rfl, ?_⟩) (by assumption) ?_
  rotate_left
  · intro w hSw; (try dsimp only at hSw); go_simp <;> with_reducible rfl
  simp only [Act.put, List.setIfInBounds_toArray, List.set_cons_zero, List.set_cons_succ]
  refine' wpAnyH_take (i := 1) (oi := { dst := some 159, op := Go.Op.move (Go.Operand.tmp 25), type := 3, pos := "law.go:109", after := #[], guard := none }) (v := _) rfl (by kernel_rfl) (by kernel_rfl) (by kernel_rfl) (fun _ _ _ h => h) (Or.inl ⟨by rfl, ?_⟩) (by assumption) ?_
  rotate_left
  · intro w hSw; (try dsimp only at hSw); go_simp <;> with_reducible rfl
  simp only [Act.put, List.setIfInBounds_toArray, List.set_cons_zero, List.set_cons_succ]
  refine' wpAnyH_take (i := 2) (oi := { dst := some 160, op := Go.Op.binOp Go.BinOp.neq 3 (Go.Operand.tmp 158) (Go.Operand.tmp 159) 3, type := 4, pos := "law.go:109", after := #[{ on := 0, ground := Go.Ground.data }, { on := 1, ground := Go.Ground.data }], guard := none }) (v := _) rfl (by kernel_rfl) (by kernel_rfl) (by kernel_rfl) (fun _ _ _ h => h) (Or.inl ⟨by rfl, ?_⟩) (by assumption) ?_
  rotate_left
  · intro w hSw; (try dsimp only at hSw); go_simp <;> with_reducible rfl
  simp only [Act.put, List.setIfInBounds_toArray, List.set_cons_zero, List.set_cons_succ]
  refine' wpAnyH_take (i := 3) (oi := { dst := some 161, op := Go.Op.move (Go.Operand.tmp 160), type := 4, pos := "law.go:109", after := #[{ on := 2, ground := Go.Ground.data }], guard := none }) (v := _) rfl (by kernel_rfl) (by kernel_rfl) (by kernel_rfl) (fun _ _ _ h => h) (Or.inl ⟨by rfl, ?_⟩) (by assumption) ?_
  rotate_left
  · intro w hSw; (try dsimp only at hSw); go_simp <;> with_reducible rfl
  simp only [Act.put, List.setIfInBounds_toArray, List.set_cons_zero, List.set_cons_succ]
  refine' wpAnyH_take (i := 4) (oi := { dst := some 162, op := Go.Op.load 23 (Go.Operand.tmp 22), type := 23, pos := "law.go:109", after := #[{ on := 3, ground := Go.Ground.guard }], guard := some (3, false) }) (v := .agg X) rfl (by kernel_rfl) (by kernel_rfl) (by kernel_rfl) (fun _ _ _ h => h) (by rw [← HCx.out]; exact yieldsIf_load_mid (by rfl) _ _ rfl _ _ rfl _ _ (fun w hw => hw.2.1) hu hd ix) (by assumption) ?_
  simp only [Act.put, List.setIfInBounds_toArray, List.set_cons_zero, List.set_cons_succ]
  refine' wpAnyH_take (i := 5) (oi := { dst := some 163, op := Go.Op.load 23 (Go.Operand.tmp 24), type := 23, pos := "law.go:109", after := #[{ on := 3, ground := Go.Ground.guard }], guard := some (3, false) }) (v := .agg Y) rfl (by kernel_rfl) (by kernel_rfl) (by kernel_rfl) (fun _ _ _ h => h) (by rw [← HCy.out]; exact yieldsIf_load_mid (by rfl) _ _ rfl _ _ rfl _ _ (fun w hw => hw.2.2) hu hd iy) (by assumption) ?_
  simp only [Act.put, List.setIfInBounds_toArray, List.set_cons_zero, List.set_cons_succ]
  refine' wpAnyH_take (i := 6) (oi := { dst := some 164, op := Go.Op.binOp Go.BinOp.neq 23 (Go.Operand.tmp 162) (Go.Operand.tmp 163) 23, type := 4, pos := "law.go:109", after := #[{ on := 4, ground := Go.Ground.data }, { on := 5, ground := Go.Ground.data }, { on := 3, ground := Go.Ground.guard }], guard := some (3, false) }) (v := _) rfl (by kernel_rfl) (by kernel_rfl) (by kernel_rfl) (fun _ _ _ h => h) (Or.inl ⟨by rfl, ?_⟩) (by assumption) ?_
  rotate_left
  · intro w hSw; (try dsimp only at hSw); go_simp <;> with_reducible rfl
  simp only [Act.put, List.setIfInBounds_toArray, List.set_cons_zero, List.set_cons_succ]
  refine' wpAnyH_take (i := 7) (oi := { dst := some 165, op := Go.Op.pick (Go.Operand.tmp 161) (Go.Operand.const (Go.Value.bool true)) (Go.Operand.tmp 164), type := 4, pos := "law.go:109", after := #[{ on := 3, ground := Go.Ground.data }, { on := 6, ground := Go.Ground.data }], guard := none }) (v := _) rfl (by kernel_rfl) (by kernel_rfl) (by kernel_rfl) (fun _ _ _ h => h) (Or.inl ⟨by rfl, ?_⟩) (by assumption) ?_
  rotate_left
  · intro w hSw; (try dsimp only at hSw); go_simp <;> with_reducible rfl
  simp only [Act.put, List.setIfInBounds_toArray, List.set_cons_zero, List.set_cons_succ]
  refine' wpAnyH_take (i := 8) (oi := { dst := some 166, op := Go.Op.move (Go.Operand.tmp 165), type := 4, pos := "law.go:109", after := #[{ on := 7, ground := Go.Ground.data }, { on := 3, ground := Go.Ground.chain }], guard := none }) (v := _) rfl (by kernel_rfl) (by kernel_rfl) (by kernel_rfl) (fun _ _ _ h => h) (Or.inl ⟨by rfl, ?_⟩) (by assumption) ?_
  rotate_left
  · intro w hSw; (try dsimp only at hSw); go_simp <;> with_reducible rfl
  simp only [Act.put, List.setIfInBounds_toArray, List.set_cons_zero, List.set_cons_succ]
  refine' wpAnyH_take (i := 9) (oi := { dst := some 167, op := Go.Op.move (Go.Operand.tmp 25), type := 3, pos := "law.go:109", after := #[{ on := 8, ground := Go.Ground.guard }], guard := some (8, false) }) (v := _) rfl (by kernel_rfl) (by kernel_rfl) (by kernel_rfl) (fun _ _ _ h => h) (Or.inl ⟨by rfl, ?_⟩) (by assumption) ?_
  rotate_left
  · intro w hSw; (try dsimp only at hSw); go_simp <;> with_reducible rfl
  simp only [Act.put, List.setIfInBounds_toArray, List.set_cons_zero, List.set_cons_succ]
  refine' wpAnyH_take (i := 10) (oi := { dst := some 168, op := Go.Op.binOp Go.BinOp.eql 3 (Go.Operand.tmp 167) (Go.Operand.const (Go.Value.int Go.IntKind.i64 0)) 3, type := 4, pos := "law.go:109", after := #[{ on := 9, ground := Go.Ground.data }, { on := 8, ground := Go.Ground.guard }], guard := some (8, false) }) (v := .bool false) rfl (by kernel_rfl) (by kernel_rfl) (by kernel_rfl) (fun _ _ _ h => h) (Or.inl ⟨by rfl, ?_⟩) (by assumption) ?_
  · intro w hSw; (try dsimp only at hSw); go_simp <;> first | with_reducible rfl | (simp [hfn]; done)
  simp only [Act.put, List.setIfInBounds_toArray, List.set_cons_zero, List.set_cons_succ]
  refine' wpAnyH_take (i := 11) (oi := { dst := some 169, op := Go.Op.move (Go.Operand.tmp 168), type := 4, pos := "law.go:109", after := #[{ on := 10, ground := Go.Ground.data }, { on := 8, ground := Go.Ground.chain }, { on := 8, ground := Go.Ground.guard }], guard := some (8, false) }) (v := _) rfl (by kernel_rfl) (by kernel_rfl) (by kernel_rfl) (fun _ _ _ h => h) (Or.inl ⟨by rfl, ?_⟩) (by assumption) ?_
  rotate_left
  · intro w hSw; (try dsimp only at hSw); go_simp <;> with_reducible rfl
  simp only [Act.put, List.setIfInBounds_toArray, List.set_cons_zero, List.set_cons_succ]
  refine wpAnyH_take (i := 12) (oi := { dst := some 170, op := Go.Op.load 23 (Go.Operand.tmp 22), type := 23, pos := "law.go:109", after := #[{ on := 11, ground := Go.Ground.guard }], guard := some (11, true) }) (v := undef) rfl (by kernel_rfl) (by kernel_rfl) (by kernel_rfl) (fun _ _ _ h => h) (Or.inr ⟨by rfl, rfl⟩) (by assumption) ?_
  simp only [Act.put, List.setIfInBounds_toArray, List.set_cons_zero, List.set_cons_succ]
  refine wpAnyH_take (i := 13) (oi := { dst := some 171, op := Go.Op.call { callee := Go.Callee.value (Go.Operand.func 15), args := #[Go.Operand.tmp 170], argTypes := #[23] }, type := 31, pos := "law.go:109", after := #[{ on := 12, ground := Go.Ground.data }, { on := 11, ground := Go.Ground.chain }, { on := 11, ground := Go.Ground.guard }], guard := some (11, true) }) (v := undef) rfl (by kernel_rfl) (by kernel_rfl) (by kernel_rfl) (fun _ _ _ h => h) (Or.inr ⟨by rfl, rfl⟩) (by assumption) ?_
  simp only [Act.put, List.setIfInBounds_toArray, List.set_cons_zero, List.set_cons_succ]
  refine wpAnyH_take (i := 14) (oi := { dst := some 172, op := Go.Op.convert 31 9 (Go.Operand.tmp 171), type := 9, pos := "law.go:109", after := #[{ on := 13, ground := Go.Ground.data }, { on := 11, ground := Go.Ground.guard }], guard := some (11, true) }) (v := undef) rfl (by kernel_rfl) (by kernel_rfl) (by kernel_rfl) (fun _ _ _ h => h) (Or.inr ⟨by rfl, rfl⟩) (by assumption) ?_
  simp only [Act.put, List.setIfInBounds_toArray, List.set_cons_zero, List.set_cons_succ]
  refine wpAnyH_take (i := 15) (oi := { dst := some 173, op := Go.Op.move (Go.Operand.tmp 15), type := 31, pos := "law.go:109", after := #[{ on := 11, ground := Go.Ground.guard }], guard := some (11, true) }) (v := undef) rfl (by kernel_rfl) (by kernel_rfl) (by kernel_rfl) (fun _ _ _ h => h) (Or.inr ⟨by rfl, rfl⟩) (by assumption) ?_
  simp only [Act.put, List.setIfInBounds_toArray, List.set_cons_zero, List.set_cons_succ]
  refine wpAnyH_take (i := 16) (oi := { dst := some 174, op := Go.Op.convert 31 9 (Go.Operand.tmp 173), type := 9, pos := "law.go:109", after := #[{ on := 15, ground := Go.Ground.data }, { on := 11, ground := Go.Ground.guard }], guard := some (11, true) }) (v := undef) rfl (by kernel_rfl) (by kernel_rfl) (by kernel_rfl) (fun _ _ _ h => h) (Or.inr ⟨by rfl, rfl⟩) (by assumption) ?_
  simp only [Act.put, List.setIfInBounds_toArray, List.set_cons_zero, List.set_cons_succ]
  refine wpAnyH_take (i := 17) (oi := { dst := some 175, op := Go.Op.binOp Go.BinOp.neq 9 (Go.Operand.tmp 172) (Go.Operand.tmp 174) 9, type := 4, pos := "law.go:109", after := #[{ on := 14, ground := Go.Ground.data }, { on := 16, ground := Go.Ground.data }, { on := 11, ground := Go.Ground.guard }], guard := some (11, true) }) (v := undef) rfl (by kernel_rfl) (by kernel_rfl) (by kernel_rfl) (fun _ _ _ h => h) (Or.inr ⟨by rfl, rfl⟩) (by assumption) ?_
  simp only [Act.put, List.setIfInBounds_toArray, List.set_cons_zero, List.set_cons_succ]
  refine' wpAnyH_take (i := 18) (oi := { dst := some 176, op := Go.Op.pick (Go.Operand.tmp 169) (Go.Operand.tmp 175) (Go.Operand.const (Go.Value.bool false)), type := 4, pos := "law.go:109", after := #[{ on := 11, ground := Go.Ground.data }, { on := 17, ground := Go.Ground.data }, { on := 8, ground := Go.Ground.guard }], guard := some (8, false) }) (v := _) rfl (by kernel_rfl) (by kernel_rfl) (by kernel_rfl) (fun _ _ _ h => h) (Or.inl ⟨by rfl, ?_⟩) (by assumption) ?_
  rotate_left
  · intro w hSw; (try dsimp only at hSw); go_simp <;> with_reducible rfl
  simp only [Act.put, List.setIfInBounds_toArray, List.set_cons_zero, List.set_cons_succ]
  refine' wpAnyH_take (i := 19) (oi := { dst := some 177, op := Go.Op.pick (Go.Operand.tmp 166) (Go.Operand.const (Go.Value.bool true)) (Go.Operand.tmp 176), type := 4, pos := "law.go:109", after := #[{ on := 8, ground := Go.Ground.data }, { on := 18, ground := Go.Ground.data }], guard := none }) (v := _) rfl (by kernel_rfl) (by kernel_rfl) (by kernel_rfl) (fun _ _ _ h => h) (Or.inl ⟨by rfl, ?_⟩) (by assumption) ?_
  rotate_left
  · intro w hSw; (try dsimp only at hSw); go_simp <;> with_reducible rfl
  simp only [Act.put, List.setIfInBounds_toArray, List.set_cons_zero, List.set_cons_succ]
  refine wpAnyH_done (by kernel_rfl) ?_ _
  refine NoPanic.normal ?_
  exact HQ.out _ _ _ _ _ _ _ _ _ _ _ _ _ _ _ _ _ _ _ _ HT0.out

set_option maxRecDepth 100000 in
set_option maxHeartbeats 12800000 in
theorem reg5_32_ok (W : World) {g0 g1 g2 g3 g4 g5 g6 g7 g8 g9 g10 g11 g12 g13 g14 g16 g17 g18 g19 g20 g21 g22 g23 g24 g25 g30 g31 g32 g33 g34 g35 g36 g37 g38 g39 g40 g41 g42 g43 g44 g45 g46 g47 g48 g49 g50 g51 g52 g53 g54 g55 g56 g57 g58 g59 g60 g61 g62 g63 g64 g65 g66 g67 g68 g69 g70 g71 g72 g73 g74 g75 g76 g77 g78 g79 g80 g81 g82 g83 g84 g85 g86 g87 g88 g89 g90 g91 g92 g93 g94 g95 g96 g97 g98 g99 g100 g101 g102 g103 g104 g105 g106 g107 g108 g109 g110 g111 g112 g113 g114 g115 g116 g117 g118 g119 g120 g121 g122 g123 g124 g125 g126 g127 g128 g129 g130 g131 g132 g133 g134 g135 g136 g137 g138 g139 g140 g141 g142 g143 g144 g145 g146 g147 g148 g149 g150 g151 g152 g153 g154 g155 g156 g157 g158 g159 g160 g161 g162 g163 g164 g165 g166 g167 g168 g169 g170 g171 g172 g173 g174 g175 g176 g177 g178 g179 g180 g181 g182 g183 g184 g185 g186 g187 g188 g189 g190 g191 g192 g193 g194 g195 g196 g197 g198 g199 g200 g201 g202 g203 g204 g205 g206 g207 g208 g209 : Value} (cx cy : List Value) (bx bz capb : Nat) (ba : Option Addr) (LB : List Nat) (Q : Exit → Act → World → Prop)
    (lx : cx.length = 9) (ly : cy.length = 9)
    (HS : Hid (∀ w', Turn [] W w' → (convert 31 9 (.slice ba LB.length capb)).run Try.prog w' = .ok (.string (textOf LB)) w' ∧ w'.rangeAt bx 0 cx ∧ w'.rangeAt bz 0 cy))
    (HSM : ∀ w', (binOp .neq 40 (.agg cx.toArray) (.agg cy.toArray)).run Try.prog w' = .ok (.bool false) w')
    (HEN : Hid (∀ w', Turn [] W w' → Calls Try.prog 16 #[.agg cx.toArray] w' fun e w'' => ∃ v, e = .returned v ∧ Out w' w'' v LB))
    (hQ : ∀ (t190 t191 t192 t193 t194 t195 t196 t197 t198 t199 t200 t201 t202 t203 t204 t205 t206 t207 t208 : Value) w', Turn [] W w' → Q .normal ⟨#[g0, g1, g2, g3, g4, g5, g6, g7, g8, g9, g10, g11, g12, g13, g14, .slice ba LB.length capb, g16, g17, g18, g19, g20, g21, g22, g23, g24, g25, .pointer (some ⟨bx, 0, none⟩), .int .i64 0, .pointer (some ⟨bz, 0, none⟩), .int .i64 0, g30, g31, g32, g33, g34, g35, g36, g37, g38, g39, g40, g41, g42, g43, g44, g45, g46, g47, g48, g49, g50, g51, g52, g53, g54, g55, g56, g57, g58, g59, g60, g61, g62, g63, g64, g65, g66, g67, g68, g69, g70, g71, g72, g73, g74, g75, g76, g77, g78, g79, g80, g81, g82, g83, g84, g85, g86, g87, g88, g89, g90, g91, g92, g93, g94, g95, g96, g97, g98, g99, g100, g101, g102, g103, g104, g105, g106, g107, g108, g109, g110, g111, g112, g113, g114, g115, g116, g117, g118, g119, g120, g121, g122, g123, g124, g125, g126, g127, g128, g129, g130, g131, g132, g133, g134, g135, g136, g137, g138, g139, g140, g141, g142, g143, g144, g145, g146, g147, g148, g149, g150, g151, g152, g153, g154, g155, g156, g157, g158, g159, g160, g161, g162, g163, g164, g165, g166, g167, g168, g169, g170, g171, g172, g173, g174, g175, g176, g177, g178, g179, g180, g181, g182, g183, g184, g185, g186, g187, g188, g189, t190, t191, t192, t193, t194, t195, t196, t197, t198, t199, t200, t201, t202, t203, t204, t205, t206, t207, t208, .bool false], []⟩ w') :
    Code.wp Try.prog (reg5 32) Q ⟨#[g0, g1, g2, g3, g4, g5, g6, g7, g8, g9, g10, g11, g12, g13, g14, .slice ba LB.length capb, g16, g17, g18, g19, g20, g21, g22, g23, g24, g25, .pointer (some ⟨bx, 0, none⟩), .int .i64 0, .pointer (some ⟨bz, 0, none⟩), .int .i64 0, g30, g31, g32, g33, g34, g35, g36, g37, g38, g39, g40, g41, g42, g43, g44, g45, g46, g47, g48, g49, g50, g51, g52, g53, g54, g55, g56, g57, g58, g59, g60, g61, g62, g63, g64, g65, g66, g67, g68, g69, g70, g71, g72, g73, g74, g75, g76, g77, g78, g79, g80, g81, g82, g83, g84, g85, g86, g87, g88, g89, g90, g91, g92, g93, g94, g95, g96, g97, g98, g99, g100, g101, g102, g103, g104, g105, g106, g107, g108, g109, g110, g111, g112, g113, g114, g115, g116, g117, g118, g119, g120, g121, g122, g123, g124, g125, g126, g127, g128, g129, g130, g131, g132, g133, g134, g135, g136, g137, g138, g139, g140, g141, g142, g143, g144, g145, g146, g147, g148, g149, g150, g151, g152, g153, g154, g155, g156, g157, g158, g159, g160, g161, g162, g163, g164, g165, g166, g167, g168, g169, g170, g171, g172, g173, g174, g175, g176, g177, g178, g179, g180, g181, g182, g183, g184, g185, g186, g187, g188, g189, g190, g191, g192, g193, g194, g195, g196, g197, g198, g199, g200, g201, g202, g203, g204, g205, g206, g207, g208, g209], []⟩ W := by
  conv => arg 2; whnf
  dsimp only
  have HQ := hide hQ
  obtain ⟨hi0, dt, hu, hd⟩ := sz40
  have ix : (Try.prog.info? 40).map (·.size) = some cx.length := by rw [hi0, lx]
  have iy : (Try.prog.info? 40).map (·.size) = some cy.length := by rw [hi0, ly]
  have HT0 : Hid (Turn [] W W.drew) := (Turn.refl [] W).drew

  clear hQ lx ly hi0
  generalize hcx : cx.toArray = X at *
  generalize hcy : cy.toArray = Y at *
  have HCx := hide hcx
  have HCy := hide hcy
  clear hcx hcy
  refine wp_region_noPanic ?_
  refine wp_region_held_drew (S := fun w' => (convert 31 9 (.slice ba LB.length capb)).run Try.prog w' = .ok (.string (textOf LB)) w' ∧ w'.rangeAt bx 0 cx ∧ w'.rangeAt bz 0 cy) (by kernel_rfl) (HS.out _ HT0.out) (fun hHeld => ?_)
  refine' wpAnyH_take (i := 0) (oi := { dst := some 190, op := Go.Op.move (Go.Operand.tmp 27), type := 33, pos := "law.go:115", after := #[], guard := none }) (v := _) rfl (by kernel_rfl) (by kernel_rfl) (by kernel_rfl) (fun _ _ _ h => h) (Or.inl ⟨by rfl, ?_⟩) (by assumption) ?_
  rotate_left
  · intro w hSw; (try dsimp only at hSw); go_simp <;> with_reducible rfl
  simp only [Act.put, List.setIfInBounds_toArray, List.set_cons_zero, List.set_cons_succ]
  refine' wpAnyH_take (i := 1) (oi := { dst := some 191, op := Go.Op.move (Go.Operand.tmp 29), type := 3, pos := "law.go:115", after := #[], guard := none }) (v := _) rfl (by kernel_rfl) (by kernel_rfl) (by kernel_rfl) (fun _ _ _ h => h) (Or.inl ⟨by rfl, ?_⟩) (by assumption) ?_
  rotate_left
  · intro w hSw; (try dsimp only at hSw); go_simp <;> with_reducible rfl
  simp only [Act.put, List.setIfInBounds_toArray, List.set_cons_zero, List.set_cons_succ]
  refine' wpAnyH_take (i := 2) (oi := { dst := some 192, op := Go.Op.binOp Go.BinOp.neq 3 (Go.Operand.tmp 190) (Go.Operand.tmp 191) 3, type := 4, pos := "law.go:115", after := #[{ on := 0, ground := Go.Ground.data }, { on := 1, ground := Go.Ground.data }], guard := none }) (v := _) rfl (by kernel_rfl) (by kernel_rfl) (by kernel_rfl) (fun _ _ _ h => h) (Or.inl ⟨by rfl, ?_⟩) (by assumption) ?_
  rotate_left
  · intro w hSw; (try dsimp only at hSw); go_simp <;> with_reducible rfl
  simp only [Act.put, List.setIfInBounds_toArray, List.set_cons_zero, List.set_cons_succ]
  refine' wpAnyH_take (i := 3) (oi := { dst := some 193, op := Go.Op.move (Go.Operand.tmp 192), type := 4, pos := "law.go:115", after := #[{ on := 2, ground := Go.Ground.data }], guard := none }) (v := _) rfl (by kernel_rfl) (by kernel_rfl) (by kernel_rfl) (fun _ _ _ h => h) (Or.inl ⟨by rfl, ?_⟩) (by assumption) ?_
  rotate_left
  · intro w hSw; (try dsimp only at hSw); go_simp <;> with_reducible rfl
  simp only [Act.put, List.setIfInBounds_toArray, List.set_cons_zero, List.set_cons_succ]
  refine' wpAnyH_take (i := 4) (oi := { dst := some 194, op := Go.Op.load 40 (Go.Operand.tmp 26), type := 40, pos := "law.go:115", after := #[{ on := 3, ground := Go.Ground.guard }], guard := some (3, false) }) (v := .agg X) rfl (by kernel_rfl) (by kernel_rfl) (by kernel_rfl) (fun _ _ _ h => h) (by rw [← HCx.out]; exact yieldsIf_load_mid (by rfl) _ _ rfl _ _ rfl _ _ (fun w hw => hw.2.1) hu hd ix) (by assumption) ?_
  simp only [Act.put, List.setIfInBounds_toArray, List.set_cons_zero, List.set_cons_succ]
  refine' wpAnyH_take (i := 5) (oi := { dst := some 195, op := Go.Op.load 40 (Go.Operand.tmp 28), type := 40, pos := "law.go:115", after := #[{ on := 3, ground := Go.Ground.guard }], guard := some (3, false) }) (v := .agg Y) rfl (by kernel_rfl) (by kernel_rfl) (by kernel_rfl) (fun _ _ _ h => h) (by rw [← HCy.out]; exact yieldsIf_load_mid (by rfl) _ _ rfl _ _ rfl _ _ (fun w hw => hw.2.2) hu hd iy) (by assumption) ?_
  simp only [Act.put, List.setIfInBounds_toArray, List.set_cons_zero, List.set_cons_succ]
  refine' wpAnyH_take (i := 6) (oi := { dst := some 196, op := Go.Op.binOp Go.BinOp.neq 40 (Go.Operand.tmp 194) (Go.Operand.tmp 195) 40, type := 4, pos := "law.go:115", after := #[{ on := 4, ground := Go.Ground.data }, { on := 5, ground := Go.Ground.data }, { on := 3, ground := Go.Ground.guard }], guard := some (3, false) }) (v := _) rfl (by kernel_rfl) (by kernel_rfl) (by kernel_rfl) (fun _ _ _ h => h) (Or.inl ⟨by rfl, ?_⟩) (by assumption) ?_
  rotate_left
  · intro w hSw; (try dsimp only at hSw); go_simp <;> with_reducible rfl
  simp only [Act.put, List.setIfInBounds_toArray, List.set_cons_zero, List.set_cons_succ]
  refine' wpAnyH_take (i := 7) (oi := { dst := some 197, op := Go.Op.pick (Go.Operand.tmp 193) (Go.Operand.const (Go.Value.bool true)) (Go.Operand.tmp 196), type := 4, pos := "law.go:115", after := #[{ on := 3, ground := Go.Ground.data }, { on := 6, ground := Go.Ground.data }], guard := none }) (v := _) rfl (by kernel_rfl) (by kernel_rfl) (by kernel_rfl) (fun _ _ _ h => h) (Or.inl ⟨by rfl, ?_⟩) (by assumption) ?_
  rotate_left
  · intro w hSw; (try dsimp only at hSw); go_simp <;> with_reducible rfl
  simp only [Act.put, List.setIfInBounds_toArray, List.set_cons_zero, List.set_cons_succ]
  refine' wpAnyH_take (i := 8) (oi := { dst := some 198, op := Go.Op.move (Go.Operand.tmp 197), type := 4, pos := "law.go:115", after := #[{ on := 7, ground := Go.Ground.data }, { on := 3, ground := Go.Ground.chain }], guard := none }) (v := _) rfl (by kernel_rfl) (by kernel_rfl) (by kernel_rfl) (fun _ _ _ h => h) (Or.inl ⟨by rfl, ?_⟩) (by assumption) ?_
  rotate_left
  · intro w hSw; (try dsimp only at hSw); go_simp <;> with_reducible rfl
  simp only [Act.put, List.setIfInBounds_toArray, List.set_cons_zero, List.set_cons_succ]
  refine' wpAnyH_take (i := 9) (oi := { dst := some 199, op := Go.Op.move (Go.Operand.tmp 29), type := 3, pos := "law.go:115", after := #[{ on := 8, ground := Go.Ground.guard }], guard := some (8, false) }) (v := _) rfl (by kernel_rfl) (by kernel_rfl) (by kernel_rfl) (fun _ _ _ h => h) (Or.inl ⟨by rfl, ?_⟩) (by assumption) ?_
  rotate_left
  · intro w hSw; (try dsimp only at hSw); go_simp <;> with_reducible rfl
  simp only [Act.put, List.setIfInBounds_toArray, List.set_cons_zero, List.set_cons_succ]
  refine' wpAnyH_take (i := 10) (oi := { dst := some 200, op := Go.Op.binOp Go.BinOp.eql 3 (Go.Operand.tmp 199) (Go.Operand.const (Go.Value.int Go.IntKind.i64 0)) 3, type := 4, pos := "law.go:115", after := #[{ on := 9, ground := Go.Ground.data }, { on := 8, ground := Go.Ground.guard }], guard := some (8, false) }) (v := _) rfl (by kernel_rfl) (by kernel_rfl) (by kernel_rfl) (fun _ _ _ h => h) (Or.inl ⟨by rfl, ?_⟩) (by assumption) ?_
  rotate_left
  · intro w hSw; (try dsimp only at hSw); go_simp <;> with_reducible rfl
  simp only [Act.put, List.setIfInBounds_toArray, List.set_cons_zero, List.set_cons_succ]
  refine' wpAnyH_take (i := 11) (oi := { dst := some 201, op := Go.Op.move (Go.Operand.tmp 200), type := 4, pos := "law.go:115", after := #[{ on := 10, ground := Go.Ground.data }, { on := 8, ground := Go.Ground.chain }, { on := 8, ground := Go.Ground.guard }], guard := some (8, false) }) (v := _) rfl (by kernel_rfl) (by kernel_rfl) (by kernel_rfl) (fun _ _ _ h => h) (Or.inl ⟨by rfl, ?_⟩) (by assumption) ?_
  rotate_left
  · intro w hSw; (try dsimp only at hSw); go_simp <;> with_reducible rfl
  simp only [Act.put, List.setIfInBounds_toArray, List.set_cons_zero, List.set_cons_succ]
  refine' wpAnyH_take (i := 12) (oi := { dst := some 202, op := Go.Op.load 40 (Go.Operand.tmp 26), type := 40, pos := "law.go:115", after := #[{ on := 11, ground := Go.Ground.guard }], guard := some (11, true) }) (v := .agg X) rfl (by kernel_rfl) (by kernel_rfl) (by kernel_rfl) (fun _ _ _ h => h) (by rw [← HCx.out]; exact yieldsIf_load_mid (by rfl) _ _ rfl _ _ rfl _ _ (fun w hw => hw.2.1) hu hd ix) (by assumption) ?_
  simp only [Act.put, List.setIfInBounds_toArray, List.set_cons_zero, List.set_cons_succ]
  refine' wpAnyH_take (i := 15) (oi := { dst := some 205, op := Go.Op.move (Go.Operand.tmp 15), type := 31, pos := "law.go:115", after := #[{ on := 11, ground := Go.Ground.guard }], guard := some (11, true) }) (v := _) rfl (by kernel_rfl) (by kernel_rfl) (by kernel_rfl) (fun _ _ _ h => h) (Or.inl ⟨by rfl, ?_⟩) (by assumption) ?_
  rotate_left
  · intro w hSw; (try dsimp only at hSw); go_simp <;> with_reducible rfl
  simp only [Act.put, List.setIfInBounds_toArray, List.set_cons_zero, List.set_cons_succ]
  refine' wpAnyH_take (i := 16) (oi := { dst := some 206, op := Go.Op.convert 31 9 (Go.Operand.tmp 205), type := 9, pos := "law.go:115", after := #[{ on := 15, ground := Go.Ground.data }, { on := 11, ground := Go.Ground.guard }], guard := some (11, true) }) (v := _) rfl (by kernel_rfl) (by kernel_rfl) (by kernel_rfl) (fun _ _ _ h => h) (Or.inl ⟨by rfl, ?_⟩) (by assumption) ?_
  rotate_left
  · intro w hSw; (try dsimp only at hSw); go_simp <;> with_reducible rfl
  simp only [Act.put, List.setIfInBounds_toArray, List.set_cons_zero, List.set_cons_succ]
  refine wpAnyH_ready (rs := [13]) (by kernel_rfl) (by simp) ?_
  refine AllReadyH.cons rfl (fun K hK => ?_) AllReadyH.nil
  go_simp
  go_wp2_with (first | (go_at_call 16; (with_reducible refine (HEN.out _ HT0.out).mono ?_); rintro e q2 ⟨v2, rfl, hO⟩; have HT2 : Hid (Turn [] W q2) := HT0.out.trans hO.old; obtain ⟨va7, vc7, rfl⟩ := own_form hO.own; have hcr7 := text_at (own_bytesAt hO.own) LB.length vc7 rfl; clear hO) | fail)
  refine hK.out _ _ ?_ (fun hHeld => ?_)
  · exact HS.out _ HT2.out
  clear hK K
  try simp only [Act.put, List.setIfInBounds_toArray, List.set_cons_zero, List.set_cons_succ]
  refine wpAnyH_ready (rs := [14]) (by kernel_rfl) (by simp) ?_
  refine AllReadyH.cons rfl (fun K hK => ?_) AllReadyH.nil
  go_simp
  go_wp2_with fail
  refine hK.out _ _ ?_ (fun hHeld => ?_)
  · exact HS.out _ HT2.out
  clear hK K hcr7
  try simp only [Act.put, List.setIfInBounds_toArray, List.set_cons_zero, List.set_cons_succ]
  refine' wpAnyH_take (i := 17) (oi := { dst := some 207, op := Go.Op.binOp Go.BinOp.neq 9 (Go.Operand.tmp 204) (Go.Operand.tmp 206) 9, type := 4, pos := "law.go:115", after := #[{ on := 14, ground := Go.Ground.data }, { on := 16, ground := Go.Ground.data }, { on := 11, ground := Go.Ground.guard }], guard := some (11, true) }) (v := _) rfl (by kernel_rfl) (by kernel_rfl) (by kernel_rfl) (fun _ _ _ h => h) (Or.inl ⟨by rfl, ?_⟩) (by assumption) ?_
  rotate_left
  · intro w hSw; (try dsimp only at hSw); go_simp <;> with_reducible rfl
  simp only [Act.put, List.setIfInBounds_toArray, List.set_cons_zero, List.set_cons_succ]
  refine' wpAnyH_take (i := 18) (oi := { dst := some 208, op := Go.Op.pick (Go.Operand.tmp 201) (Go.Operand.tmp 207) (Go.Operand.const (Go.Value.bool false)), type := 4, pos := "law.go:115", after := #[{ on := 11, ground := Go.Ground.data }, { on := 17, ground := Go.Ground.data }, { on := 8, ground := Go.Ground.guard }], guard := some (8, false) }) (v := _) rfl (by kernel_rfl) (by kernel_rfl) (by kernel_rfl) (fun _ _ _ h => h) (Or.inl ⟨by rfl, ?_⟩) (by assumption) ?_
  rotate_left
  · intro w hSw; (try dsimp only at hSw); go_simp <;> with_reducible rfl
  simp only [Act.put, List.setIfInBounds_toArray, List.set_cons_zero, List.set_cons_succ]
  refine' wpAnyH_take (i := 19) (oi := { dst := some 209, op := Go.Op.pick (Go.Operand.tmp 198) (Go.Operand.const (Go.Value.bool true)) (Go.Operand.tmp 208), type := 4, pos := "law.go:115", after := #[{ on := 8, ground := Go.Ground.data }, { on := 18, ground := Go.Ground.data }], guard := none }) (v := _) rfl (by kernel_rfl) (by kernel_rfl) (by kernel_rfl) (fun _ _ _ h => h) (Or.inl ⟨by rfl, ?_⟩) (by assumption) ?_
  rotate_left
  · intro w hSw; (try dsimp only at hSw); go_simp <;> with_reducible rfl
  simp only [Act.put, List.setIfInBounds_toArray, List.set_cons_zero, List.set_cons_succ]
  refine wpAnyH_done (by kernel_rfl) ?_ _
  refine NoPanic.normal ?_
  exact HQ.out _ _ _ _ _ _ _ _ _ _ _ _ _ _ _ _ _ _ _ _ HT2.out

set_option maxRecDepth 100000 in
set_option maxHeartbeats 12800000 in
theorem reg5_32_bad (W : World) {g0 g1 g2 g3 g4 g5 g6 g7 g8 g9 g10 g11 g12 g13 g14 g16 g17 g18 g19 g20 g21 g22 g23 g24 g25 g30 g31 g32 g33 g34 g35 g36 g37 g38 g39 g40 g41 g42 g43 g44 g45 g46 g47 g48 g49 g50 g51 g52 g53 g54 g55 g56 g57 g58 g59 g60 g61 g62 g63 g64 g65 g66 g67 g68 g69 g70 g71 g72 g73 g74 g75 g76 g77 g78 g79 g80 g81 g82 g83 g84 g85 g86 g87 g88 g89 g90 g91 g92 g93 g94 g95 g96 g97 g98 g99 g100 g101 g102 g103 g104 g105 g106 g107 g108 g109 g110 g111 g112 g113 g114 g115 g116 g117 g118 g119 g120 g121 g122 g123 g124 g125 g126 g127 g128 g129 g130 g131 g132 g133 g134 g135 g136 g137 g138 g139 g140 g141 g142 g143 g144 g145 g146 g147 g148 g149 g150 g151 g152 g153 g154 g155 g156 g157 g158 g159 g160 g161 g162 g163 g164 g165 g166 g167 g168 g169 g170 g171 g172 g173 g174 g175 g176 g177 g178 g179 g180 g181 g182 g183 g184 g185 g186 g187 g188 g189 g190 g191 g192 g193 g194 g195 g196 g197 g198 g199 g200 g201 g202 g203 g204 g205 g206 g207 g208 g209 : Value} (cx cy : List Value) (bx bz capb f : Nat) (ba : Option Addr) (LB : List Nat) (Q : Exit → Act → World → Prop)
    (lx : cx.length = 9) (ly : cy.length = 9) (hf : ¬ f = 0)
    (HS : Hid (∀ w', Turn [] W w' → (convert 31 9 (.slice ba LB.length capb)).run Try.prog w' = .ok (.string (textOf LB)) w' ∧ w'.rangeAt bx 0 cx ∧ w'.rangeAt bz 0 cy))
    (HSM : ∀ w', (binOp .neq 40 (.agg cx.toArray) (.agg cy.toArray)).run Try.prog w' = .ok (.bool false) w')
    (hQ : ∀ (t190 t191 t192 t193 t194 t195 t196 t197 t198 t199 t200 t201 t202 t203 t204 t205 t206 t207 t208 : Value) w', Turn [] W w' → Q .normal ⟨#[g0, g1, g2, g3, g4, g5, g6, g7, g8, g9, g10, g11, g12, g13, g14, .slice ba LB.length capb, g16, g17, g18, g19, g20, g21, g22, g23, g24, g25, .pointer (some ⟨bx, 0, none⟩), .int .i64 (f : Nat), .pointer (some ⟨bz, 0, none⟩), .int .i64 (f : Nat), g30, g31, g32, g33, g34, g35, g36, g37, g38, g39, g40, g41, g42, g43, g44, g45, g46, g47, g48, g49, g50, g51, g52, g53, g54, g55, g56, g57, g58, g59, g60, g61, g62, g63, g64, g65, g66, g67, g68, g69, g70, g71, g72, g73, g74, g75, g76, g77, g78, g79, g80, g81, g82, g83, g84, g85, g86, g87, g88, g89, g90, g91, g92, g93, g94, g95, g96, g97, g98, g99, g100, g101, g102, g103, g104, g105, g106, g107, g108, g109, g110, g111, g112, g113, g114, g115, g116, g117, g118, g119, g120, g121, g122, g123, g124, g125, g126, g127, g128, g129, g130, g131, g132, g133, g134, g135, g136, g137, g138, g139, g140, g141, g142, g143, g144, g145, g146, g147, g148, g149, g150, g151, g152, g153, g154, g155, g156, g157, g158, g159, g160, g161, g162, g163, g164, g165, g166, g167, g168, g169, g170, g171, g172, g173, g174, g175, g176, g177, g178, g179, g180, g181, g182, g183, g184, g185, g186, g187, g188, g189, t190, t191, t192, t193, t194, t195, t196, t197, t198, t199, t200, t201, t202, t203, t204, t205, t206, t207, t208, .bool false], []⟩ w') :
    Code.wp Try.prog (reg5 32) Q ⟨#[g0, g1, g2, g3, g4, g5, g6, g7, g8, g9, g10, g11, g12, g13, g14, .slice ba LB.length capb, g16, g17, g18, g19, g20, g21, g22, g23, g24, g25, .pointer (some ⟨bx, 0, none⟩), .int .i64 (f : Nat), .pointer (some ⟨bz, 0, none⟩), .int .i64 (f : Nat), g30, g31, g32, g33, g34, g35, g36, g37, g38, g39, g40, g41, g42, g43, g44, g45, g46, g47, g48, g49, g50, g51, g52, g53, g54, g55, g56, g57, g58, g59, g60, g61, g62, g63, g64, g65, g66, g67, g68, g69, g70, g71, g72, g73, g74, g75, g76, g77, g78, g79, g80, g81, g82, g83, g84, g85, g86, g87, g88, g89, g90, g91, g92, g93, g94, g95, g96, g97, g98, g99, g100, g101, g102, g103, g104, g105, g106, g107, g108, g109, g110, g111, g112, g113, g114, g115, g116, g117, g118, g119, g120, g121, g122, g123, g124, g125, g126, g127, g128, g129, g130, g131, g132, g133, g134, g135, g136, g137, g138, g139, g140, g141, g142, g143, g144, g145, g146, g147, g148, g149, g150, g151, g152, g153, g154, g155, g156, g157, g158, g159, g160, g161, g162, g163, g164, g165, g166, g167, g168, g169, g170, g171, g172, g173, g174, g175, g176, g177, g178, g179, g180, g181, g182, g183, g184, g185, g186, g187, g188, g189, g190, g191, g192, g193, g194, g195, g196, g197, g198, g199, g200, g201, g202, g203, g204, g205, g206, g207, g208, g209], []⟩ W := by
  conv => arg 2; whnf
  dsimp only
  have HQ := hide hQ
  obtain ⟨hi0, dt, hu, hd⟩ := sz40
  have ix : (Try.prog.info? 40).map (·.size) = some cx.length := by rw [hi0, lx]
  have iy : (Try.prog.info? 40).map (·.size) = some cy.length := by rw [hi0, ly]
  have HT0 : Hid (Turn [] W W.drew) := (Turn.refl [] W).drew
  have hfn : ¬ ((f : Nat) : Int) = 0 := fun k => hf (Int.ofNat.inj k)
  clear hQ lx ly hi0
  generalize hcx : cx.toArray = X at *
  generalize hcy : cy.toArray = Y at *
  have HCx := hide hcx
  have HCy := hide hcy
  clear hcx hcy
  refine wp_region_noPanic ?_
  refine wp_region_held_drew (S := fun w' => (convert 31 9 (.slice ba LB.length capb)).run Try.prog w' = .ok (.string (textOf LB)) w' ∧ w'.rangeAt bx 0 cx ∧ w'.rangeAt bz 0 cy) (by kernel_rfl) (HS.out _ HT0.out) (fun hHeld => ?_)
  refine' wpAnyH_take (i := 0) (oi := { dst := some 190, op := Go.Op.move (Go.Operand.tmp 27), type := 33, pos := "law.go:115", after := #[], guard := none }) (v := _) rfl (by kernel_rfl) (by kernel_rfl) (by kernel_rfl) (fun _ _ _ h => h) (Or.inl ⟨by rfl, ?_⟩) (by assumption) ?_
  rotate_left
  · intro w hSw; (try dsimp only at hSw); go_simp <;> with_reducible rfl
  simp only [Act.put, List.setIfInBounds_toArray, List.set_cons_zero, List.set_cons_succ]
  refine' wpAnyH_take (i := 1) (oi := { dst := some 191, op := Go.Op.move (Go.Operand.tmp 29), type := 3, pos := "law.go:115", after := #[], guard := none }) (v := _) rfl (by kernel_rfl) (by kernel_rfl) (by kernel_rfl) (fun _ _ _ h => h) (Or.inl ⟨by rfl, ?_⟩) (by assumption) ?_
  rotate_left
  · intro w hSw; (try dsimp only at hSw); go_simp <;> with_reducible rfl
  simp only [Act.put, List.setIfInBounds_toArray, List.set_cons_zero, List.set_cons_succ]
  refine' wpAnyH_take (i := 2) (oi := { dst := some 192, op := Go.Op.binOp Go.BinOp.neq 3 (Go.Operand.tmp 190) (Go.Operand.tmp 191) 3, type := 4, pos := "law.go:115", after := #[{ on := 0, ground := Go.Ground.data }, { on := 1, ground := Go.Ground.data }], guard := none }) (v := _) rfl (by kernel_rfl) (by kernel_rfl) (by kernel_rfl) (fun _ _ _ h => h) (Or.inl ⟨by rfl, ?_⟩) (by assumption) ?_
  rotate_left
  · intro w hSw; (try dsimp only at hSw); go_simp <;> with_reducible rfl
  simp only [Act.put, List.setIfInBounds_toArray, List.set_cons_zero, List.set_cons_succ]
  refine' wpAnyH_take (i := 3) (oi := { dst := some 193, op := Go.Op.move (Go.Operand.tmp 192), type := 4, pos := "law.go:115", after := #[{ on := 2, ground := Go.Ground.data }], guard := none }) (v := _) rfl (by kernel_rfl) (by kernel_rfl) (by kernel_rfl) (fun _ _ _ h => h) (Or.inl ⟨by rfl, ?_⟩) (by assumption) ?_
  rotate_left
  · intro w hSw; (try dsimp only at hSw); go_simp <;> with_reducible rfl
  simp only [Act.put, List.setIfInBounds_toArray, List.set_cons_zero, List.set_cons_succ]
  refine' wpAnyH_take (i := 4) (oi := { dst := some 194, op := Go.Op.load 40 (Go.Operand.tmp 26), type := 40, pos := "law.go:115", after := #[{ on := 3, ground := Go.Ground.guard }], guard := some (3, false) }) (v := .agg X) rfl (by kernel_rfl) (by kernel_rfl) (by kernel_rfl) (fun _ _ _ h => h) (by rw [← HCx.out]; exact yieldsIf_load_mid (by rfl) _ _ rfl _ _ rfl _ _ (fun w hw => hw.2.1) hu hd ix) (by assumption) ?_
  simp only [Act.put, List.setIfInBounds_toArray, List.set_cons_zero, List.set_cons_succ]
  refine' wpAnyH_take (i := 5) (oi := { dst := some 195, op := Go.Op.load 40 (Go.Operand.tmp 28), type := 40, pos := "law.go:115", after := #[{ on := 3, ground := Go.Ground.guard }], guard := some (3, false) }) (v := .agg Y) rfl (by kernel_rfl) (by kernel_rfl) (by kernel_rfl) (fun _ _ _ h => h) (by rw [← HCy.out]; exact yieldsIf_load_mid (by rfl) _ _ rfl _ _ rfl _ _ (fun w hw => hw.2.2) hu hd iy) (by assumption) ?_
  simp only [Act.put, List.setIfInBounds_toArray, List.set_cons_zero, List.set_cons_succ]
  refine' wpAnyH_take (i := 6) (oi := { dst := some 196, op := Go.Op.binOp Go.BinOp.neq 40 (Go.Operand.tmp 194) (Go.Operand.tmp 195) 40, type := 4, pos := "law.go:115", after := #[{ on := 4, ground := Go.Ground.data }, { on := 5, ground := Go.Ground.data }, { on := 3, ground := Go.Ground.guard }], guard := some (3, false) }) (v := _) rfl (by kernel_rfl) (by kernel_rfl) (by kernel_rfl) (fun _ _ _ h => h) (Or.inl ⟨by rfl, ?_⟩) (by assumption) ?_
  rotate_left
  · intro w hSw; (try dsimp only at hSw); go_simp <;> with_reducible rfl
  simp only [Act.put, List.setIfInBounds_toArray, List.set_cons_zero, List.set_cons_succ]
  refine' wpAnyH_take (i := 7) (oi := { dst := some 197, op := Go.Op.pick (Go.Operand.tmp 193) (Go.Operand.const (Go.Value.bool true)) (Go.Operand.tmp 196), type := 4, pos := "law.go:115", after := #[{ on := 3, ground := Go.Ground.data }, { on := 6, ground := Go.Ground.data }], guard := none }) (v := _) rfl (by kernel_rfl) (by kernel_rfl) (by kernel_rfl) (fun _ _ _ h => h) (Or.inl ⟨by rfl, ?_⟩) (by assumption) ?_
  rotate_left
  · intro w hSw; (try dsimp only at hSw); go_simp <;> with_reducible rfl
  simp only [Act.put, List.setIfInBounds_toArray, List.set_cons_zero, List.set_cons_succ]
  refine' wpAnyH_take (i := 8) (oi := { dst := some 198, op := Go.Op.move (Go.Operand.tmp 197), type := 4, pos := "law.go:115", after := #[{ on := 7, ground := Go.Ground.data }, { on := 3, ground := Go.Ground.chain }], guard := none }) (v := _) rfl (by kernel_rfl) (by kernel_rfl) (by kernel_rfl) (fun _ _ _ h => h) (Or.inl ⟨by rfl, ?_⟩) (by assumption) ?_
  rotate_left
  · intro w hSw; (try dsimp only at hSw); go_simp <;> with_reducible rfl
  simp only [Act.put, List.setIfInBounds_toArray, List.set_cons_zero, List.set_cons_succ]
  refine' wpAnyH_take (i := 9) (oi := { dst := some 199, op := Go.Op.move (Go.Operand.tmp 29), type := 3, pos := "law.go:115", after := #[{ on := 8, ground := Go.Ground.guard }], guard := some (8, false) }) (v := _) rfl (by kernel_rfl) (by kernel_rfl) (by kernel_rfl) (fun _ _ _ h => h) (Or.inl ⟨by rfl, ?_⟩) (by assumption) ?_
  rotate_left
  · intro w hSw; (try dsimp only at hSw); go_simp <;> with_reducible rfl
  simp only [Act.put, List.setIfInBounds_toArray, List.set_cons_zero, List.set_cons_succ]
  refine' wpAnyH_take (i := 10) (oi := { dst := some 200, op := Go.Op.binOp Go.BinOp.eql 3 (Go.Operand.tmp 199) (Go.Operand.const (Go.Value.int Go.IntKind.i64 0)) 3, type := 4, pos := "law.go:115", after := #[{ on := 9, ground := Go.Ground.data }, { on := 8, ground := Go.Ground.guard }], guard := some (8, false) }) (v := .bool false) rfl (by kernel_rfl) (by kernel_rfl) (by kernel_rfl) (fun _ _ _ h => h) (Or.inl ⟨by rfl, ?_⟩) (by assumption) ?_
  · intro w hSw; (try dsimp only at hSw); go_simp <;> first | with_reducible rfl | (simp [hfn]; done)
  simp only [Act.put, List.setIfInBounds_toArray, List.set_cons_zero, List.set_cons_succ]
  refine' wpAnyH_take (i := 11) (oi := { dst := some 201, op := Go.Op.move (Go.Operand.tmp 200), type := 4, pos := "law.go:115", after := #[{ on := 10, ground := Go.Ground.data }, { on := 8, ground := Go.Ground.chain }, { on := 8, ground := Go.Ground.guard }], guard := some (8, false) }) (v := _) rfl (by kernel_rfl) (by kernel_rfl) (by kernel_rfl) (fun _ _ _ h => h) (Or.inl ⟨by rfl, ?_⟩) (by assumption) ?_
  rotate_left
  · intro w hSw; (try dsimp only at hSw); go_simp <;> with_reducible rfl
  simp only [Act.put, List.setIfInBounds_toArray, List.set_cons_zero, List.set_cons_succ]
  refine wpAnyH_take (i := 12) (oi := { dst := some 202, op := Go.Op.load 40 (Go.Operand.tmp 26), type := 40, pos := "law.go:115", after := #[{ on := 11, ground := Go.Ground.guard }], guard := some (11, true) }) (v := undef) rfl (by kernel_rfl) (by kernel_rfl) (by kernel_rfl) (fun _ _ _ h => h) (Or.inr ⟨by rfl, rfl⟩) (by assumption) ?_
  simp only [Act.put, List.setIfInBounds_toArray, List.set_cons_zero, List.set_cons_succ]
  refine wpAnyH_take (i := 13) (oi := { dst := some 203, op := Go.Op.call { callee := Go.Callee.value (Go.Operand.func 16), args := #[Go.Operand.tmp 202], argTypes := #[40] }, type := 31, pos := "law.go:115", after := #[{ on := 12, ground := Go.Ground.data }, { on := 11, ground := Go.Ground.chain }, { on := 11, ground := Go.Ground.guard }], guard := some (11, true) }) (v := undef) rfl (by kernel_rfl) (by kernel_rfl) (by kernel_rfl) (fun _ _ _ h => h) (Or.inr ⟨by rfl, rfl⟩) (by assumption) ?_
  simp only [Act.put, List.setIfInBounds_toArray, List.set_cons_zero, List.set_cons_succ]
  refine wpAnyH_take (i := 14) (oi := { dst := some 204, op := Go.Op.convert 31 9 (Go.Operand.tmp 203), type := 9, pos := "law.go:115", after := #[{ on := 13, ground := Go.Ground.data }, { on := 11, ground := Go.Ground.guard }], guard := some (11, true) }) (v := undef) rfl (by kernel_rfl) (by kernel_rfl) (by kernel_rfl) (fun _ _ _ h => h) (Or.inr ⟨by rfl, rfl⟩) (by assumption) ?_
  simp only [Act.put, List.setIfInBounds_toArray, List.set_cons_zero, List.set_cons_succ]
  refine wpAnyH_take (i := 15) (oi := { dst := some 205, op := Go.Op.move (Go.Operand.tmp 15), type := 31, pos := "law.go:115", after := #[{ on := 11, ground := Go.Ground.guard }], guard := some (11, true) }) (v := undef) rfl (by kernel_rfl) (by kernel_rfl) (by kernel_rfl) (fun _ _ _ h => h) (Or.inr ⟨by rfl, rfl⟩) (by assumption) ?_
  simp only [Act.put, List.setIfInBounds_toArray, List.set_cons_zero, List.set_cons_succ]
  refine wpAnyH_take (i := 16) (oi := { dst := some 206, op := Go.Op.convert 31 9 (Go.Operand.tmp 205), type := 9, pos := "law.go:115", after := #[{ on := 15, ground := Go.Ground.data }, { on := 11, ground := Go.Ground.guard }], guard := some (11, true) }) (v := undef) rfl (by kernel_rfl) (by kernel_rfl) (by kernel_rfl) (fun _ _ _ h => h) (Or.inr ⟨by rfl, rfl⟩) (by assumption) ?_
  simp only [Act.put, List.setIfInBounds_toArray, List.set_cons_zero, List.set_cons_succ]
  refine wpAnyH_take (i := 17) (oi := { dst := some 207, op := Go.Op.binOp Go.BinOp.neq 9 (Go.Operand.tmp 204) (Go.Operand.tmp 206) 9, type := 4, pos := "law.go:115", after := #[{ on := 14, ground := Go.Ground.data }, { on := 16, ground := Go.Ground.data }, { on := 11, ground := Go.Ground.guard }], guard := some (11, true) }) (v := undef) rfl (by kernel_rfl) (by kernel_rfl) (by kernel_rfl) (fun _ _ _ h => h) (Or.inr ⟨by rfl, rfl⟩) (by assumption) ?_
  simp only [Act.put, List.setIfInBounds_toArray, List.set_cons_zero, List.set_cons_succ]
  refine' wpAnyH_take (i := 18) (oi := { dst := some 208, op := Go.Op.pick (Go.Operand.tmp 201) (Go.Operand.tmp 207) (Go.Operand.const (Go.Value.bool false)), type := 4, pos := "law.go:115", after := #[{ on := 11, ground := Go.Ground.data }, { on := 17, ground := Go.Ground.data }, { on := 8, ground := Go.Ground.guard }], guard := some (8, false) }) (v := _) rfl (by kernel_rfl) (by kernel_rfl) (by kernel_rfl) (fun _ _ _ h => h) (Or.inl ⟨by rfl, ?_⟩) (by assumption) ?_
  rotate_left
  · intro w hSw; (try dsimp only at hSw); go_simp <;> with_reducible rfl
  simp only [Act.put, List.setIfInBounds_toArray, List.set_cons_zero, List.set_cons_succ]
  refine' wpAnyH_take (i := 19) (oi := { dst := some 209, op := Go.Op.pick (Go.Operand.tmp 198) (Go.Operand.const (Go.Value.bool true)) (Go.Operand.tmp 208), type := 4, pos := "law.go:115", after := #[{ on := 8, ground := Go.Ground.data }, { on := 18, ground := Go.Ground.data }], guard := none }) (v := _) rfl (by kernel_rfl) (by kernel_rfl) (by kernel_rfl) (fun _ _ _ h => h) (Or.inl ⟨by rfl, ?_⟩) (by assumption) ?_
  rotate_left
  · intro w hSw; (try dsimp only at hSw); go_simp <;> with_reducible rfl
  simp only [Act.put, List.setIfInBounds_toArray, List.set_cons_zero, List.set_cons_succ]
  refine wpAnyH_done (by kernel_rfl) ?_ _
  refine NoPanic.normal ?_
  exact HQ.out _ _ _ _ _ _ _ _ _ _ _ _ _ _ _ _ _ _ _ _ HT0.out
end Go.Proofs.Ytghgkjollafeiaa

/-
  RecTurns: a number within bounds; a byte that is turned.
-/
namespace Go.Proofs.Ytghgkjollafeiaa
open Go.RowKit

/-- What within answers. -/
def WinP (n : Nat) (w : World) (e : Ending) (w' : World) : Prop := ∃ k : Nat, e = .returned (.int .i64 (k : Nat)) ∧ k < n ∧ w' = w
set_option maxRecDepth 100000 in
set_option maxHeartbeats 1600000 in
theorem rwithin (x : Int) (n : Nat) (hn : 0 < n) (hl : n ≤ 2000000) (w : World) : Calls Try.prog 22 #[.int .i64 x, .int .i64 (n : Nat)] w fun e w' => WinP n w e w' := by
  have hne : ¬ ((n : Nat) : Int) = 0 := by omega
  have h1 : -(n : Int) < Int.tmod x n ∧ Int.tmod x n < n := by
    have hp : (0 : Int) < n := by omega
    refine ⟨?_, Int.tmod_lt_of_pos x hp⟩
    have := Int.tmod_lt_of_pos (-x) hp
    rw [Int.neg_tmod] at this
    omega
  have HW1 : Hid (∀ k : Int, 0 ≤ k → k < n → WinP n w (.returned (.int .i64 k)) w) := fun k h0 h2 => ⟨k.toNat, by rw [Int.toNat_of_nonneg h0], by omega, rfl⟩
  go_enter Try.func22, Try.ntmps22
  go_upto_region 2 with fail
  generalize Int.tmod x n = rr at *
  by_cases hr : rr < 0
  · go_wp2_with fail
    go_ret
    exact HW1.out _ (by omega) (by omega)
  · go_wp2_with fail
    go_ret
    exact HW1.out _ (by omega) (by omega)

set_option maxRecDepth 100000 in
set_option maxHeartbeats 12800000 in
theorem reg13_any {W : World} {g0 g1 g4 g5 g6 g7 g8 g9 g10 g11 g12 g13 g14 g17 g18 g19 g20 g21 g22 g23 g24 g25 g26 g27 g28 g29 g30 g31 g32 g33 g34 g35 g36 g37 g38 g39 g40 g41 g42 g43 g44 g45 g46 g47 g48 g49 g50 g51 g52 g53 g54 g55 g56 g57 g58 g59 g60 g61 g62 g63 g64 g65 g66 g67 g68 g69 g70 g71 g72 g73 g74 g75 g76 g77 g78 g79 g80 g81 g82 g83 g84 g85 g86 g87 g88 g89 g90 g91 g92 g93 g94 g95 g96 g97 g98 g99 g100 g101 g102 g103 g104 g105 g106 g107 g108 g109 g110 g111 g112 g113 g114 g115 g116 g117 g118 g119 g120 g121 g122 g123 g124 g125 g126 g127 g128 g129 g130 g131 g132 g133 g134 g135 g136 g137 g138 g139 g140 g141 g142 g143 g144 g145 g146 g147 g148 g149 g150 g151 g152 g153 g154 g155 g156 g157 g158 g159 g160 g161 g162 g163 g164 g165 g166 g167 g168 g169 g170 g171 g172 g173 g174 g175 g176 g177 g178 g179 g180 g181 g182 g183 g184 g185 g186 g187 g188 g189 g190 g191 g192 g193 g194 g195 g196 g197 g198 g199 g200 g201 g202 g203 g204 g205 g206 g207 g208 g209 : Value} (L : List Nat) (aa ao na ca yb yo ny cy gb capb i yv : Nat) (av : Int) (Q : Exit → Act → World → Prop)
    (hia : i < na) (hiy : i < ny) (hL0 : 0 < L.length) (hLl : L.length ≤ 1000000) (_hcap : L.length ≤ capb) (_hyv : yv < 256) (hByt : Byt L)
    (HS : Hid (∀ w' : World, (∀ b, b ≠ gb → w'.heap[b]? = W.heap[b]?) → w'.cell? ⟨aa, ao + i, none⟩ = some (.int .i64 av) ∧ w'.cell? ⟨yb, yo + i, none⟩ = some (.int .u8 (yv : Nat)))) (hR : W.rangeAt gb 0 (L.map byteCell)) (hfz : ∀ o, W.frozen? ⟨gb, o, none⟩ = false)
    (HQ : Hid (∀ (t78 t79 t80 t81 t82 t83 t84 t85 t86 t87 t88 t89 t90 t91 t92 t93 : Value) (k z : Nat) w', k < L.length → z < 256 → w'.heap = (W.setCell ⟨gb, k, none⟩ (.int .u8 (z : Nat))).heap → w'.os = W.os → w'.tape = W.tape → w'.output = W.output → Q .normal ⟨#[g0, g1, .slice (some ⟨aa, ao, none⟩) na ca, .slice (some ⟨yb, yo, none⟩) ny cy, g4, g5, g6, g7, g8, g9, g10, g11, g12, g13, g14, .slice (some ⟨gb, 0, none⟩) L.length capb, .int .i64 (i : Nat), g17, g18, g19, g20, g21, g22, g23, g24, g25, g26, g27, g28, g29, g30, g31, g32, g33, g34, g35, g36, g37, g38, g39, g40, g41, g42, g43, g44, g45, g46, g47, g48, g49, g50, g51, g52, g53, g54, g55, g56, g57, g58, g59, g60, g61, g62, g63, g64, g65, g66, g67, g68, g69, g70, g71, g72, g73, g74, g75, g76, g77, t78, t79, t80, t81, t82, t83, t84, t85, t86, t87, t88, t89, t90, t91, t92, t93, g94, g95, g96, g97, g98, g99, g100, g101, g102, g103, g104, g105, g106, g107, g108, g109, g110, g111, g112, g113, g114, g115, g116, g117, g118, g119, g120, g121, g122, g123, g124, g125, g126, g127, g128, g129, g130, g131, g132, g133, g134, g135, g136, g137, g138, g139, g140, g141, g142, g143, g144, g145, g146, g147, g148, g149, g150, g151, g152, g153, g154, g155, g156, g157, g158, g159, g160, g161, g162, g163, g164, g165, g166, g167, g168, g169, g170, g171, g172, g173, g174, g175, g176, g177, g178, g179, g180, g181, g182, g183, g184, g185, g186, g187, g188, g189, g190, g191, g192, g193, g194, g195, g196, g197, g198, g199, g200, g201, g202, g203, g204, g205, g206, g207, g208, g209], []⟩ w')) :
    Code.wp Try.prog (reg5 13) Q ⟨#[g0, g1, .slice (some ⟨aa, ao, none⟩) na ca, .slice (some ⟨yb, yo, none⟩) ny cy, g4, g5, g6, g7, g8, g9, g10, g11, g12, g13, g14, .slice (some ⟨gb, 0, none⟩) L.length capb, .int .i64 (i : Nat), g17, g18, g19, g20, g21, g22, g23, g24, g25, g26, g27, g28, g29, g30, g31, g32, g33, g34, g35, g36, g37, g38, g39, g40, g41, g42, g43, g44, g45, g46, g47, g48, g49, g50, g51, g52, g53, g54, g55, g56, g57, g58, g59, g60, g61, g62, g63, g64, g65, g66, g67, g68, g69, g70, g71, g72, g73, g74, g75, g76, g77, g78, g79, g80, g81, g82, g83, g84, g85, g86, g87, g88, g89, g90, g91, g92, g93, g94, g95, g96, g97, g98, g99, g100, g101, g102, g103, g104, g105, g106, g107, g108, g109, g110, g111, g112, g113, g114, g115, g116, g117, g118, g119, g120, g121, g122, g123, g124, g125, g126, g127, g128, g129, g130, g131, g132, g133, g134, g135, g136, g137, g138, g139, g140, g141, g142, g143, g144, g145, g146, g147, g148, g149, g150, g151, g152, g153, g154, g155, g156, g157, g158, g159, g160, g161, g162, g163, g164, g165, g166, g167, g168, g169, g170, g171, g172, g173, g174, g175, g176, g177, g178, g179, g180, g181, g182, g183, g184, g185, g186, g187, g188, g189, g190, g191, g192, g193, g194, g195, g196, g197, g198, g199, g200, g201, g202, g203, g204, g205, g206, g207, g208, g209], []⟩ W := by
  conv => arg 2; whnf
  dsimp only
  have HC := hide (fun w' => rwithin av L.length hL0 (by omega) w')
  unfold WinP at HC
  refine wp_region_noPanic ?_
  refine wp_region_held_drew (S := fun w' => w'.cell? ⟨aa, ao + i, none⟩ = some (.int .i64 av) ∧ w'.cell? ⟨yb, yo + i, none⟩ = some (.int .u8 (yv : Nat))) (by kernel_rfl) (HS.out _ (fun _ _ => rfl)) (fun hHeld => ?_)
  refine' wpAnyH_take (i := 0) (oi := { dst := some 78, op := Go.Op.move (Go.Operand.tmp 15), type := 31, pos := "law.go:92", after := #[], guard := none }) (v := _) rfl (by kernel_rfl) (by kernel_rfl) (by kernel_rfl) (fun _ _ _ h => h) (Or.inl ⟨by rfl, ?_⟩) (by assumption) ?_
  rotate_left
  · intro w hSw; (try dsimp only at hSw); go_simp <;> with_reducible rfl
  simp only [Act.put, List.setIfInBounds_toArray, List.set_cons_zero, List.set_cons_succ]
  refine' wpAnyH_take (i := 1) (oi := { dst := some 79, op := Go.Op.move (Go.Operand.tmp 2), type := 51, pos := "law.go:92", after := #[], guard := none }) (v := _) rfl (by kernel_rfl) (by kernel_rfl) (by kernel_rfl) (fun _ _ _ h => h) (Or.inl ⟨by rfl, ?_⟩) (by assumption) ?_
  rotate_left
  · intro w hSw; (try dsimp only at hSw); go_simp <;> with_reducible rfl
  simp only [Act.put, List.setIfInBounds_toArray, List.set_cons_zero, List.set_cons_succ]
  refine' wpAnyH_take (i := 2) (oi := { dst := some 80, op := Go.Op.move (Go.Operand.tmp 16), type := 3, pos := "law.go:92", after := #[], guard := none }) (v := _) rfl (by kernel_rfl) (by kernel_rfl) (by kernel_rfl) (fun _ _ _ h => h) (Or.inl ⟨by rfl, ?_⟩) (by assumption) ?_
  rotate_left
  · intro w hSw; (try dsimp only at hSw); go_simp <;> with_reducible rfl
  simp only [Act.put, List.setIfInBounds_toArray, List.set_cons_zero, List.set_cons_succ]
  refine' wpAnyH_take (i := 3) (oi := { dst := some 81, op := Go.Op.indexAddr 51 (Go.Operand.tmp 79) (Go.Operand.tmp 80), type := 0, pos := "law.go:92", after := #[{ on := 1, ground := Go.Ground.data }, { on := 2, ground := Go.Ground.data }], guard := none }) (v := _) rfl (by kernel_rfl) (by kernel_rfl) (by kernel_rfl) (fun _ _ _ h => h) (Or.inl ⟨by rfl, ?_⟩) (by assumption) ?_
  rotate_left
  · intro w hSw; (try dsimp only at hSw); go_simp <;> with_reducible rfl
  simp only [Act.put, List.setIfInBounds_toArray, List.set_cons_zero, List.set_cons_succ]
  refine' wpAnyH_take (i := 4) (oi := { dst := some 82, op := Go.Op.load 3 (Go.Operand.tmp 81), type := 3, pos := "law.go:92", after := #[{ on := 3, ground := Go.Ground.data }], guard := none }) (v := _) rfl (by kernel_rfl) (by kernel_rfl) (by kernel_rfl) (fun _ _ _ h => h) (Or.inl ⟨by rfl, ?_⟩) (by assumption) ?_
  rotate_left
  · intro w hSw; (try dsimp only at hSw); go_simp <;> with_reducible rfl
  simp only [Act.put, List.setIfInBounds_toArray, List.set_cons_zero, List.set_cons_succ]
  refine' wpAnyH_take (i := 5) (oi := { dst := some 83, op := Go.Op.move (Go.Operand.tmp 15), type := 31, pos := "law.go:92", after := #[], guard := none }) (v := _) rfl (by kernel_rfl) (by kernel_rfl) (by kernel_rfl) (fun _ _ _ h => h) (Or.inl ⟨by rfl, ?_⟩) (by assumption) ?_
  rotate_left
  · intro w hSw; (try dsimp only at hSw); go_simp <;> with_reducible rfl
  simp only [Act.put, List.setIfInBounds_toArray, List.set_cons_zero, List.set_cons_succ]
  refine' wpAnyH_take (i := 6) (oi := { dst := some 84, op := Go.Op.call { callee := Go.Callee.builtin Go.Builtin.len, args := #[Go.Operand.tmp 83], argTypes := #[31] }, type := 3, pos := "law.go:92", after := #[{ on := 5, ground := Go.Ground.data }], guard := none }) (v := _) rfl (by kernel_rfl) (by kernel_rfl) (by kernel_rfl) (fun _ _ _ h => h) (Or.inl ⟨by rfl, ?_⟩) (by assumption) ?_
  rotate_left
  · intro w hSw; (try dsimp only at hSw); go_simp <;> with_reducible rfl
  simp only [Act.put, List.setIfInBounds_toArray, List.set_cons_zero, List.set_cons_succ]
  refine' wpAnyH_take (i := 10) (oi := { dst := some 88, op := Go.Op.move (Go.Operand.tmp 3), type := 31, pos := "law.go:92", after := #[], guard := none }) (v := _) rfl (by kernel_rfl) (by kernel_rfl) (by kernel_rfl) (fun _ _ _ h => h) (Or.inl ⟨by rfl, ?_⟩) (by assumption) ?_
  rotate_left
  · intro w hSw; (try dsimp only at hSw); go_simp <;> with_reducible rfl
  simp only [Act.put, List.setIfInBounds_toArray, List.set_cons_zero, List.set_cons_succ]
  refine' wpAnyH_take (i := 11) (oi := { dst := some 89, op := Go.Op.move (Go.Operand.tmp 16), type := 3, pos := "law.go:92", after := #[], guard := none }) (v := _) rfl (by kernel_rfl) (by kernel_rfl) (by kernel_rfl) (fun _ _ _ h => h) (Or.inl ⟨by rfl, ?_⟩) (by assumption) ?_
  rotate_left
  · intro w hSw; (try dsimp only at hSw); go_simp <;> with_reducible rfl
  simp only [Act.put, List.setIfInBounds_toArray, List.set_cons_zero, List.set_cons_succ]
  refine' wpAnyH_take (i := 12) (oi := { dst := some 90, op := Go.Op.indexAddr 31 (Go.Operand.tmp 88) (Go.Operand.tmp 89), type := 0, pos := "law.go:92", after := #[{ on := 10, ground := Go.Ground.data }, { on := 11, ground := Go.Ground.data }], guard := none }) (v := _) rfl (by kernel_rfl) (by kernel_rfl) (by kernel_rfl) (fun _ _ _ h => h) (Or.inl ⟨by rfl, ?_⟩) (by assumption) ?_
  rotate_left
  · intro w hSw; (try dsimp only at hSw); go_simp <;> with_reducible rfl
  simp only [Act.put, List.setIfInBounds_toArray, List.set_cons_zero, List.set_cons_succ]
  refine' wpAnyH_take (i := 13) (oi := { dst := some 91, op := Go.Op.load 5 (Go.Operand.tmp 90), type := 5, pos := "law.go:92", after := #[{ on := 12, ground := Go.Ground.data }], guard := none }) (v := _) rfl (by kernel_rfl) (by kernel_rfl) (by kernel_rfl) (fun _ _ _ h => h) (Or.inl ⟨by rfl, ?_⟩) (by assumption) ?_
  rotate_left
  · intro w hSw; (try dsimp only at hSw); go_simp <;> with_reducible rfl
  simp only [Act.put, List.setIfInBounds_toArray, List.set_cons_zero, List.set_cons_succ]
  refine wpAnyH_ready (rs := [7]) (by kernel_rfl) (by simp) ?_
  refine AllReadyH.cons rfl (fun K hK => ?_) AllReadyH.nil
  go_simp
  go_wp2_with (first | (go_at_call 22; (with_reducible refine (HC.out _).mono ?_); rintro e q1 ⟨k, rfl, hk, rfl⟩) | fail)
  refine hK.out _ _ ?_ (fun hHeld => ?_)
  · exact HS.out _ (fun _ _ => rfl)
  clear hK K
  try simp only [Act.put, List.setIfInBounds_toArray, List.set_cons_zero, List.set_cons_succ]
  refine' wpAnyH_take (i := 8) (oi := { dst := some 86, op := Go.Op.indexAddr 31 (Go.Operand.tmp 78) (Go.Operand.tmp 85), type := 0, pos := "law.go:92", after := #[{ on := 0, ground := Go.Ground.data }, { on := 7, ground := Go.Ground.data }], guard := none }) (v := _) rfl (by kernel_rfl) (by kernel_rfl) (by kernel_rfl) (fun _ _ _ h => h) (Or.inl ⟨by rfl, ?_⟩) (by assumption) ?_
  rotate_left
  · intro w hSw; (try dsimp only at hSw); go_simp <;> with_reducible rfl
  simp only [Act.put, List.setIfInBounds_toArray, List.set_cons_zero, List.set_cons_succ]
  obtain ⟨xk, hxk⟩ : ∃ x, L[k]? = some x := ⟨_, List.getElem?_eq_getElem hk⟩
  have hx256 : xk < 256 := hByt xk (List.mem_of_getElem? hxk)
  have hck : W.drew.cell? ⟨gb, k, none⟩ = some (.int .u8 (xk : Nat)) := by
    have := hR k (byteCell xk) (by rw [List.getElem?_map, hxk]; rfl)
    rw [Nat.zero_add] at this
    exact this
  have hfk : W.drew.frozen? ⟨gb, k, none⟩ = false := hfz k
  refine wpAnyH_ready (rs := [9]) (by kernel_rfl) (by simp) ?_
  refine AllReadyH.cons rfl (fun K hK => ?_) AllReadyH.nil
  go_simp
  go_wp2_with fail
  refine hK.out _ _ ?_ (fun hHeld => ?_)
  · exact HS.out _ (fun _ _ => rfl)
  clear hK K
  try simp only [Act.put, List.setIfInBounds_toArray, List.set_cons_zero, List.set_cons_succ]
  have hw8 : IntKind.u8.wrap ((xk : Int) + (yv : Int)) = (((xk + yv) % 256 : Nat) : Int) := by rw [IntKind.wrap_u8]; omega
  refine' wpAnyH_take (i := 14) (oi := { dst := some 92, op := Go.Op.binOp Go.BinOp.add 5 (Go.Operand.tmp 87) (Go.Operand.tmp 91) 5, type := 5, pos := "law.go:92", after := #[{ on := 9, ground := Go.Ground.data }, { on := 13, ground := Go.Ground.data }], guard := none }) (v := .int .u8 (((xk + yv) % 256 : Nat) : Int)) rfl (by kernel_rfl) (by kernel_rfl) (by kernel_rfl) (fun _ _ _ h => h) (Or.inl ⟨by rfl, ?_⟩) (by assumption) ?_
  · intro w hSw; (try dsimp only at hSw); go_simp <;> first | with_reducible rfl | (simp [hw8]; done)
  simp only [Act.put, List.setIfInBounds_toArray, List.set_cons_zero, List.set_cons_succ]
  refine' wpAnyH_take (i := 15) (oi := { dst := some 93, op := Go.Op.indexAddr 31 (Go.Operand.tmp 78) (Go.Operand.tmp 85), type := 0, pos := "law.go:92", after := #[{ on := 0, ground := Go.Ground.data }, { on := 7, ground := Go.Ground.data }, { on := 0, ground := Go.Ground.phase }, { on := 1, ground := Go.Ground.phase }, { on := 2, ground := Go.Ground.phase }, { on := 3, ground := Go.Ground.phase }, { on := 4, ground := Go.Ground.phase }, { on := 5, ground := Go.Ground.phase }, { on := 6, ground := Go.Ground.phase }, { on := 7, ground := Go.Ground.phase }, { on := 8, ground := Go.Ground.phase }, { on := 9, ground := Go.Ground.phase }, { on := 10, ground := Go.Ground.phase }, { on := 11, ground := Go.Ground.phase }, { on := 12, ground := Go.Ground.phase }, { on := 13, ground := Go.Ground.phase }, { on := 14, ground := Go.Ground.phase }], guard := none }) (v := _) rfl (by kernel_rfl) (by kernel_rfl) (by kernel_rfl) (fun _ _ _ h => h) (Or.inl ⟨by rfl, ?_⟩) (by assumption) ?_
  rotate_left
  · intro w hSw; (try dsimp only at hSw); go_simp <;> with_reducible rfl
  simp only [Act.put, List.setIfInBounds_toArray, List.set_cons_zero, List.set_cons_succ]
  refine wpAnyH_ready (rs := [16]) (by kernel_rfl) (by simp) ?_
  refine AllReadyH.cons rfl (fun K hK => ?_) AllReadyH.nil
  go_simp
  go_wp2_with fail
  refine hK.out _ _ ?_ (fun hHeld => ?_)
  · exact HS.out _ (fun b hb => Below.heap_setCell W.drew ⟨gb, k, none⟩ _ b hb)
  clear hK K
  try simp only [Act.put, List.setIfInBounds_toArray, List.set_cons_zero, List.set_cons_succ]
  refine wpAnyH_done (by kernel_rfl) ?_ _
  refine NoPanic.normal ?_
  exact HQ.out _ _ _ _ _ _ _ _ _ _ _ _ _ _ _ _ k ((xk + yv) % 256) _ hk (by omega) rfl rfl rfl rfl
end Go.Proofs.Ytghgkjollafeiaa

/-
  RecTurns: the three rows of bytes.
-/
namespace Go.Proofs.Ytghgkjollafeiaa
open Go.RowKit

/-- Three rows of bytes of the call's own, in three blocks, and a row of the three. -/
structure Tri (W w : World) (gr : Nat) (v0 v1 v2 : Value) (L0 L1 L2 : List Nat) : Prop where
  o0 : w.ownsRow W.heap.size 5 1 v0 L0.length (L0.map byteCell)
  o1 : w.ownsRow W.heap.size 5 1 v1 L1.length (L1.map byteCell)
  o2 : w.ownsRow W.heap.size 5 1 v2 L2.length (L2.map byteCell)
  n01 : ∀ x, v0.ownBlock = some x → v1.ownBlock ≠ some x
  n02 : ∀ x, v0.ownBlock = some x → v2.ownBlock ≠ some x
  n12 : ∀ x, v1.ownBlock = some x → v2.ownBlock ≠ some x
  r0 : v0.ownBlock ≠ some gr
  r1 : v1.ownBlock ≠ some gr
  r2 : v2.ownBlock ≠ some gr
  row : w.heap[gr]? = some (.cells #[v0, v1, v2] 31 (0, 0))
  ge : W.heap.size ≤ gr
  tn : Turn [] W w
theorem own_up {w : World} {base e m n : Nat} {v : Value} {cs : List Value} (h : w.ownsRow 0 e m v n cs) (hb : ∀ x, v.ownBlock = some x → base ≤ x) : w.ownsRow base e m v n cs := by
  obtain ⟨hl, h | ⟨g, cap, cur, rfl, _, hg, rest⟩⟩ := h
  · exact ⟨hl, .inl h⟩
  · exact ⟨hl, .inr ⟨g, cap, cur, rfl, hb g rfl, hg, rest⟩⟩
theorem tri_of {W q1 q2 q3 : World} {v0 v1 v2 : Value} {L0 L1 L2 : List Nat} (h1 : Gr W.drew q1 (.slice none 0 0) v0 L0) (h2 : Gr q1 q2 (.slice none 0 0) v1 L1) (h3 : Gr q2 q3 (.slice none 0 0) v2 L2) : Tri W (q3.alloc (.cells #[v0, v1, v2] 31)) q3.heap.size v0 v1 v2 L0 L1 L2 := by
  have b0 : ∀ x, v0.ownBlock = some x → W.heap.size ≤ x ∧ x < q1.heap.size := fun x e => ⟨by rcases h1.loc x e with k | k; cases k; exact k, (h1.own.lt x e).2⟩
  have b1 : ∀ x, v1.ownBlock = some x → q1.heap.size ≤ x ∧ x < q2.heap.size := fun x e => ⟨by rcases h2.loc x e with k | k; cases k; exact k, (h2.own.lt x e).2⟩
  have b2 : ∀ x, v2.ownBlock = some x → q2.heap.size ≤ x ∧ x < q3.heap.size := fun x e => ⟨by rcases h3.loc x e with k | k; cases k; exact k, (h3.own.lt x e).2⟩
  have z1 : W.heap.size ≤ q1.heap.size := h1.grown.size
  have z2 := h2.grown.size
  have z3 := h3.grown.size
  have k2 : ∀ x, x < q1.heap.size → q2.heap[x]? = q1.heap[x]? := fun x hx => h2.grown.block x hx (fun e => by cases e)
  have k3 : ∀ x, x < q2.heap.size → q3.heap[x]? = q2.heap[x]? := fun x hx => h3.grown.block x hx (fun e => by cases e)
  have k4 : ∀ x, x < q3.heap.size → (q3.alloc (.cells #[v0, v1, v2] 31)).heap[x]? = q3.heap[x]? := fun x hx => Below.heap_alloc q3 _ x hx
  refine ⟨own_up (own_same h1.own (fun x e => ?_)) (fun x e => (b0 x e).1), own_up (own_same h2.own (fun x e => ?_)) (fun x e => by have := (b1 x e).1; omega), own_up (own_same h3.own (fun x e => k4 x (b2 x e).2)) (fun x e => by have := (b2 x e).1; omega), fun x e k => ?_, fun x e k => ?_, fun x e k => ?_, fun e => ?_, fun e => ?_, fun e => ?_, Array.getElem?_push_size, by omega, ?_⟩
  · have := (b0 x e).2
    rw [k4 x (by omega), k3 x (by omega), k2 x this]
  · have := (b1 x e).2
    rw [k4 x (by omega), k3 x this]
  · have := b0 x e; have := b1 x k; omega
  · have := b0 x e; have := b2 x k; omega
  · have := b1 x e; have := b2 x k; omega
  · have := b0 _ e; omega
  · have := b1 _ e; omega
  · have := b2 _ e; omega
  · exact ⟨h3.grown.os.trans (h2.grown.os.trans h1.grown.os), h3.grown.tape.trans (h2.grown.tape.trans h1.grown.tape), h3.grown.output.trans (h2.grown.output.trans h1.grown.output), by simp; omega, fun x hx _ => by rw [k4 x (by omega), k3 x (by omega), k2 x (by omega)]; exact h1.grown.block x hx (fun e => by cases e)⟩

set_option maxRecDepth 100000 in
set_option maxHeartbeats 12800000 in
theorem reg5_5 {W : World} {g0 g1 g2 g3 g4 g5 g8 g9 g10 g11 g12 g13 g14 g15 g16 g17 g18 g19 g20 g21 g22 g23 g24 g25 g26 g27 g28 g29 g30 g31 g32 g33 g34 g35 g36 g37 g38 g39 g40 g41 g42 g43 g44 g45 g46 g47 g48 g49 g50 g51 g52 g53 g54 g55 g56 g57 g58 g59 g60 g61 g62 g63 g64 g65 g66 g67 g68 g69 g70 g71 g72 g73 g74 g75 g76 g77 g78 g79 g80 g81 g82 g83 g84 g85 g86 g87 g88 g89 g90 g91 g92 g93 g94 g95 g96 g97 g98 g99 g100 g101 g102 g103 g104 g105 g106 g107 g108 g109 g110 g111 g112 g113 g114 g115 g116 g117 g118 g119 g120 g121 g122 g123 g124 g125 g126 g127 g128 g129 g130 g131 g132 g133 g134 g135 g136 g137 g138 g139 g140 g141 g142 g143 g144 g145 g146 g147 g148 g149 g150 g151 g152 g153 g154 g155 g156 g157 g158 g159 g160 g161 g162 g163 g164 g165 g166 g167 g168 g169 g170 g171 g172 g173 g174 g175 g176 g177 g178 g179 g180 g181 g182 g183 g184 g185 g186 g187 g188 g189 g190 g191 g192 g193 g194 g195 g196 g197 g198 g199 g200 g201 g202 g203 g204 g205 g206 g207 g208 g209 : Value} (ca cp cs : List Value) (ba bs : Nat) (L0 L1 L2 : List Nat) (Q : Exit → Act → World → Prop) (la : ca.length = 20) (lp : cp.length = 10) (ls : cs.length = 9)
    (HS : Hid (∀ w', Turn [] W w' → w'.rangeAt ba 0 ca ∧ w'.rangeAt ba 2 cp ∧ w'.rangeAt bs 0 cs))
    (H11 : Hid (∀ w', Turn [] W w' → Calls Try.prog 11 #[.slice none 0 0, .agg ca.toArray] w' fun e w'' => ∃ v', e = .returned v' ∧ Gr w' w'' (.slice none 0 0) v' L0))
    (H19 : Hid (∀ w', Turn [] W w' → Calls Try.prog 19 #[.slice none 0 0, .agg cp.toArray] w' fun e w'' => ∃ v', e = .returned v' ∧ Gr w' w'' (.slice none 0 0) v' L1))
    (H20 : Hid (∀ w', Turn [] W w' → Calls Try.prog 20 #[.slice none 0 0, .agg cs.toArray] w' fun e w'' => ∃ v', e = .returned v' ∧ Gr w' w'' (.slice none 0 0) v' L2))
    (HQ : Hid (∀ (t46 t47 t48 t49 t50 t51 t52 t53 : Value) (gr : Nat) (v0 v1 v2 : Value) w', Tri W w' gr v0 v1 v2 L0 L1 L2 → Q .normal ⟨#[g0, g1, g2, g3, g4, g5, .pointer (some ⟨ba, 0, none⟩), .pointer (some ⟨bs, 0, none⟩), g8, g9, g10, g11, g12, .slice (some ⟨gr, 0, none⟩) 3 3, g14, g15, g16, g17, g18, g19, g20, g21, g22, g23, g24, g25, g26, g27, g28, g29, g30, g31, g32, g33, g34, g35, g36, g37, g38, g39, g40, g41, g42, g43, g44, g45, t46, t47, t48, t49, t50, t51, t52, t53, g54, g55, g56, g57, g58, g59, g60, g61, g62, g63, g64, g65, g66, g67, g68, g69, g70, g71, g72, g73, g74, g75, g76, g77, g78, g79, g80, g81, g82, g83, g84, g85, g86, g87, g88, g89, g90, g91, g92, g93, g94, g95, g96, g97, g98, g99, g100, g101, g102, g103, g104, g105, g106, g107, g108, g109, g110, g111, g112, g113, g114, g115, g116, g117, g118, g119, g120, g121, g122, g123, g124, g125, g126, g127, g128, g129, g130, g131, g132, g133, g134, g135, g136, g137, g138, g139, g140, g141, g142, g143, g144, g145, g146, g147, g148, g149, g150, g151, g152, g153, g154, g155, g156, g157, g158, g159, g160, g161, g162, g163, g164, g165, g166, g167, g168, g169, g170, g171, g172, g173, g174, g175, g176, g177, g178, g179, g180, g181, g182, g183, g184, g185, g186, g187, g188, g189, g190, g191, g192, g193, g194, g195, g196, g197, g198, g199, g200, g201, g202, g203, g204, g205, g206, g207, g208, g209], []⟩ w')) :
    Code.wp Try.prog (reg5 5) Q ⟨#[g0, g1, g2, g3, g4, g5, .pointer (some ⟨ba, 0, none⟩), .pointer (some ⟨bs, 0, none⟩), g8, g9, g10, g11, g12, g13, g14, g15, g16, g17, g18, g19, g20, g21, g22, g23, g24, g25, g26, g27, g28, g29, g30, g31, g32, g33, g34, g35, g36, g37, g38, g39, g40, g41, g42, g43, g44, g45, g46, g47, g48, g49, g50, g51, g52, g53, g54, g55, g56, g57, g58, g59, g60, g61, g62, g63, g64, g65, g66, g67, g68, g69, g70, g71, g72, g73, g74, g75, g76, g77, g78, g79, g80, g81, g82, g83, g84, g85, g86, g87, g88, g89, g90, g91, g92, g93, g94, g95, g96, g97, g98, g99, g100, g101, g102, g103, g104, g105, g106, g107, g108, g109, g110, g111, g112, g113, g114, g115, g116, g117, g118, g119, g120, g121, g122, g123, g124, g125, g126, g127, g128, g129, g130, g131, g132, g133, g134, g135, g136, g137, g138, g139, g140, g141, g142, g143, g144, g145, g146, g147, g148, g149, g150, g151, g152, g153, g154, g155, g156, g157, g158, g159, g160, g161, g162, g163, g164, g165, g166, g167, g168, g169, g170, g171, g172, g173, g174, g175, g176, g177, g178, g179, g180, g181, g182, g183, g184, g185, g186, g187, g188, g189, g190, g191, g192, g193, g194, g195, g196, g197, g198, g199, g200, g201, g202, g203, g204, g205, g206, g207, g208, g209], []⟩ W := by
  conv => arg 2; whnf
  dsimp only
  obtain ⟨ia0, da, hua, hda⟩ := sz28
  obtain ⟨ip0, dp, hup, hdp⟩ := sz23
  obtain ⟨is0, ds, hus, hds⟩ := sz40
  have ia : (Try.prog.info? 28).map (·.size) = some ca.length := by rw [ia0, la]
  have ip : (Try.prog.info? 23).map (·.size) = some cp.length := by rw [ip0, lp]
  have is : (Try.prog.info? 40).map (·.size) = some cs.length := by rw [is0, ls]
  have HT0 : Hid (Turn [] W W.drew) := (Turn.refl [] W).drew
  clear la lp ls ia0 ip0 is0
  generalize hca : ca.toArray = A at *
  generalize hcp : cp.toArray = P at *
  generalize hcs : cs.toArray = C at *
  have HCa := hide hca
  have HCp := hide hcp
  have HCs := hide hcs
  clear hca hcp hcs
  refine wp_region_noPanic ?_
  refine wp_region_held_drew (S := fun w' => w'.rangeAt ba 0 ca ∧ w'.rangeAt ba 2 cp ∧ w'.rangeAt bs 0 cs) (by kernel_rfl) (HS.out _ HT0.out) (fun hHeld => ?_)
  refine' wpAnyH_take (i := 0) (oi := { dst := some 46, op := Go.Op.load 28 (Go.Operand.tmp 6), type := 28, pos := "law.go:88", after := #[], guard := none }) (v := .agg A) rfl (by kernel_rfl) (by kernel_rfl) (by kernel_rfl) (fun _ _ _ h => h) (by rw [← HCa.out]; exact yieldsIf_load_mid (by rfl) _ _ rfl _ _ rfl _ _ (fun w hw => hw.1) hua hda ia) (by assumption) ?_
  simp only [Act.put, List.setIfInBounds_toArray, List.set_cons_zero, List.set_cons_succ]
  refine' wpAnyH_take (i := 2) (oi := { dst := some 48, op := Go.Op.fieldAddr 28 (Go.Operand.tmp 6) 2, type := 0, pos := "law.go:88", after := #[], guard := none }) (v := _) rfl (by kernel_rfl) (by kernel_rfl) (by kernel_rfl) (fun _ _ _ h => h) (Or.inl ⟨by rfl, ?_⟩) (by assumption) ?_
  rotate_left
  · intro w hSw; (try dsimp only at hSw); go_simp <;> with_reducible rfl
  simp only [Act.put, List.setIfInBounds_toArray, List.set_cons_zero, List.set_cons_succ]
  refine' wpAnyH_take (i := 3) (oi := { dst := some 49, op := Go.Op.load 23 (Go.Operand.tmp 48), type := 23, pos := "law.go:88", after := #[{ on := 2, ground := Go.Ground.data }], guard := none }) (v := .agg P) rfl (by kernel_rfl) (by kernel_rfl) (by kernel_rfl) (fun _ _ _ h => h) (by rw [← HCp.out]; exact yieldsIf_load_mid (by rfl) _ _ rfl _ _ rfl _ _ (fun w hw => hw.2.1) hup hdp ip) (by assumption) ?_
  simp only [Act.put, List.setIfInBounds_toArray, List.set_cons_zero, List.set_cons_succ]
  refine' wpAnyH_take (i := 5) (oi := { dst := some 51, op := Go.Op.load 40 (Go.Operand.tmp 7), type := 40, pos := "law.go:88", after := #[], guard := none }) (v := .agg C) rfl (by kernel_rfl) (by kernel_rfl) (by kernel_rfl) (fun _ _ _ h => h) (by rw [← HCs.out]; exact yieldsIf_load_mid (by rfl) _ _ rfl _ _ rfl _ _ (fun w hw => hw.2.2) hus hds is) (by assumption) ?_
  simp only [Act.put, List.setIfInBounds_toArray, List.set_cons_zero, List.set_cons_succ]
  refine wpAnyH_ready (rs := [1]) (by kernel_rfl) (by simp) ?_
  refine AllReadyH.cons rfl (fun K hK => ?_) AllReadyH.nil
  go_simp
  go_wp2_with (first | (go_at_call 11; (with_reducible refine (H11.out _ HT0.out).mono ?_); rintro e q1 ⟨v0, rfl, hG⟩; have HT1 : Hid (Turn [] W q1) := gr_turn hG; obtain ⟨va1, vc1, rfl⟩ := own_form hG.own; have HG1 := hide hG; clear hG) | fail)
  refine hK.out _ _ ?_ (fun hHeld => ?_)
  · exact HS.out _ HT1.out
  clear hK K
  try simp only [Act.put, List.setIfInBounds_toArray, List.set_cons_zero, List.set_cons_succ]
  refine wpAnyH_ready (rs := [4]) (by kernel_rfl) (by simp) ?_
  refine AllReadyH.cons rfl (fun K hK => ?_) AllReadyH.nil
  go_simp
  go_wp2_with (first | (go_at_call 19; (with_reducible refine (H19.out _ HT1.out).mono ?_); rintro e q2 ⟨v1, rfl, hG⟩; have HT2 : Hid (Turn [] W q2) := HT1.out.trans (gr_turn2 hG); obtain ⟨va2, vc2, rfl⟩ := own_form hG.own; have HG2 := hide hG; clear hG) | fail)
  refine hK.out _ _ ?_ (fun hHeld => ?_)
  · exact HS.out _ HT2.out
  clear hK K
  try simp only [Act.put, List.setIfInBounds_toArray, List.set_cons_zero, List.set_cons_succ]
  refine wpAnyH_ready (rs := [6]) (by kernel_rfl) (by simp) ?_
  refine AllReadyH.cons rfl (fun K hK => ?_) AllReadyH.nil
  go_simp
  go_wp2_with (first | (go_at_call 20; (with_reducible refine (H20.out _ HT2.out).mono ?_); rintro e q3 ⟨v2, rfl, hG⟩; have HT3 : Hid (Turn [] W q3) := HT2.out.trans (gr_turn2 hG); obtain ⟨va3, vc3, rfl⟩ := own_form hG.own; have HG3 := hide hG; clear hG) | fail)
  refine hK.out _ _ ?_ (fun hHeld => ?_)
  · exact HS.out _ HT3.out
  clear hK K
  try simp only [Act.put, List.setIfInBounds_toArray, List.set_cons_zero, List.set_cons_succ]
  refine wpAnyH_ready (rs := [7]) (by kernel_rfl) (by simp) ?_
  refine AllReadyH.cons rfl (fun K hK => ?_) AllReadyH.nil
  go_simp
  go_wp2_with fail
  refine hK.out _ _ ?_ (fun hHeld => ?_)
  · exact HS.out _ (HT3.out.alloc _)
  clear hK K
  try simp only [Act.put, List.setIfInBounds_toArray, List.set_cons_zero, List.set_cons_succ]
  refine' wpAnyH_take (i := 8) (oi := { dst := some 13, op := Go.Op.assign (Go.Operand.tmp 53), type := 52, pos := "law.go:88", after := #[{ on := 7, ground := Go.Ground.data }, { on := 6, ground := Go.Ground.chain }, { on := 0, ground := Go.Ground.phase }, { on := 1, ground := Go.Ground.phase }, { on := 2, ground := Go.Ground.phase }, { on := 3, ground := Go.Ground.phase }, { on := 4, ground := Go.Ground.phase }, { on := 5, ground := Go.Ground.phase }, { on := 6, ground := Go.Ground.phase }, { on := 7, ground := Go.Ground.phase }], guard := none }) (v := _) rfl (by kernel_rfl) (by kernel_rfl) (by kernel_rfl) (fun _ _ _ h => h) (Or.inl ⟨by rfl, ?_⟩) (by assumption) ?_
  rotate_left
  · intro w hSw; (try dsimp only at hSw); go_simp <;> with_reducible rfl
  simp only [Act.put, List.setIfInBounds_toArray, List.set_cons_zero, List.set_cons_succ]
  refine wpAnyH_done (by kernel_rfl) ?_ _
  refine NoPanic.normal ?_
  exact HQ.out _ _ _ _ _ _ _ _ _ _ _ _ _ (tri_of HG1.out HG2.out HG3.out)
end Go.Proofs.Ytghgkjollafeiaa

/-
  Rows of bytes: appended to, cut short, turned in one place.
-/
namespace Go.Proofs.Ytghgkjollafeiaa
open Go.RowKit

theorem info_byte : (Try.prog.info? 5).map (fun i => (i.zero, i.size, i.bytes)) = some (some (.int .u8 0), 1, 1) := by kernel_rfl
/-- An append of bytes, from wherever, to a row of the call's own. -/
theorem append_b {ops : Array Oper} {rest : List Oper} {o : Oper} {a : Act} {Q : Exit → Act → World → Prop} {w : World} (hgd : o.guard = none) (s x : Operand)
    (ho : o.op = .call { callee := .builtin .append, args := #[s, x], argTypes := #[31, 31] }) (base : Nat) (v : Value) (l : List Nat) (n : Nat) (_hn : l.length = n) (hs : a.eval s = v) (hown : w.ownsRow base 5 1 v n (l.map byteCell)) (a2 : Option Addr) (n2 c2 : Nat) (m : List Nat) (hm : m.length = n2) (hx : a.eval x = .slice a2 n2 c2) (hB : BytesAt w a2 m) (hnil : a2 = none → c2 = 0) (hb : n + n2 ≤ 1000000000) (hbase : base ≤ w.heap.size)
    (h : ∀ v' w', w'.ownsRow base 5 1 v' (n + n2) ((l ++ m).map byteCell) → w.grownBy w' v.ownBlock → (v'.ownBlock = v.ownBlock ∨ v'.ownBlock = some w.heap.size) → wpList Try.prog ops Q rest (a.put o.dst v') w') :
    wpList Try.prog ops Q (o :: rest) a w := by
  obtain ⟨i0, hi, hz0, hz1, hz2⟩ := info_parts info_byte
  have go : ∀ ad : Addr, a2 = some ad → (∀ j u, (m.map byteCell)[j]? = some u → w.cell? (ad.add j) = some u) → wpList Try.prog ops Q (o :: rest) a w := fun ad e hne => by
    subst e
    refine wpList_append_own_at _ hgd s x 31 ho base 5 i0 (.int .u8 0) 1 1 Try.underlying31 hi hz0 hz1 hz2 rfl (by decide) v n (l.map byteCell) hs hown ad n2 c2 (m.map byteCell) hx (by rw [List.length_map]; omega) hne (fun u hu => ?_) (by unfold maxLen; omega) (by omega) hbase ?_
    · obtain ⟨y, _, rfl⟩ := List.mem_map.1 hu
      rfl
    · intro v' w' h1 h2 _ h4
      rw [← List.map_append] at h1
      exact h v' w' h1 h2 h4
  cases a2 with
  | none =>
    obtain rfl := hnil rfl
    have hmn : m = [] := by
      rcases hB with h | ⟨b, off, hb, _⟩
      · exact h
      · cases hb
    subst hmn
    obtain rfl : n2 = 0 := by rw [← hm]; rfl
    refine wpList_append_own_none hgd s x 31 ho base 5 i0 1 Try.underlying31 hi v n (l.map byteCell) hs hown hx ?_
    exact h v w (by rw [List.append_nil]; exact hown) ⟨rfl, rfl, rfl, Nat.le_refl _, fun _ _ _ => rfl⟩ (.inl rfl)
  | some ad =>
    rcases hB with rfl | ⟨b, off, hb, hA⟩
    · exact go ad rfl (by simp)
    · obtain rfl := Option.some.inj hb
      refine go _ rfl fun j u hj => ?_
      rw [List.getElem?_map] at hj
      cases hmj : m[j]? with
      | none => rw [hmj] at hj; cases hj
      | some y =>
        rw [hmj] at hj
        obtain ⟨hjl, hy⟩ := List.getElem?_eq_some_iff.1 hmj
        have := hA j hjl
        rw [Addr.add_mid, this, List.getD_eq_getElem?_getD, hmj]
        exact hj
/-- A row's front. -/
theorem own_front {w : World} {base g cap n : Nat} {l : List Nat} (h : w.ownsRow base 5 1 (.slice (some ⟨g, 0, none⟩) n cap) n (l.map byteCell)) (m : Nat) (hm : m ≤ n) : w.ownsRow base 5 1 (.slice (some ⟨g, 0, none⟩) m cap) m ((l.take m).map byteCell) := by
  obtain ⟨hl, ⟨hx, _⟩ | ⟨g', cap', cur, hv, hb, hg, hnc, hmx, hsz, hcur⟩⟩ := h
  · cases hx
  · injection hv with e1 e2 e3
    cases e1
    cases e3
    rw [List.length_map] at hl
    refine ⟨by rw [List.length_map, List.length_take]; omega, .inr ⟨g, cap, cur, rfl, hb, hg, by omega, hmx, hsz, ?_⟩⟩
    have h2 : (cur.toList.take (n * 1)).take m = (l.map byteCell).take m := by rw [hcur]
    rw [List.take_take, Nat.min_eq_left (by omega)] at h2
    rw [Nat.mul_one, h2, List.map_take]
theorem heap_setCell_row {W : World} {b : Nat} {cur : Array Value} {t : TypeId} (o : Nat) (v : Value) (h : W.heap[b]? = some (.cells cur t (0, 0))) : (W.setCell ⟨b, o, none⟩ v).heap[b]? = some (.cells (cur.setIfInBounds o v) t (0, 0)) := by
  obtain ⟨hlt, hk⟩ := Array.getElem?_eq_some_iff.1 h
  show (W.heap.modify b _)[b]? = _
  rw [Array.getElem?_eq_getElem (by rw [Array.size_modify]; exact hlt), Array.getElem_modify_self, hk]
  rfl
/-- A row in which one byte was turned. -/
theorem own_byte {w w' : World} {base g cap n : Nat} {l : List Nat} (h : w.ownsRow base 5 1 (.slice (some ⟨g, 0, none⟩) n cap) n (l.map byteCell)) (k z : Nat) (_hk : k < n) (hw : w'.heap = (w.setCell ⟨g, k, none⟩ (.int .u8 (z : Nat))).heap) : w'.ownsRow base 5 1 (.slice (some ⟨g, 0, none⟩) n cap) n ((l.set k z).map byteCell) := by
  obtain ⟨hl, ⟨hx, _⟩ | ⟨g', cap', cur, hv, hb, hg, hnc, hmx, hsz, hcur⟩⟩ := h
  · cases hx
  · injection hv with e1 e2 e3
    cases e1
    cases e3
    rw [List.length_map] at hl
    refine ⟨by rw [List.length_map, List.length_set]; omega, .inr ⟨g, cap, cur.setIfInBounds k (.int .u8 (z : Nat)), rfl, hb, ?_, hnc, hmx, by rw [Array.size_setIfInBounds]; exact hsz, ?_⟩⟩
    · rw [hw]
      exact heap_setCell_row k _ hg
    · rw [Array.toList_setIfInBounds, List.take_set, hcur, List.map_set]
      rfl
/-- What its bytes are. -/
theorem own_cells {w : World} {base g cap n : Nat} {l : List Nat} (h : w.ownsRow base 5 1 (.slice (some ⟨g, 0, none⟩) n cap) n (l.map byteCell)) : w.rangeAt g 0 (l.map byteCell) ∧ (∀ o, w.frozen? ⟨g, o, none⟩ = false) ∧ n ≤ cap ∧ cap ≤ maxLen ∧ l.length = n := by
  have h' := h
  obtain ⟨hl, ⟨hx, _⟩ | ⟨g', cap', cur, hv, hb, hg, hnc, hmx, hsz, hcur⟩⟩ := h
  · cases hx
  · injection hv with e1 e2 e3
    cases e1
    cases e3
    rw [List.length_map] at hl
    exact ⟨(own_range h').1, (own_range h').2.1, hnc, hmx, by omega⟩
end Go.Proofs.Ytghgkjollafeiaa

