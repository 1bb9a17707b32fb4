/-
  Windows noted one behind the other; known, walked.
-/
import Derived.Test.YtbkphdemmnjhcaaWNote
namespace Go.Proofs.Ytbkphdemmnjhcaa.Wi
open Go.RowKit Go.Maps

/-- An answer that has a number alone, or an error alone. -/
def nAn (n : Int) : An := ⟨0, 0, 0, n, ⟨#[]⟩, 0, 0, 0, 0, 0, 0, 0, 0⟩
def eAn (n : Int) : An := ⟨n, 0, 0, 0, ⟨#[]⟩, 0, 0, 0, 0, 0, 0, 0, 0⟩
/-- Entries one behind the other. -/
def seqL (f : Nat → Ent) (j : Nat) : List Ent := (List.range j).map f
theorem seqL_length (f : Nat → Ent) (j : Nat) : (seqL f j).length = j := by unfold seqL; simp
theorem seqL_succ (f : Nat → Ent) (j : Nat) : seqL f (j + 1) = seqL f j ++ [f j] := by unfold seqL; rw [List.range_succ, List.map_append]; rfl
theorem seqL_get (f : Nat → Ent) {j k : Nat} (h : k < j) : (seqL f j).getD k Ent.nil = f k := by
  unfold seqL
  rw [List.getD_eq_getElem?_getD, List.getElem?_map, List.getElem?_range h]
  rfl
theorem mem_seqL {f : Nat → Ent} {j : Nat} {e : Ent} (h : e ∈ seqL f j) : ∃ k, k < j ∧ e = f k := by
  unfold seqL at h
  obtain ⟨k, hk, rfl⟩ := List.mem_map.1 h
  exact ⟨k, List.mem_range.1 hk, rfl⟩
def Rising (f : Nat → Ent) : Prop := ∀ i j, i < j → (f i).id < (f j).id
theorem seqL_up {f : Nat → Ent} (hf : Rising f) (j : Nat) : Up (seqL f j) := by
  unfold Up
  rw [List.pairwise_iff_getElem]
  intro a b ha hb hab
  rw [seqL_length] at ha hb
  have h1 := seqL_get f ha
  have h2 := seqL_get f hb
  rw [List.getD_eq_getElem?_getD, List.getElem?_eq_getElem (by rw [seqL_length]; exact ha)] at h1
  rw [List.getD_eq_getElem?_getD, List.getElem?_eq_getElem (by rw [seqL_length]; exact hb)] at h2
  change (seqL f j)[a] = _ at h1
  change (seqL f j)[b] = _ at h2
  rw [h1, h2]
  exact hf a b hab
theorem ins_seq {f : Nat → Ent} (hf : Rising f) (j : Nat) : ins (seqL f j) (f j) = seqL f (j + 1) := by
  rw [seqL_succ, ins_end]
  intro x hx
  obtain ⟨k, hk, rfl⟩ := mem_seqL hx
  exact hf k j hk
theorem note_seq {f : Nat → Ent} (hf : Rising f) {j : Nat} (hj : j < 12) : note (seqL f j) (f j) = seqL f (j + 1) := by
  unfold note
  rw [ins_length, seqL_length, if_neg (by omega), ins_seq hf]
theorem kind_seq {f : Nat → Ent} (hf : Rising f) {j k : Nat} (hk : k < j) {i : Int} (hi : (f k).id = i) : kindOf (seqL f j) i = 1 ∧ ansOf (seqL f j) i = (f k).an := by
  have hl : k < (seqL f j).length := by rw [seqL_length]; exact hk
  have hg : ((seqL f j).getD k Ent.nil).id = i := by rw [seqL_get f hk]; exact hi
  refine ⟨kind_has (has_at (seqL_up hf j) hl hg), ?_⟩
  rw [ans_has (has_at (seqL_up hf j) hl hg), pos_at (seqL_up hf j) hl hg, seqL_get f hk]

/-- The example's. -/
def kf (i : Nat) : Ent := ⟨(i : Int) + 1, nAn ((i : Int) + 1)⟩
theorem kf_up : Rising kf := fun i j h => by unfold kf; simp; omega
def k13 : List Ent := note (seqL kf 12) ⟨20, An.nil⟩
theorem k13_len : k13.length = 12 := by unfold k13; rw [note_length, seqL_length]; rfl
theorem k13_1 : kindOf k13 1 = 2 := by decide
theorem k13_13 : kindOf k13 13 = 0 := by decide
theorem k13_5 : kindOf k13 5 = 1 := by decide
theorem k13_n : (ansOf k13 5).n = 5 := by decide

set_option maxRecDepth 100000 in
set_option maxHeartbeats 4000000 in
theorem known_any (w : World) : Calls Try.prog 7 #[] w fun e w' => e = .returned (.bool true) ∧ Turn [] w w' := by
  go_enter Try.func7, Try.ntmps7
  go_wp2_with fail
  go_loopw [1, 2] (fun u i wr => ∃ (j : Nat) (a : Option Addr) (c : Nat) (l : List Ent), j ≤ 12 ∧ u = .slice a l.length c ∧ i = .int .i64 ((j : Int) + 1) ∧ Hid (l = seqL kf j) ∧ Hid (WinAt wr a c l) ∧ Turn [] w wr) (fun _ i _ => 14 - (intOf i).toNat)
  case atStart => exact ⟨0, none, 0, [], by omega, rfl, rfl, rfl, WinAt.nil _, Turn.refl _ _⟩
  case round =>
    obtain ⟨j, a, c, l, hj, rfl, rfl, HL, HW, hT⟩ := hrel
    have HT := hide hT
    clear hT
    have hll : l.length = j := by rw [HL.out, seqL_length]
    have hlen : l.length ≤ 12 := by omega
    have HLl := hide hll
    clear hll
    by_cases hlt : j < 12
    · have HN : Hid (note l ⟨(j : Int) + 1, nAn ((j : Int) + 1)⟩ = seqL kf (j + 1)) := by unfold Hid; rw [HL.out]; exact note_seq kf_up hlt
      have HC := hide (note_any a c l ((j : Int) + 1) (nAn ((j : Int) + 1)) wr (by omega) HW.out)
      rw [HN.out] at HC
      clear HL
      go_wp2_with fail
      refine HC.out.mono ?_
      rintro e w1 ⟨a1, c1, rfl, hW1, hT1⟩
      have HT1 := hide (HT.out.trans hT1)
      have HW1 := hide hW1
      clear hT1 hW1 HC
      go_wp2_with fail
      go_roundw
      case rel => exact ⟨j + 1, a1, c1, _, by omega, rfl, by go_num, rfl, HW1, HT1.out⟩
      case measure => simp [intOf]; omega
    · obtain rfl : j = 12 := by omega
      have HC := hide (note_any a c l 20 An.nil wr (by omega) HW.out)
      have HK : Hid (note l ⟨20, An.nil⟩ = k13) := by unfold Hid k13; rw [HL.out]
      rw [HK.out] at HC
      clear HL HK
      go_wp2_with fail
      refine HC.out.mono ?_
      rintro e w1 ⟨a1, c1, rfl, hW1, hT1⟩
      have HT1 := hide (HT.out.trans hT1)
      have HW1 := hide hW1
      clear hT1 hW1 HC
      have hk1 := hide k13_1
      have hk2 := hide k13_13
      have hk3 := hide k13_5
      have hk4 := hide k13_n
      have hkl := hide k13_len
      generalize k13 = l2 at *
      have hl2 : l2.length ≤ 1000000 := by rw [hkl.out]; omega
      have HA1 := hide (ask_any a1 c1 l2 1 w1 hl2 HW1.out.1)
      unfold askV at HA1
      rw [hk1.out] at HA1
      go_wp2_with fail
      refine HA1.out.mono ?_
      rintro e w2 ⟨rfl, hT2⟩
      have HT2 := hide (HT1.out.trans hT2)
      have HW2 := hide (HW1.out.turn0 hT2)
      clear hT2 HA1
      generalize ansOf l2 1 = x1 at *
      go_wp2_with (first | ((with_reducible refine keep_answer _ _ x1 ?_ ?_ ?_); rfl; rfl; intro w3 _ hT3 _ _; have HT3 := hide (HT2.out.trans hT3); have HW3 := hide (HW2.out.turn0 hT3); clear hT3) | fail)
      have HA2 := hide (ask_any a1 c1 l2 13 w3 hl2 HW3.out.1)
      unfold askV at HA2
      rw [hk2.out] at HA2
      refine HA2.out.mono ?_
      rintro e w4 ⟨rfl, hT4⟩
      have HT4 := hide (HT3.out.trans hT4)
      have HW4 := hide (HW3.out.turn0 hT4)
      clear hT4 HA2
      generalize ansOf l2 13 = x2 at *
      go_wp2_with (first | ((with_reducible refine keep_answer _ _ x2 ?_ ?_ ?_); rfl; rfl; intro w5 _ hT5 _ _; have HT5 := hide (HT4.out.trans hT5); have HW5 := hide (HW4.out.turn0 hT5); clear hT5) | fail)
      have HA3 := hide (ask_any a1 c1 l2 5 w5 hl2 HW5.out.1)
      unfold askV at HA3
      rw [hk3.out] at HA3
      refine HA3.out.mono ?_
      rintro e w6 ⟨rfl, hT6⟩
      have HT6 := hide (HT5.out.trans hT6)
      clear hT6 HA3
      generalize ansOf l2 5 = x3 at *
      go_wp2_with (first | ((with_reducible refine keep_answer _ _ x3 ?_ ?_ ?_); rfl; rfl; intro w7 hr7 hT7 _ _; have HT7 := hide (HT6.out.trans hT7); have c7 : w7.cell? ⟨w6.heap.size, 3, none⟩ = some (.int .i64 x3.n) := hr7 3 _ rfl; have hg7 := lt_of_cell c7; rw [hk4.out] at c7; clear hT7 hr7) | fail)
      go_ret
      exact ⟨rfl, HT7.out⟩

end Go.Proofs.Ytbkphdemmnjhcaa.Wi
