/-
  How a pager's blocks lie: the map's, a page's; walked.
-/
import Derived.Test.YthgpjkcgccdldaaGreatDoorV24
import Derived.Laws.IdiomCopy
import Derived.Deep.RegionWith
import Derived.BigRegion

namespace Go.Proofs.YthgpjkcgccdldaaGreatDoor
open Go.RowKit

set_option maxRecDepth 100000 in
/-- A new row of noughts. -/
theorem new_row (w : World) : RowAt (w.alloc (.cells zcells 5)) w.heap.size 512 (fun _ => 0) := by
  have h := new_zeros w
  refine ⟨fun i hi => ?_, fun o => World.frozen?_alloc_at _ _ _ _ rfl, by simp⟩
  have := h.cell0 (i := i) (by rw [zeros_length]; exact hi)
  rw [this]
  have e : zeros[i]'(by rw [zeros_length]; exact hi) = 0 := by unfold zeros; exact List.getElem_replicate _
  rw [e]

set_option maxRecDepth 100000 in
theorem setCells_row {w : World} {g n : Nat} {B : Nat → Nat} (h : RowAt w g n B) (off : Nat) (l : List Nat) (hl : off + l.length ≤ n) :
    RowAt (w.setCells g off (l.map byteCell)) g n (fun i => if off ≤ i ∧ i < off + l.length then l.getD (i - off) 0 else B i) := by
  refine ⟨fun i hi => ?_, fun o => by rw [World.frozen?_setCells]; exact h.fz o, ?_⟩
  · by_cases hin : off ≤ i ∧ i < off + l.length
    · rw [if_pos hin]
      have := World.cell?_setCells_in g (l.map byteCell) off w (fun j hj => by rw [h.cell (off + j) (by simp at hj; omega)]; rfl) (i - off) (by simp; omega)
      rw [show off + (i - off) = i by omega] at this
      rw [this]
      rw [List.getElem_map, List.getD_eq_getElem?_getD, List.getElem?_eq_getElem (by omega)]
      rfl
    · rw [if_neg hin, World.cell?_setCells_out g _ off w ⟨g, i, none⟩ (fun _ _ => by simp; omega)]
      exact h.cell i hi
  · have : ∀ (vs : List Value) (o : Nat) (w : World), (w.setCells g o vs).heap.size = w.heap.size := by
      intro vs
      induction vs with
      | nil => intro o w; rfl
      | cons v vs ih => intro o w; show ((w.setCell _ _).setCells g (o + 1) vs).heap.size = _; rw [ih, World.size_setCell]
    rw [this]; exact h.lt

set_option maxRecDepth 100000 in
theorem setCells_turn {S : List Nat} {u : World} {g : Nat} (hg : g ∈ S) : ∀ (vs : List Value) (o : Nat) {w : World}, Turn S u w → Turn S u (w.setCells g o vs)
  | [], _, _, h => h
  | v :: vs, o, _, h => setCells_turn hg vs (o + 1) (h.setCell hg o v)

set_option maxRecDepth 100000 in
theorem setCells_then {S : List Nat} {u w : World} {g : Nat} (h : Turn S u w) (hg : u.heap.size ≤ g) (vs : List Value) (o : Nat) : Turn S u (w.setCells g o vs) :=
  h.then (setCells_turn (S := [g]) (by simp) vs o (Turn.refl [g] w)) (by simp; omega)

set_option maxRecDepth 100000 in
set_option maxHeartbeats 400000 in
theorem slotOf_any (c : Nat) (hc : c < 1000000000) (w : World) : Calls Tryz.prog 165 #[.int .i64 (c : Nat)] w fun e w' => e = .returned (.int .i64 (c % 2 : Nat)) ∧ w' = w := by
  have h1 : bits .and .i64 (c : Int) 1 = ((c % 2 : Nat) : Int) := by
    show IntKind.i64.wrap ((BitVec.ofInt 64 (c : Int) &&& BitVec.ofInt 64 1).toNat : Int) = _
    have h1 : (BitVec.ofInt 64 (c : Int)).toNat = c := by rw [BitVec.ofInt_natCast, BitVec.toNat_ofNat]; exact Nat.mod_eq_of_lt (by omega)
    have h2 : (BitVec.ofInt 64 1).toNat = 1 := by decide
    rw [BitVec.toNat_and, h1, h2, Nat.and_one_is_mod]
    simp [IntKind.wrap, IntKind.bits, IntKind.signed]
    omega
  go_enter Tryz.func165, Tryz.ntmps165
  go_wp2
  go_ret
  exact ⟨rfl, rfl⟩

/-- So many blocks has a map. -/
def mbs (n : Nat) : Nat := (n + 4095) / 4096
set_option maxRecDepth 100000 in
set_option maxHeartbeats 400000 in
theorem mapBlocks_any (n : Nat) (hn : n ≤ 16384) (w : World) : Calls Tryz.prog 166 #[.int .i64 (n : Nat)] w fun e w' => e = .returned (.int .i64 (mbs n : Nat)) ∧ w' = w := by
  go_enter Tryz.func166, Tryz.ntmps166
  go_wp2
  go_ret
  exact ⟨ret_int (by unfold mbs; omega), rfl⟩
set_option maxRecDepth 100000 in
theorem mbs_le (n : Nat) (hn : n ≤ 16384) : mbs n ≤ 4 := by unfold mbs; omega
set_option maxRecDepth 100000 in
set_option maxHeartbeats 400000 in
theorem mapStart_any (s n : Nat) (hs : s ≤ 2) (hn : n ≤ 16384) (w : World) : Calls Tryz.prog 153 #[.int .i64 (s : Nat), .int .i64 (n : Nat)] w fun e w' => e = .returned (.int .i64 (2 + s * mbs n : Nat)) ∧ w' = w := by
  have h4 := mbs_le n hn
  have hm : s * mbs n ≤ 2 * 4 := Nat.mul_le_mul hs h4
  have HM := hide (mapBlocks_any n hn w)
  generalize mbs n = m at *
  go_enter Tryz.func153, Tryz.ntmps153
  go_wp2_with fail
  refine HM.out.mono ?_
  rintro e w2 ⟨rfl, rfl⟩
  go_wp2
  go_ret
  refine ⟨?_, rfl⟩
  show _ = Ending.returned (.int .i64 ((2 + s * m : Nat) : Int))
  exact ret_int (by push_cast; rfl)
set_option maxRecDepth 100000 in
set_option maxHeartbeats 400000 in
theorem firstPage_any (n : Nat) (hn : n ≤ 16384) (w : World) : Calls Tryz.prog 125 #[.int .i64 (n : Nat)] w fun e w' => e = .returned (.int .i64 (2 + 2 * mbs n : Nat)) ∧ w' = w := by
  have HM := hide (mapStart_any 2 n (by omega) hn w)
  go_enter Tryz.func125, Tryz.ntmps125
  go_wp2_with fail
  refine HM.out.mono ?_
  rintro e w2 ⟨rfl, rfl⟩
  go_wp2
  go_ret
  exact ⟨rfl, rfl⟩

/-- The i-th block of a map. -/
def mapB (T : Nat → Nat) (i : Nat) : Nat → Nat := fun x => T (64 * i + x / 8) / 2 ^ (8 * (x % 8)) % 256

set_option maxRecDepth 100000 in
theorem len78 : Tryz.prog.arrayLen 114 = 256 := by kernel_rfl
set_option maxRecDepth 100000 in
theorem arr78 : Tryz.prog.underlying 114 = some (.array (Tryz.prog.arrayLen 114) (Tryz.prog.elem 114)) := by kernel_rfl
set_option maxRecDepth 100000 in
theorem el78 (w : World) : Sem.run Tryz.prog (sizeOf (Tryz.prog.elem 114)) w = .ok 1 w := by kernel_rfl
set_option maxRecDepth 100000 in
theorem cut_words (g off i : Nat) (hi : i < 4) (w : World) : (Instr.sliceAt 114 (.pointer (some ⟨g, off, none⟩)) (some (.int .i64 ((i : Int) * 64))) (some (.int .i64 (((i : Int) + 1) * 64))) none).run Tryz.prog w = .ok (.slice (some ⟨g, off + 64 * i, none⟩) 64 (256 - 64 * i)) w := by
  rw [run_sliceAt_array_lh w 114 ⟨g, off, none⟩ arr78 .i64 .i64 _ _ (by omega) (by omega) (by rw [len78]; omega), el78, len78]
  show Result.ok (slicedAt _ _ _ _ _) w = _
  unfold slicedAt
  rw [if_neg (by omega), add_spot]
  congr 2
  · congr 2; omega
  · omega
  · omega

set_option maxRecDepth 100000 in
set_option maxHeartbeats 2000000 in
theorem block_any (g off i : Nat) (hi : i < 4) (T : Nat → Nat) (w : World) (hW : WordsAt w g off T) :
    Calls Tryz.prog 167 #[.pointer (some ⟨g, off, none⟩), .int .i64 (i : Nat)] w fun e w' => e = .returned (.slice (some ⟨w.heap.size, 0, none⟩) 512 512) ∧ RowAt w' w.heap.size 512 (mapB T i) ∧ Turn [] w w' := by
  have hmk := make_512
  have hbk := hW.blk
  have HW1 := hide hW
  have HR := hide (new_row w)
  have hT0 : Turn [] w (w.alloc (.cells zcells 5)) := (Turn.refl [] w).alloc (.cells zcells 5)
  have hcut := cut_words g off i hi
  clear hW
  go_enter Tryz.func167, Tryz.ntmps167
  go_wp2
  go_loopw [18] (fun v wr => ∃ j : Nat, j ≤ 64 ∧ v = .int .i64 j ∧ RowAt wr w.heap.size 512 (fun x => if x < 8 * j then mapB T i x else 0) ∧ Turn [] w wr) (fun v _ => 64 - (intOf v).toNat)
  case atStart => exact ⟨0, Nat.zero_le _, rfl, HR.out.congr fun x _ => by simp, hT0⟩
  case round =>
    obtain ⟨j, hj, rfl, hR, hTr⟩ := hrel
    clear HR hcut
    by_cases hlt : j < 64
    · have hc := (HW1.out.turn hTr (by simp)).cell (64 * i + j) (by omega)
      rw [← Nat.add_assoc] at hc
      have ht := HW1.out.lt (64 * i + j)
      have HP := hide (fun w' h => putNumber_any w.heap.size 512 (8 * j) 8 (512 - 8 * j) (T (64 * i + j)) (fun x => if x < 8 * j then mapB T i x else 0) (by omega) (by omega) (by omega) ht w' h)
      have HR := hide hR
      have HB : Hid (∀ x, x < 512 → putN (fun x => if x < 8 * j then mapB T i x else 0) (8 * j) 8 (T (64 * i + j)) x = if x < 8 * (j + 1) then mapB T i x else 0) := by
        intro x _
        unfold putN
        by_cases h1 : 8 * j ≤ x ∧ x < 8 * j + 8
        · rw [if_pos h1, if_pos (by omega)]
          unfold mapB
          rw [show x / 8 = j by omega, show x - 8 * j = x % 8 by omega]
        · rw [if_neg h1]
          show (if x < 8 * j then mapB T i x else 0) = _
          by_cases h2 : x < 8 * j
          · rw [if_pos h2, if_pos (by omega)]
          · rw [if_neg h2, if_neg (by omega)]
      clear hR
      generalize T (64 * i + j) = y at *
      go_wp2_with fail
      refine (HP.out _ HR.out).mono ?_
      rintro e w2 ⟨rfl, hR2, hT2⟩
      have HR2 := hide hR2
      clear hR2
      go_wp2_with fail
      go_roundw
      case rel => exact ⟨j + 1, by omega, by go_num, HR2.out.congr HB.out, hTr.then hT2 (by simp)⟩
      case measure => simp [intOf]; omega
    · obtain rfl : j = 64 := by omega
      have HR := hide (hR.congr (B := mapB T i) fun x hx => by rw [if_pos (by omega)])
      clear hR
      go_wp2_with fail
      go_ret
      exact ⟨rfl, HR.out, hTr⟩

/-- The j-th word that bytes tell. -/
def wordAt (l : List Nat) (j : Nat) : Nat := leNum ((l.drop (8 * j)).take 8)
set_option maxRecDepth 100000 in
theorem BytesAt.sub {w : World} {b off : Nat} {l : List Nat} (h : BytesAt w (some ⟨b, off, none⟩) l) (k n : Nat) : BytesAt w (some ⟨b, off + k, none⟩) ((l.drop k).take n) := by
  by_cases hnil : l = []
  · left; subst hnil; simp
  · refine .inr ⟨b, off + k, rfl, fun i hi => ?_⟩
    have hi' : i < n ∧ k + i < l.length := by simp at hi; omega
    obtain ⟨b', off', e, hc⟩ := h.at hi'.2
    obtain ⟨rfl, rfl⟩ : b' = b ∧ off' = off := by
      have := Option.some.inj e
      exact ⟨(congrArg Addr.block this).symm, (congrArg Addr.off this).symm⟩
    rw [Nat.add_assoc, hc, List.getD_eq_getElem?_getD, List.getElem?_take, if_pos hi'.1, List.getElem?_drop, List.getElem?_eq_getElem hi'.2]
    rfl

def addW (T : Nat → Nat) (i : Nat) (l : List Nat) (n : Nat) : Nat → Nat := fun k => if 64 * i ≤ k ∧ k < 64 * i + n then T k ||| wordAt l (k - 64 * i) else T k

set_option maxRecDepth 100000 in
theorem wordAt_lt (l : List Nat) (hb : ∀ x ∈ l, x < 256) (j : Nat) : wordAt l j < 18446744073709551616 := by
  have h := leNum_lt ((l.drop (8 * j)).take 8) fun x hx => hb x (List.mem_of_mem_drop (List.mem_of_mem_take hx))
  have : ((l.drop (8 * j)).take 8).length ≤ 8 := by simp; omega
  exact Nat.lt_of_lt_of_le h (Nat.pow_le_pow_right (n := 2) (by decide) (show 8 * ((l.drop (8 * j)).take 8).length ≤ 64 by omega))

set_option maxRecDepth 100000 in
set_option maxHeartbeats 4000000 in
theorem addBlock_any (g off i b : Nat) (hi : i < 4) (T : Nat → Nat) (l : List Nat) (hl : l.length = 512) (hb : ∀ x ∈ l, x < 256) (hbg : b ≠ g) (w : World) (hW : WordsAt w g off T) (hB : BytesAt w (some ⟨b, 0, none⟩) l) :
    Calls Tryz.prog 191 #[.pointer (some ⟨g, off, none⟩), .int .i64 (i : Nat), .slice (some ⟨b, 0, none⟩) 512 512] w fun e w' => e = .returned (.tuple #[]) ∧ WordsAt w' g off (addW T i l 64) ∧ Wturn g off w w' := by
  have HW := hide hW
  have HB := hide hB
  have HL := hide hl
  clear hW hB hl
  go_enter Tryz.func191, Tryz.ntmps191
  go_wp2
  go_loopw [7] (fun v wr => ∃ j : Nat, j ≤ 64 ∧ v = .int .i64 j ∧ WordsAt wr g off (addW T i l j) ∧ Wturn g off w wr) (fun v _ => 64 - (intOf v).toNat)
  case atStart => exact ⟨0, Nat.zero_le _, rfl, by have e : addW T i l 0 = T := by funext k; unfold addW; rw [if_neg (by omega)]
                                                   rw [e]; exact HW.out, Wturn.refl _ _ _⟩
  case round =>
    obtain ⟨j, hj, rfl, hW2, hTr⟩ := hrel
    by_cases hlt : j < 64
    · have hc := hW2.cell (64 * i + j) (by omega)
      have hz := hW2.fz (off + (64 * i + j))
      have HW2 := hide hW2
      have HT : Hid (addW T i l (j + 1) = setB (addW T i l j) (64 * i + j) (T (64 * i + j) ||| wordAt l j)) := by
        show _ = _
        funext k
        unfold addW setB
        by_cases h : k = 64 * i + j
        · subst h
          rw [if_pos (by omega), if_pos rfl, Nat.add_sub_cancel_left]
        · rw [if_neg h]
          show _ = if 64 * i ≤ k ∧ k < 64 * i + j then _ else _
          by_cases h2 : 64 * i ≤ k ∧ k < 64 * i + j
          · rw [if_pos h2, if_pos (by omega)]
          · rw [if_neg h2, if_neg (by omega)]
      have e0 : addW T i l j (64 * i + j) = T (64 * i + j) := by unfold addW; rw [if_neg (by omega)]
      rw [e0] at hc
      have ht := HW.out.lt (64 * i + j)
      have hwl := wordAt_lt l hb j
      have hor := u64_or_nat (T (64 * i + j)) (wordAt l j) ht hwl
      have holt : T (64 * i + j) ||| wordAt l j < 18446744073709551616 := Nat.or_lt_two_pow (n := 64) ht hwl
      have hsub := ((HB.out.turn hTr.turn (fun x _ hx => by obtain rfl := Option.some.inj hx; simpa using hbg)).sub (8 * j) 8)
      rw [Nat.zero_add] at hsub
      have HN := hide (fun w' (h : BytesAt w' (some ⟨b, 8 * j, none⟩) ((l.drop (8 * j)).take 8)) => number_any (some ⟨b, 8 * j, none⟩) (512 - 8 * j) ((l.drop (8 * j)).take 8) 8 (by have := HL.out; simp; omega) (by omega) (fun x hx => hb x (List.mem_of_mem_drop (List.mem_of_mem_take hx))) w' h)
      have HS := hide hsub
      clear hW2 e0 hsub
      have e8 : leNum ((l.drop (8 * j)).take 8) = wordAt l j := rfl
      rw [e8] at HN
      generalize wordAt l j = y at *
      have hw1 : IntKind.i64.wrap ((i : Int) * 64) = (i : Int) * 64 := by rw [IntKind.wrap_i64]; omega
      have hw2 : IntKind.i64.wrap ((i : Int) * 64 + (j : Int)) = ((64 * i + j : Nat) : Int) := by rw [IntKind.wrap_i64]; omega
      have hw3 : IntKind.i64.wrap (8 * (j : Int)) = 8 * (j : Int) := by rw [IntKind.wrap_i64]; omega
      have hw4 : IntKind.i64.wrap (8 * (j : Int) + 8) = 8 * (j : Int) + 8 := by rw [IntKind.wrap_i64]; omega
      have hk256 : 64 * i + j < 256 := by omega
      generalize 64 * i + j = k at *
      generalize T k = z at *
      go_wp2_with fail
      go_region_with (first | (go_at_call 85; refine (HN.out wr.drew HS.out).mono ?_; rintro e w2 ⟨rfl, rfl⟩))
      all_goals
        go_wp2_with fail
        go_roundw
        case rel =>
          refine ⟨j + 1, by omega, by go_num, ?_, (hTr.setCell _ _ hk256).drew⟩
          rw [HT.out]
          have h9 := (HW2.out.set k (z ||| y) hk256 holt).drew
          exact h9
        case measure => simp [intOf]; omega
    · obtain rfl : j = 64 := by omega
      have HW2 := hide hW2
      clear hW2
      go_wp2_with fail
      go_end0
      exact ⟨rfl, HW2.out, hTr⟩

end Go.Proofs.YthgpjkcgccdldaaGreatDoor
