/-
  Left, At of program and reference, walked.
-/
import Derived.Test.YtegbinlpojpffaaLFns
namespace Go.Proofs.Ytegbinlpojpffaa
open Go.RowKit Lo

set_option maxRecDepth 100000 in
set_option maxHeartbeats 2000000 in
theorem left_any (a : Option Addr) (cap : Nat) (l : List Lt) (now : Int) (w : World) (hlen : l.length ≤ 1000) (hB : Bds 1000000000000 l) (hL : LotsAt w a l) :
    Calls Try.prog 16 #[.slice a l.length cap, .int .i64 now] w fun e w' => e = .returned (.int .i64 (lf now l)) ∧ Turn [] w w' := by
  have HL := hide hL
  have HB := hide hB
  clear hL hB
  go_enter Try.func16, Try.ntmps16
  go_wp2
  go_loopw [5, 10] (fun i j wr => ∃ (k : Nat) (s : Int), k ≤ l.length ∧ i = .int .i64 s ∧ j = .int .i64 k ∧ Hid (s = lf now (l.take k)) ∧ Turn [] w wr) (fun _ j _ => l.length - (intOf j).toNat)
  case atStart => exact ⟨0, 0, Nat.zero_le _, rfl, rfl, hide rfl, Turn.refl _ _⟩
  case round =>
    obtain ⟨k, s, hk, rfl, rfl, HF, hT⟩ := hrel
    have HT := hide hT
    clear hT
    by_cases hlt : k < l.length
    · have hsb : -5000000000000000 ≤ s ∧ s ≤ 5000000000000000 := by
        have := lf_bd (by omega) now (l.take k) (fun y hy => HB.out y (List.mem_of_mem_take hy))
        rw [← HF.out, List.length_take] at this
        omega
      obtain ⟨b, off, rfl, hx⟩ := (HL.out.turn0 HT.out).at hlt
      have HS := hide (lf_take (now := now) hlt)
      have HQ := hide (HB.out.at hlt)
      generalize l.getD k Lt.nil = x at *
      have hb := hx.lt
      obtain ⟨c0, c1, c2, c3, c4, c5, c6, c7, c8⟩ := hx
      have HT2 := hide (HT.out.alloc (.cells (lotC x).toArray 29))
      have hrb := HQ.out.rest
      go_wp2_with fail
      refine (valid_any x now _).mono ?_
      rintro e w1 ⟨rfl, hT1⟩
      have hI : LotIn w1 wr.heap.size 0 x := (show LotIn (wr.alloc (.cells (lotC x).toArray 29)) wr.heap.size 0 x from ⟨World.cell?_alloc_at _ _ _ _ rfl, World.cell?_alloc_at _ _ _ _ rfl, World.cell?_alloc_at _ _ _ _ rfl, World.cell?_alloc_at _ _ _ _ rfl, World.cell?_alloc_at _ _ _ _ rfl, World.cell?_alloc_at _ _ _ _ rfl, World.cell?_alloc_at _ _ _ _ rfl, World.cell?_alloc_at _ _ _ _ rfl, World.cell?_alloc_at _ _ _ _ rfl⟩).turn hT1 (by simp)
      have HT3 := hide (HT2.out.trans hT1)
      have hbw := hI.lt
      obtain ⟨d0, d1, d2, d3, d4, d5, d6, d7, d8⟩ := hI
      clear hT1 c0 c1 c2 c3 c4 c5 c6 c7 c8
      generalize wr.heap.size = g at *
      by_cases hv : vld x now = true
      · rw [hv] at HS ⊢
        have HN : Hid (s + rest x = lf now (l.take (k + 1))) := by rw [Hid, HF.out, HS.out, if_pos rfl]
        clear hv HF HS
        go_wp2_with fail
        refine (rest_any x _ (HQ.out.q (by omega))).mono ?_
        rintro e w2 ⟨rfl, hT4⟩
        have HT5 := hide (HT3.out.trans hT4)
        clear hT4 d0 d1 d2 d3 d4 d5 d6 d7 d8
        generalize rest x = r at *
        go_wp2
        go_roundw
        case rel => exact ⟨k + 1, s + r, by omega, rfl, by go_num, HN, HT5.out⟩
        case measure => simp [intOf]; omega
      · have hv' : vld x now = false := by simpa using hv
        rw [hv'] at HS ⊢
        have HN : Hid (s = lf now (l.take (k + 1))) := by rw [Hid, HF.out, HS.out, if_neg (by simp)]; omega
        clear hv hv' HF HS
        go_wp2
        go_roundw
        case rel => exact ⟨k + 1, s, by omega, rfl, by go_num, HN, HT3.out⟩
        case measure => simp [intOf]; omega
    · obtain rfl : k = l.length := by omega
      go_wp2
      go_ret
      refine ⟨ret_int ?_, HT.out⟩
      rw [HF.out, List.take_length]

set_option maxRecDepth 100000 in
set_option maxHeartbeats 2000000 in
theorem rleft_any (a : Option Addr) (cap : Nat) (l : List Lt) (now : Int) (w : World) (hlen : l.length ≤ 1000) (hB : Bds 1000000000000 l) (hL : LotsAt w a l) :
    Calls Try.prog 17 #[.slice a l.length cap, .int .i64 now] w fun e w' => e = .returned (.int .i64 (lf now l)) ∧ Turn [] w w' := by
  have HL := hide hL
  have HB := hide hB
  clear hL hB
  go_enter Try.func17, Try.ntmps17
  go_wp2
  go_loopw [5, 6] (fun i j wr => ∃ (k : Nat) (s : Int), k ≤ l.length ∧ i = .int .i64 s ∧ j = .int .i64 k ∧ Hid (s = lf now (l.take k)) ∧ Turn [] w wr) (fun _ j _ => l.length - (intOf j).toNat)
  case atStart => exact ⟨0, 0, Nat.zero_le _, rfl, rfl, hide rfl, Turn.refl _ _⟩
  case round =>
    obtain ⟨k, s, hk, rfl, rfl, HF, hT⟩ := hrel
    have HT := hide hT
    clear hT
    by_cases hlt : k < l.length
    · have hsb : -5000000000000000 ≤ s ∧ s ≤ 5000000000000000 := by
        have := lf_bd (by omega) now (l.take k) (fun y hy => HB.out y (List.mem_of_mem_take hy))
        rw [← HF.out, List.length_take] at this
        omega
      obtain ⟨b, off, rfl, hx⟩ := (HL.out.turn0 HT.out).at hlt
      have HS := hide (lf_take (now := now) hlt)
      have HQ := hide (HB.out.at hlt)
      generalize l.getD k Lt.nil = x at *
      have hb := hx.lt
      have HX := hide hx
      obtain ⟨c0, c1, c2, c3, c4, c5, c6, c7, c8⟩ := hx
      have hrb := HQ.out.rest
      go_wp2_with fail
      refine (rvalid_any x now _).mono ?_
      rintro e w1 ⟨rfl, hT1⟩
      have hI := HX.out.turn hT1 (by simp)
      have HT3 := hide (HT.out.trans hT1)
      have hbw := hI.lt
      obtain ⟨d0, d1, d2, d3, d4, d5, d6, d7, d8⟩ := hI
      clear hT1 c0 c1 c2 c3 c4 c5 c6 c7 c8 HX
      by_cases hv : vld x now = true
      · rw [hv] at HS ⊢
        have HN : Hid (s + rest x = lf now (l.take (k + 1))) := by rw [Hid, HF.out, HS.out, if_pos rfl]
        clear hv HF HS
        go_wp2_with fail
        refine (rrest_any x _ (HQ.out.q (by omega))).mono ?_
        rintro e w2 ⟨rfl, hT4⟩
        have HT5 := hide (HT3.out.trans hT4)
        clear hT4 d0 d1 d2 d3 d4 d5 d6 d7 d8
        generalize rest x = r at *
        go_wp2
        go_roundw
        case rel => exact ⟨k + 1, s + r, by omega, rfl, by go_num, HN, HT5.out⟩
        case measure => simp [intOf]; omega
      · have hv' : vld x now = false := by simpa using hv
        rw [hv'] at HS ⊢
        have HN : Hid (s = lf now (l.take (k + 1))) := by rw [Hid, HF.out, HS.out, if_neg (by simp)]; omega
        clear hv hv' HF HS
        go_wp2
        go_roundw
        case rel => exact ⟨k + 1, s, by omega, rfl, by go_num, HN, HT3.out⟩
        case measure => simp [intOf]; omega
    · obtain rfl : k = l.length := by omega
      go_wp2
      go_ret
      refine ⟨ret_int ?_, HT.out⟩
      rw [HF.out, List.take_length]

set_option maxRecDepth 100000 in
set_option maxHeartbeats 2000000 in
theorem rat_any (a : Option Addr) (cap : Nat) (l : List Lt) (id : Int) (w : World) (hlen : l.length ≤ 1000) (hL : LotsAt w a l) :
    Calls Try.prog 24 #[.slice a l.length cap, .int .i64 id] w fun e w' => e = .returned (.int .i64 (atOf id l)) ∧ w' = w := by
  have HL := hide hL
  clear hL
  go_enter Try.func24, Try.ntmps24
  go_wp2
  go_loop [5] (fun i => ∃ k : Nat, k ≤ l.length ∧ i = .int .i64 k ∧ Hid (∀ j, j < k → (l.getD j Lt.nil).id ≠ id)) (fun i => l.length - (intOf i).toNat)
  case atStart => exact ⟨0, Nat.zero_le _, rfl, fun j hj => absurd hj (by omega)⟩
  case round =>
    obtain ⟨k, hk, rfl, HF⟩ := hrel
    by_cases hlt : k < l.length
    · obtain ⟨b, off, rfl, hx⟩ := HL.out.at hlt
      have hb := hx.lt
      have hc := hx.id
      clear hx
      by_cases he : (l.getD k Lt.nil).id = id
      · have HR : Hid (atOf id l = k) := by
          have e := ix_eq (by omega) HF.out (fun _ => he)
          unfold atOf
          rw [Hid, e, if_pos hlt]
        have hee : ((l.getD k Lt.nil).id == id) = true := by simpa using he
        clear he
        generalize (l.getD k Lt.nil).id = z at *
        go_wp2
        go_ret
        exact ⟨ret_int HR.out.symm, rfl⟩
      · have HN : Hid (∀ j, j < k + 1 → (l.getD j Lt.nil).id ≠ id) := fun j hj => by
          rcases Nat.lt_succ_iff_lt_or_eq.1 hj with h1 | rfl
          · exact HF.out j h1
          · exact he
        have hee : ((l.getD k Lt.nil).id == id) = false := by simpa using he
        clear he HF
        generalize (l.getD k Lt.nil).id = z at *
        go_wp2
        go_round
        case rel => exact ⟨k + 1, by omega, by go_num, HN⟩
        case measure => simp [intOf]; omega
    · obtain rfl : k = l.length := by omega
      have HR : Hid (atOf id l = -1) := by
        have e := ix_eq (Nat.le_refl _) HF.out (fun h => absurd h (by omega))
        unfold atOf
        rw [Hid, e, if_neg (by omega)]
      go_wp2
      go_ret
      exact ⟨ret_int HR.out.symm, rfl⟩

end Go.Proofs.Ytegbinlpojpffaa
