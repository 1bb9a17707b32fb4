/-
  Left, At of program and reference, walked.
-/
import Derived.Test.YtegbinlpojpffabLFns
namespace Go.Proofs.Ytegbinlpojpffab
open Go.RowKit Lo

set_option maxRecDepth 100000 in
set_option maxHeartbeats 2000000 in
theorem left_any (a : Option Addr) (cap : Nat) (l : List Lt) (now : Int) (w : World) (hlen : l.length ≤ 1000) (hB : Bds 1000000000000 l) (hL : LotsAt w a l) :
    Calls Try.prog 15 #[.slice a l.length cap, .int .i64 now] w fun e w' => e = .returned (.int .i64 (lf now l)) ∧ Turn [] w w' := by
  have HL := hide hL
  have HB := hide hB
  clear hL hB
  go_enter Try.func15, Try.ntmps15
  go_wp2
  go_loopw [5, 10] (fun i j wr => ∃ (k : Nat) (s : Int), k ≤ l.length ∧ i = .int .i64 s ∧ j = .int .i64 k ∧ Hid (s = lf now (l.take k)) ∧ Turn [] w wr) (fun _ j _ => l.length - (intOf j).toNat)
  case atStart => exact ⟨0, 0, Nat.zero_le _, rfl, rfl, hide rfl, Turn.refl _ _⟩
  case round =>
    obtain ⟨k, s, hk, rfl, rfl, HF, hT⟩ := hrel
    have HT := hide hT
    clear hT
    by_cases hlt : k < l.length
    · have hsb : -5000000000000000 ≤ s ∧ s ≤ 5000000000000000 := by
        have := lf_bd (by omega) now (l.take k) (fun y hy => HB.out y (List.mem_of_mem_take hy))
        rw [← HF.out, List.length_take] at this
        omega
      obtain ⟨b, off, rfl, hx⟩ := (HL.out.turn0 HT.out).at hlt
      have HS := hide (lf_take (now := now) hlt)
      have HQ := hide (HB.out.at hlt)
      generalize l.getD k Lt.nil = x at *
      have hb := hx.lt
      obtain ⟨c0, c1, c2, c3, c4, c5, c6, c7, c8⟩ := hx
      have HT2 := hide (HT.out.alloc (.cells (lotC x).toArray 35))
      have hrb := HQ.out.rest
      go_wp2_with fail
      refine (valid_any x now _).mono ?_
      rintro e w1 ⟨rfl, hT1⟩
      have hI : LotIn w1 wr.heap.size 0 x := (show LotIn (wr.alloc (.cells (lotC x).toArray 35)) wr.heap.size 0 x from ⟨World.cell?_alloc_at _ _ _ _ rfl, World.cell?_alloc_at _ _ _ _ rfl, World.cell?_alloc_at _ _ _ _ rfl, World.cell?_alloc_at _ _ _ _ rfl, World.cell?_alloc_at _ _ _ _ rfl, World.cell?_alloc_at _ _ _ _ rfl, World.cell?_alloc_at _ _ _ _ rfl, World.cell?_alloc_at _ _ _ _ rfl, World.cell?_alloc_at _ _ _ _ rfl⟩).turn hT1 (by simp)
      have HT3 := hide (HT2.out.trans hT1)
      have hbw := hI.lt
      obtain ⟨d0, d1, d2, d3, d4, d5, d6, d7, d8⟩ := hI
      clear hT1 c0 c1 c2 c3 c4 c5 c6 c7 c8
      generalize wr.heap.size = g at *
      by_cases hv : vld x now = true
      · rw [hv] at HS ⊢
        have HN : Hid (s + rest x = lf now (l.take (k + 1))) := by rw [Hid, HF.out, HS.out, if_pos rfl]
        clear hv HF HS
        go_wp2_with fail
        refine (rest_any x _ (HQ.out.q (by omega))).mono ?_
        rintro e w2 ⟨rfl, hT4⟩
        have HT5 := hide (HT3.out.trans hT4)
        clear hT4 d0 d1 d2 d3 d4 d5 d6 d7 d8
        generalize rest x = r at *
        go_wp2
        go_roundw
        case rel => exact ⟨k + 1, s + r, by omega, rfl, by go_num, HN, HT5.out⟩
        case measure => simp [intOf]; omega
      · have hv' : vld x now = false := by simpa using hv
        rw [hv'] at HS ⊢
        have HN : Hid (s = lf now (l.take (k + 1))) := by rw [Hid, HF.out, HS.out, if_neg (by simp)]; omega
        clear hv hv' HF HS
        go_wp2
        go_roundw
        case rel => exact ⟨k + 1, s, by omega, rfl, by go_num, HN, HT3.out⟩
        case measure => simp [intOf]; omega
    · obtain rfl : k = l.length := by omega
      go_wp2
      go_ret
      refine ⟨ret_int ?_, HT.out⟩
      rw [HF.out, List.take_length]

end Go.Proofs.Ytegbinlpojpffab
