/-
  Check of program and reference, walked.
-/
import Derived.Test.YtegbinlpojpffabLChk
namespace Go.Proofs.Ytegbinlpojpffab
open Go.RowKit Lo

set_option maxRecDepth 100000 in
set_option maxHeartbeats 2000000 in
theorem check_any (a : Option Addr) (cap : Nat) (l : List Lt) (w : World) (hlen : l.length ≤ 9223372036854775807) (hL : LotsAt w a l) :
    Calls Try.prog 13 #[.slice a l.length cap] w fun e w' => e = .returned (.int .i64 (chk l)) ∧ Turn [] w w' := by
  have HL := hide hL
  clear hL
  by_cases hm : 14 < l.length
  · have HC : Hid (chk l = 4) := by unfold chk; rw [Hid, if_pos hm]
    go_enter Try.func13, Try.ntmps13
    go_wp2
    go_ret
    exact ⟨ret_int HC.out.symm, Turn.refl [] w⟩
  · have HC : Hid (chk l = chkFrom 0 l) := by unfold chk; rw [Hid, if_neg hm]
    go_enter Try.func13, Try.ntmps13
    go_wp2
    go_loopw [3, 12] (fun i j wr => ∃ (k : Nat) (id : Int), k ≤ l.length ∧ i = .int .i64 id ∧ j = .int .i64 k ∧ Hid (chkFrom 0 l = chkFrom id (l.drop k)) ∧ Turn [] w wr) (fun _ j _ => l.length - (intOf j).toNat)
    case atStart => exact ⟨0, 0, Nat.zero_le _, rfl, rfl, hide rfl, Turn.refl _ _⟩
    case round =>
      obtain ⟨k, id, hk, rfl, rfl, HF, hT⟩ := hrel
      have HT := hide hT
      clear hT
      by_cases hlt : k < l.length
      · obtain ⟨b, off, rfl, hx⟩ := (HL.out.turn0 HT.out).at hlt
        have HS := hide (chkFrom_drop (id := id) hlt)
        generalize l.getD k Lt.nil = x at *
        have hb := hx.lt
        obtain ⟨c0, c1, c2, c3, c4, c5, c6, c7, c8⟩ := hx
        have HT2 := hide (HT.out.alloc (.cells (lotC x).toArray 35))
        by_cases ho : one id x = 0
        · go_wp2_with fail
          refine (behind_any id x _).mono ?_
          rw [ho]
          rintro e w1 ⟨rfl, hT1⟩
          have hc0 : w1.cell? ⟨wr.heap.size, 0, none⟩ = some (.int .i64 x.id) := (hT1.cell (p := ⟨wr.heap.size, 0, none⟩) (by simp) (by simp)).trans (World.cell?_alloc_at _ _ _ _ rfl)
          have HT3 := hide (HT2.out.trans hT1)
          have HN : Hid (chkFrom 0 l = chkFrom x.id (l.drop (k + 1))) := by rw [Hid, HF.out, HS.out, if_pos ho]
          clear hT1 HS c0 c1 c2 c3 c4 c5 c6 c7 c8 ho HF
          go_wp2
          go_roundw
          case rel => exact ⟨k + 1, x.id, by omega, rfl, by go_num, HN, HT3.out⟩
          case measure => simp [intOf]; omega
        · have HN : Hid (chkFrom 0 l = one id x) := by rw [Hid, HF.out, HS.out, if_neg ho]
          clear HS HF
          go_wp2_with fail
          refine (behind_any id x _).mono ?_
          rintro e w1 ⟨rfl, hT1⟩
          have HT3 := hide (HT2.out.trans hT1)
          generalize one id x = r at *
          have hr : (r != 0) = true := by simpa using ho
          clear hT1 c0 c1 c2 c3 c4 c5 c6 c7 c8 ho
          go_wp2
          go_ret
          exact ⟨ret_int (by rw [HC.out, HN.out]), HT3.out⟩
      · obtain rfl : k = l.length := by omega
        go_wp2
        go_ret
        refine ⟨ret_int ?_, HT.out⟩
        rw [HC.out, HF.out, List.drop_length]
        rfl

end Go.Proofs.Ytegbinlpojpffab
