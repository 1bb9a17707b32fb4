/-
  LotsLeft, walked.
-/
import Derived.Test.YtegbinlpojpffaaLHead
import Derived.Test.YtegbinlpojpffaaLLeft
namespace Go.Proofs.Ytegbinlpojpffaa
open Go.RowKit Go.Maps Lo

theorem one_lot {w : World} {b o : Nat} {x : Lt} (h : LotIn w b o x) : LotsAt w (some ⟨b, o, none⟩) [x] := .inr ⟨b, o, rfl, fun i hi => by
  obtain rfl : i = 0 := by simpa using hi
  exact h⟩

set_option maxRecDepth 100000 in
set_option maxHeartbeats 4000000 in
theorem leftlaw_any (a : Option Addr) (cap : Nat) (l : List Lt) (now : Int) (w : World) (hlen : l.length ≤ 9223372036854775807) (hL : LotsAt w a l) :
    Calls Try.prog 7 #[.slice a l.length cap, .int .i64 now] w fun e w' => e = .returned (.bool true) ∧ Turn [] w w' := by
  have HL := hide hL
  clear hL
  go_enter Try.func7, Try.ntmps7
  go_wp2_with fail
  refine (known_any w).mono ?_
  rintro e w1 ⟨rfl, hT1⟩
  have HT1 := hide hT1
  clear hT1
  go_wp2_with fail
  refine (within_any _ _ _ (by omega) (by omega)).mono ?_
  rintro e w1 ⟨rfl, rfl⟩
  obtain ⟨t, ht⟩ : ∃ t, t = now % 100000 := ⟨_, rfl⟩
  rw [← ht]
  have ht1 : 0 ≤ t ∧ t < 100000 := by omega
  clear ht
  go_wp2_with fail
  refine (goodAt_any a cap l t w1 hlen (HL.out.turn0 HT1.out) (by omega) (by omega)).mono ?_
  rintro e w2 ⟨ga, gc, G, rfl, hG, hT2⟩
  have HG := hide hG
  have HT2 := hide (HT1.out.trans hT2)
  have hGl := hG.good.len
  have hGc := hG.cap
  have HBd : Hid (Bds 1000000000000 G) := (hG.good.bd ht1.1 (by omega)).mono (by omega)
  clear hG hT2 HT1 HL
  go_wp2_with fail
  go_loopw [5, 6] (fun s i wr => ∃ (k : Nat) (v : Int), k ≤ G.length ∧ s = .int .i64 v ∧ i = .int .i64 k ∧ Hid (v = lf t (G.take k)) ∧ Hid (GoodAt t l w1.heap.size ga gc G wr) ∧ Turn [] w wr) (fun _ i _ => G.length - (intOf i).toNat)
  case atStart => exact ⟨0, 0, Nat.zero_le _, rfl, rfl, hide rfl, HG, HT2.out⟩
  case round =>
    obtain ⟨k, v, hk, rfl, rfl, HF, HGr, hT⟩ := hrel
    have HT := hide hT
    clear hT HG HT2
    by_cases hlt : k < G.length
    · obtain ⟨b, off, rfl, hx⟩ := HGr.out.lots.at hlt
      have hvb : -100000000000000 ≤ v ∧ v ≤ 100000000000000 := by
        have := lf_bd (by omega) t (G.take k) (fun y hy => HBd.out y (List.mem_of_mem_take hy))
        rw [← HF.out, List.length_take] at this
        omega
      have HS := hide (lf_take (now := t) hlt)
      have HQ := hide (HBd.out.at hlt)
      generalize G.getD k Lt.nil = x at *
      have hb := hx.lt
      have HX := hide hx
      have hkc : ¬ gc = k := by omega
      have HOne := hide (left_any (some ⟨b, off + k * 9, none⟩) (gc - k) [x] t wr (by simp) (fun y hy => by simp at hy; subst hy; exact HQ.out) (one_lot hx))
      have e1 : ((k + 1 : Nat) : Int) - (k : Int) = 1 := by omega
      clear hx
      go_wp2_with fail
      refine HOne.out.mono ?_
      rintro e w3 ⟨rfl, hT3⟩
      have HT3 := hide (HT.out.trans hT3)
      have HG3 := hide (HGr.out.turn0 hT3)
      have hx3 := HX.out.turn hT3 (by simp)
      have HX3 := hide hx3
      have hb3 := hx3.lt
      obtain ⟨c0, c1, c2, c3, c4, c5, c6, c7, c8⟩ := hx3
      have HL1 : Hid (lf t [x] = if vld x t = true then rest x else 0) := by rw [Hid, lf, lf]; omega
      have hVd : vld x t = true ↔ x.fr ≤ t ∧ t < x.un := by unfold vld; simp
      have HVd := hide hVd
      clear hVd
      have hrb := HQ.out.rest
      clear hT3 HOne HX HT HGr
      by_cases hv : vld x t = true
      · have hv2 := HVd.out.1 hv
        rw [if_pos hv] at HL1 HS
        rw [HL1.out]
        have HN : Hid (v + rest x = lf t (G.take (k + 1))) := by rw [Hid, HF.out, HS.out]
        have HQq := hide (HQ.out.q (by omega))
        by_cases hr : rest x = 0
        · have HR := hide hr
          rw [hr] at HN ⊢
          clear hr HF HS HL1 hv HVd
          go_wp2_with fail
          refine (rest_any x _ HQq.out).mono ?_
          rw [HR.out]
          rintro e w4 ⟨rfl, hT4⟩
          have HT4 := hide (HT3.out.trans hT4)
          have HG4 := hide (HG3.out.turn0 hT4)
          clear hT4 c0 c1 c2 c3 c4 c5 c6 c7 c8 HR
          go_wp2_with fail
          go_roundw
          case rel => exact ⟨k + 1, v, by omega, rfl, by go_num, by rw [Int.add_zero] at HN; exact HN, HG4, HT4.out⟩
          case measure => simp [intOf]; omega
        · have hrz : (rest x != 0) = true := by simpa using hr
          have HR := hide (rest_any x)
          generalize rest x = r at *
          clear hr HF HS HL1 hv HVd
          go_wp2_with fail
          refine (HR.out _ HQq.out).mono ?_
          rintro e w4 ⟨rfl, hT4⟩
          have HT4 := hide (HT3.out.trans hT4)
          have HG4 := hide (HG3.out.turn0 hT4)
          have hx4 := HX3.out.turn hT4 (by simp)
          have hb4 := hx4.lt
          clear hT4 c0 c1 c2 c3 c4 c5 c6 c7 c8 HT3 HG3
          obtain ⟨c0, c1, c2, c3, c4, c5, c6, c7, c8⟩ := hx4
          go_wp2_with fail
          refine (HR.out _ HQq.out).mono ?_
          rintro e w5 ⟨rfl, hT5⟩
          have HT5 := hide (HT4.out.trans hT5)
          have HG5 := hide (HG4.out.turn0 hT5)
          clear hT5 c0 c1 c2 c3 c4 c5 c6 c7 c8 HR
          go_wp2_with fail
          go_roundw
          case rel => exact ⟨k + 1, v + r, by omega, rfl, by go_num, HN, HG5, HT5.out⟩
          case measure => simp [intOf]; omega
      · rw [if_neg hv] at HL1 HS
        rw [HL1.out]
        have HN : Hid (v = lf t (G.take (k + 1))) := by rw [Hid, HF.out, HS.out]; omega
        have hv2 : t < x.fr ∨ x.un ≤ t := by have : ¬ (x.fr ≤ t ∧ t < x.un) := fun h => hv (HVd.out.2 h); omega
        clear HF HS HL1 hv HVd
        by_cases hv3 : t < x.fr
        · go_wp2_with fail
          go_roundw
          case rel => exact ⟨k + 1, v, by omega, rfl, by go_num, HN, HG3, HT3.out⟩
          case measure => simp [intOf]; omega
        · have hv4 : x.un ≤ t := by omega
          go_wp2_with fail
          go_roundw
          case rel => exact ⟨k + 1, v, by omega, rfl, by go_num, HN, HG3, HT3.out⟩
          case measure => simp [intOf]; omega
    · have hkk : k = G.length := by omega
      have HE : Hid (v = lf t G) := by rw [Hid, HF.out, hkk, List.take_length]
      have HNil := fun w => hide (left_any none 0 [] t w (by simp) (fun y hy => by simp at hy) (.inl rfl))
      go_wp2_with fail
      refine (left_any ga gc G t wr (by omega) HBd.out HGr.out.lots).mono ?_
      rw [← HE.out]
      rintro e w3 ⟨rfl, hT3⟩
      have HT3 := hide (HT.out.trans hT3)
      clear hT3
      go_wp2_with fail
      refine (HNil w3).out.mono ?_
      rintro e w4 ⟨rfl, hT4⟩
      have HT4 := hide (HT3.out.trans hT4)
      clear hT4
      rw [show lf t [] = 0 from rfl]
      go_wp2_with fail
      go_ret
      exact ⟨rfl, HT4.out⟩

end Go.Proofs.Ytegbinlpojpffaa
