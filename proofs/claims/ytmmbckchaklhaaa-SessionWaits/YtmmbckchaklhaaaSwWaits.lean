/-
  SessionWaits, walked: bytes of a frame that is not whole wait.
-/
import Derived.Test.YtmmbckchaklhaaaSFrm
namespace Go.Proofs.Ytmmbckchaklhaaa.Se
open Go.RowKit Go.Maps

/-- A session that has the first i bytes of a frame. -/
structure At (B : Nat) (w0 w : World) (g q c : Nat) (l : List Nat) (i : Nat) : Prop where
  mine : ∃ mo, Mine B w g mo (if i < l.length + 2 then ⟨(frm l).take i, false⟩ else Ss.new)
  byr : Byr w (some ⟨q, 0, none⟩) c (frm l)
  low : q < B
  bw : B ≤ w.heap.size
  ow : w0.heap.size ≤ B
  tn : Turn [] w0 w

/-- Behind one byte more. -/
theorem at_feed {B : Nat} {w0 w : World} {g q c : Nat} {l : List Nat} {i : Nat} (h : At B w0 w g q c l i) (hl : l.length ≤ 512) (h0 : 0 < l.length) (hi : i < l.length + 2) :
    Calls Try.prog 11 #[.pointer (some ⟨g, 0, none⟩), .slice (hiA (some ⟨q, 0, none⟩) c i) 1 (c - i)] w fun e w' => ∃ v, e = .returned v ∧ At B w0 w' g q c l (i + 1) ∧ (i + 1 < l.length + 2 → ∃ a c, v = .slice a 0 c) ∧ (i + 1 = l.length + 2 → ∃ p cap, v = .slice (some ⟨p, 0, none⟩) 1 cap ∧ w'.rangeAt p 0 (itC (parsed l)) ∧ p < w'.heap.size) := by
  obtain ⟨mo, hM⟩ := h.mine
  rw [if_pos hi] at hM
  have hfl := frm_len l
  have hb1 : (((frm l).drop i).take 1).length = 1 := by rw [List.length_take, List.length_drop]; omega
  have hC := feed_mine h.bw hM (hiA (some ⟨q, 0, none⟩) c i) (c - i) (((frm l).drop i).take 1) ((h.byr.drop i).take 1) (fun x _ e hm => by
    obtain ⟨y, hy, hyx⟩ := hiA_block e
    have := (hM.up _ hm).1
    have e2 : q = y.block := by rw [← Option.some.inj hy]
    have := h.low
    omega) (by omega)
  rw [hb1] at hC
  refine hC.mono ?_
  rintro e w' ⟨v, mo', he, hP⟩
  refine ⟨v, he, ⟨⟨mo', ?_⟩, ?_, h.low, Nat.le_trans h.bw hP.tn.size, h.ow, hP.old hM h.ow h.tn⟩, fun hlt => ?_, fun heq => ?_⟩
  · by_cases hlt : i + 1 < l.length + 2
    · have := hP.mine
      rw [feed_byte hl h0 hlt] at this
      rw [if_pos hlt]
      exact this
    · have := hP.mine
      rw [feed_last hl h0 (by omega)] at this
      rw [if_neg hlt]
      exact this
  · exact h.byr.keepS hP.tn (fun x _ e hm => by
      have := (hM.up _ hm).1
      have e2 : x.block = q := by rw [← Option.some.inj e]
      have := h.low
      omega)
  · have := hP.its
    rw [feed_byte hl h0 hlt] at this
    exact this.form
  · have := hP.its
    rw [feed_last hl h0 heq] at this
    obtain ⟨p, cap, hv, hr, hp⟩ := this.get (by simp)
    refine ⟨p, cap, hv, ?_, hp⟩
    rw [flatI_single] at hr
    exact hr

theorem At.waits {B : Nat} {w0 w : World} {g q c : Nat} {l : List Nat} {i : Nat} (h : At B w0 w g q c l i) :
    Calls Try.prog 14 #[.pointer (some ⟨g, 0, none⟩)] w fun e w' => e = .returned (.int .i64 ((if i < l.length + 2 then i else 0 : Nat) : Int)) ∧ w' = w := by
  obtain ⟨mo, hM⟩ := h.mine
  refine (waits_any hM.at_).mono ?_
  rintro e w' ⟨he, hw⟩
  refine ⟨?_, hw⟩
  rw [he]
  by_cases hi : i < l.length + 2
  · rw [if_pos hi, if_pos hi]
    have hfl := frm_len l
    have : ((frm l).take i).length = i := by rw [List.length_take]; omega
    rw [this]
  · rw [if_neg hi, if_neg hi]
    rfl
theorem At.end_ {B : Nat} {w0 w : World} {g q c : Nat} {l : List Nat} {i : Nat} (h : At B w0 w g q c l i) (hi : ¬ i < l.length + 2) :
    (Calls Try.prog 13 #[.pointer (some ⟨g, 0, none⟩)] w fun e w' => e = .returned (.bool false) ∧ w' = w) ∧
    Calls Try.prog 11 #[.pointer (some ⟨g, 0, none⟩), .slice none 0 0] w fun e w' => ∃ a c, e = .returned (.slice a 0 c) ∧ Turn [] w0 w' := by
  obtain ⟨mo, hM⟩ := h.mine
  rw [if_neg hi] at hM
  refine ⟨broken_any hM.at_, ?_⟩
  have hC := feed_mine h.bw hM none 0 [] ⟨.inl rfl, fun x hx => (by cases hx), Nat.le_refl _, (by decide), .inl ⟨rfl, rfl⟩⟩ (fun x hx => absurd rfl hx) (by decide)
  refine Calls.mono hC ?_
  rintro e w' ⟨v, mo', he, hP⟩
  have hI := hP.its
  rw [feed_none] at hI
  obtain ⟨a, c, hv⟩ := hI.form
  exact ⟨a, c, by rw [he, hv]; rfl, hP.old hM h.ow h.tn⟩

/-- One round. -/
theorem round_wait {B : Nat} {w0 w : World} {g q c : Nat} {l : List Nat} {i : Nat} (h : At B w0 w g q c l i) (hl : l.length ≤ 512) (h0 : 0 < l.length) (hi : i + 1 < l.length + 2) :
    Calls Try.prog 11 #[.pointer (some ⟨g, 0, none⟩), .slice (hiA (some ⟨q, 0, none⟩) c i) 1 (c - i)] w fun e w' => ∃ a c2, e = .returned (.slice a 0 c2) ∧ At B w0 w' g q c l (i + 1) ∧ (Calls Try.prog 14 #[.pointer (some ⟨g, 0, none⟩)] w' fun e w'' => e = .returned (.int .i64 ((i : Int) + 1)) ∧ w'' = w') := by
  refine (at_feed h hl h0 (by omega)).mono ?_
  rintro e w' ⟨v, rfl, hA, h1, _⟩
  obtain ⟨a, c2, rfl⟩ := h1 hi
  have hW := hA.waits
  rw [if_pos hi] at hW
  exact ⟨a, c2, rfl, hA, hW⟩
theorem round_last {B : Nat} {w0 w : World} {g q c : Nat} {l : List Nat} {i : Nat} (key : ByteArray) (hp : parsed l = ⟨{ Rq.zero with k := 5, key := key }, 0⟩) (h : At B w0 w g q c l i) (hl : l.length ≤ 512) (h0 : 0 < l.length) (hi : i + 1 = l.length + 2) :
    Calls Try.prog 11 #[.pointer (some ⟨g, 0, none⟩), .slice (hiA (some ⟨q, 0, none⟩) c i) 1 (c - i)] w fun e w' => ∃ p cap, e = .returned (.slice (some ⟨p, 0, none⟩) 1 cap) ∧ At B w0 w' g q c l (i + 1) ∧ w'.cell? ⟨p, 1, none⟩ = some (.string key) ∧ w'.cell? ⟨p, 18, none⟩ = some (.int .i64 0) ∧ p < w'.heap.size ∧ (Calls Try.prog 14 #[.pointer (some ⟨g, 0, none⟩)] w' fun e w'' => e = .returned (.int .i64 0) ∧ w'' = w') := by
  refine (at_feed h hl h0 (by omega)).mono ?_
  rintro e w' ⟨v, rfl, hA, _, h1⟩
  obtain ⟨p, cap, rfl, hr, hpl⟩ := h1 hi
  have hW := hA.waits
  rw [if_neg (by omega)] at hW
  rw [hp] at hr
  exact ⟨p, cap, rfl, hA, hr 1 _ rfl, hr 18 _ rfl, hpl, hW⟩

set_option maxRecDepth 100000 in
set_option maxHeartbeats 8000000 in
theorem waits_law (key : ByteArray) (w : World) (hks : key.size ≤ 9223372036854775807) : Calls Try.prog 6 #[.string key] w fun e w' => e = .returned (.bool true) ∧ Turn [] w w' := by
  by_cases hk : 255 < key.size
  · have hz2 : (255 : Int) < (key.size : Int) := by omega
    go_enter Try.func6, Try.ntmps6
    go_wp2_with fail
    refine (known_any w).mono ?_
    rintro e w1 ⟨rfl, hT1⟩
    have HT1 := hide hT1
    clear hT1
    go_wp2_with fail
    go_ret
    exact ⟨rfl, HT1.out⟩
  · have hk' : key.size ≤ 255 := by omega
    obtain ⟨l, hl⟩ : ∃ l, l = [5, key.size] ++ natBytes key := ⟨_, rfl⟩
    have hll : l.length = 2 + key.size := by rw [hl, List.length_append, natBytes_length]; rfl
    have h8 : ∀ x ∈ l, x < 256 := fun x hx => by
      rw [hl] at hx
      rcases List.mem_append.1 hx with k | k
      · rcases List.mem_cons.1 k with rfl | k
        · omega
        · rw [List.mem_singleton.1 k]
          omega
      · exact natBytes_lt key x k
    have HPar : Hid (∀ _ : Unit, parsed l = ⟨{ Rq.zero with k := 5, key := key }, 0⟩) := fun _ => by rw [hl]; exact parsed_show key
    have HEnc : Hid (∀ u : World, Calls Try.prog 16 #[.agg #[.int .i64 5, .string key, .int .i64 0, .int .i64 0, .int .i64 0, .int .i64 0, .string { data := #[] }, .string { data := #[] }, .string { data := #[] }, .int .i64 0, .int .i64 0, .int .i64 0, .int .i64 0, .int .i64 0, .int .i64 0, .int .i64 0, .int .i64 0, .int .i64 0]] u fun e w' => ∃ v, e = .returned (.tuple #[v, .int .i64 0]) ∧ EncP u w' ⟨l, 0⟩ v) := fun u => by
      have := rencreq u { Rq.zero with k := 5, key := key } ⟨by show key.size ≤ _; omega, (show (0 : Nat) ≤ 9223372036854775807 by decide), (show (0 : Nat) ≤ 9223372036854775807 by decide), (show (0 : Nat) ≤ 9223372036854775807 by decide)⟩
      rw [enc_show key hk'] at this
      rw [hl]
      exact this
    have hz2 : (key.size : Int) ≤ 255 := by omega
    have hl1 : l.length ≤ 512 := by omega
    have hl0 : 0 < l.length := by omega
    have H8 := hide h8
    clear hl h8 hll hk hk' hks
    go_enter Try.func6, Try.ntmps6
    go_wp2_with fail
    refine (known_any w).mono ?_
    rintro e w1 ⟨rfl, hT1⟩
    have HT1 := hide hT1
    clear hT1
    go_upto_region 6 with (first | (go_at_call 16; refine (HEnc.out _).mono ?_; rintro e w2 ⟨v, rfl, hP⟩; have HP := hide hP; clear hP) | fail)
    obtain ⟨qe, ce, hv, hx1, hx2, hx3, hB, hx4⟩ := own_bytes (HP.out.own rfl) hl0
    clear hx1 hx2 hx4
    have HT2 : Hid (Turn [] w w2) := HT1.out.trans HP.out.old
    have HFr := hide (rframe_any w2 (some ⟨qe, 0, none⟩) ce l (by omega) hB (fun e => by cases e))
    subst hv
    clear hB HP HT1 HEnc
    go_upto_region 7 with (first | (go_at_call 17; refine HFr.out.mono ?_; rintro e w3 ⟨v, ev, rfl, hP⟩; have HP := hide hP; clear hP) | fail)
    obtain ⟨hown, hev⟩ := HP.out.yes (by omega)
    have HT3 : Hid (Turn [] w w3) := HT2.out.trans HP.out.old
    obtain ⟨q, c, hv, hx1, hx2, hq, hB, hx4⟩ := own_bytes (l := frm l) hown (by omega)
    obtain ⟨a', c', hv', hBy⟩ := Byr.of (l := frm l) hown (frm_8 H8.out hl1)
    rw [hv] at hv'
    injection hv' with e1 e2 e3
    subst e1 e3
    clear hx1 hx2 hx4 hB e2 hown HP HFr HT2
    subst hv hev
    obtain ⟨N, hN⟩ : ∃ N, N = l.length + 2 := ⟨_, rfl⟩
    have hfl : (frm l).length = N := by rw [frm_len, hN]
    have hNc : N ≤ c := by have := hBy.lc; omega
    have hcm := hBy.cm
    unfold maxLen at hcm
    rw [hfl]
    have HN := hide hN
    have HBy := hide hBy
    have hN1 : N ≤ 514 := by omega
    clear hfl hBy hN
    go_upto_region 10 with (first | (go_at_call 9; refine (new_any w3).mono ?_; rintro e w4 ⟨g, rfl, hg, hS, hT4⟩; have HM := hide (Mine.new hg hS); have HT4 := hide hT4; clear hg hS hT4) | fail)
    have HA0 : Hid (At w3.heap.size w w4 g q c l 0) := ⟨⟨none, by rw [if_pos (by omega)]; exact HM.out⟩, HBy.out.turn HT4.out, hq, HT4.out.size, HT3.out.size, HT3.out.trans HT4.out⟩
    have hg4 : g < w4.heap.size := HM.out.at_.lt
    clear HM HT4 HBy HT3
    generalize w3.heap.size = B at *
    go_wp2_with fail
    go_loopw [8] (fun u wr => ∃ (i : Nat), i ≤ N ∧ u = .int .i64 (i : Nat) ∧ Hid (At B w wr g q c l i)) (fun u _ => N - (intOf u).toNat)
    case atStart => exact ⟨0, Nat.zero_le _, rfl, HA0⟩
    case round =>
      obtain ⟨i, hi, rfl, HA⟩ := hrel
      by_cases hlt : i < N
      · have hsl := fun u => slice_one (some ⟨q, 0, none⟩) N c i u (by omega)
        by_cases hl2 : i + 1 < N
        · have HF := hide (round_wait HA.out hl1 hl0 (by have := HN.out; omega))
          clear HA HA0
          generalize hiA (some ⟨q, 0, none⟩) c i = A at *
          go_wp2_with (first | (go_at_call 11; refine HF.out.mono ?_; rintro e w5 ⟨a5, c5, rfl, hA, hW⟩; have HA := hide hA; have HW := hide hW; clear hA hW) | (go_at_call 14; refine HW.out.mono ?_; rintro e w6 ⟨rfl, hw6⟩; subst w6) | fail)
          refine ⟨⟨i + 1, by omega, ?_, HA⟩, ?_⟩
          · exact congrArg (Value.int .i64) (by omega)
          · first | omega | (simp [intOf]; omega) | (simp; omega)
        · have hi1 : i + 1 = N := by omega
          have HF := hide (round_last key (HPar.out ()) HA.out hl1 hl0 (by have := HN.out; omega))
          clear HA HA0 HPar
          generalize hiA (some ⟨q, 0, none⟩) c i = A at *
          go_wp2_with (first | (go_at_call 11; refine HF.out.mono ?_; rintro e w5 ⟨p5, c5, rfl, hA, k1, k18, hp5, hW⟩; have HA := hide hA; have HW := hide hW; clear hA hW) | (go_at_call 14; refine HW.out.mono ?_; rintro e w6 ⟨rfl, hw6⟩; subst w6) | fail)
          refine ⟨⟨i + 1, by omega, ?_, HA⟩, ?_⟩
          · exact congrArg (Value.int .i64) (by omega)
          · first | omega | (simp [intOf]; omega) | (simp; omega)
      · obtain ⟨hE1, hE2⟩ := HA.out.end_ (by have := HN.out; omega)
        have HE1 := hide hE1
        have HE2 := hide hE2
        clear hE1 hE2 HA HA0 HPar
        go_wp2_with (first | (go_at_call 13; refine HE1.out.mono ?_; rintro e w6 ⟨rfl, hw6⟩; subst w6) | (go_at_call 11; refine HE2.out.mono ?_; rintro e w5 ⟨a5, c5, rfl, hT5⟩; have HT5 := hide hT5; clear hT5) | fail)
        go_ret
        exact ⟨rfl, HT5.out⟩

end Go.Proofs.Ytmmbckchaklhaaa.Se
