/-
  SessionBreaks, walked: a length that may not be breaks a session.
-/
import Derived.Test.YtmmbckchaklhaaaSArg
namespace Go.Proofs.Ytmmbckchaklhaaa.Se
open Go.RowKit Go.Maps

/-- So many frames, one behind the other. -/
def Frs (b : List Nat) (n : Nat) : Prop := ∃ ls : List (List Nat), ls.length = n ∧ (∀ l ∈ ls, Good l) ∧ b = ls.flatMap frm
theorem Frs.nil : Frs [] 0 := ⟨[], rfl, fun l hl => (by cases hl), rfl⟩
theorem Frs.more {b : List Nat} {n : Nat} (h : Frs b n) {l : List Nat} (hl : Good l) : Frs (b ++ frm l) (n + 1) := by
  obtain ⟨ls, rfl, h2, rfl⟩ := h
  refine ⟨ls ++ [l], by simp, fun x hx => ?_, by simp⟩
  rcases List.mem_append.1 hx with k | k
  · exact h2 x k
  · rw [List.mem_singleton.1 k]
    exact hl
theorem Frs.len {b : List Nat} {n : Nat} (h : Frs b n) : b.length ≤ 514 * n := by
  obtain ⟨ls, rfl, h2, rfl⟩ := h
  induction ls with
  | nil => simp
  | cons l ls ih =>
    have h1 := (h2 l (by simp)).2.1
    have := ih (fun x hx => h2 x (by simp [hx]))
    rw [List.flatMap_cons, List.length_append, frm_len, List.length_cons]
    omega
theorem Frs.by8 {b : List Nat} {n : Nat} (h : Frs b n) : ∀ x ∈ b, x < 256 := by
  obtain ⟨ls, rfl, h2, rfl⟩ := h
  intro x hx
  obtain ⟨l, hl, hxl⟩ := List.mem_flatMap.1 hx
  exact frm_8 (h2 l hl).2.2 (h2 l hl).2.1 x hxl
theorem Frs.run {b : List Nat} {n : Nat} (h : Frs b n) (r : List Nat) : ∃ its : List It, its.length = n ∧ run (b ++ r) = (its ++ (run r).1, (run r).2) := by
  obtain ⟨ls, rfl, h2, rfl⟩ := h
  induction ls with
  | nil => exact ⟨[], rfl, by simp⟩
  | cons l ls ih =>
    obtain ⟨its, h3, h4⟩ := ih (fun x hx => h2 x (by simp [hx]))
    obtain ⟨g1, g2, _⟩ := h2 l (by simp)
    refine ⟨parsed l :: its, by simp [h3], ?_⟩
    rw [List.flatMap_cons, List.append_assoc, run_frm g2 g1, h4]
    simp
/-- A length that may not be. -/
theorem run_broken {m : Nat} (hm : m = 0 ∨ 513 ≤ m) (hm2 : m < 2000) (more : List Nat) : Se.run ([m / 256, m % 256] ++ more) = ([It.long], [], true) := by
  have hsp : span ([m / 256, m % 256] ++ more) = 2 := by
    unfold span
    have e0 : ([m / 256, m % 256] ++ more).getD 0 0 = m / 256 := rfl
    have e1 : ([m / 256, m % 256] ++ more).getD 1 0 = m % 256 := rfl
    rw [e0, e1, if_neg (by simp)]
    split <;> omega
  exact run_bad (by rw [hsp]; simp) hsp
theorem feed_broken {b : List Nat} {n : Nat} (h : Frs b n) {m : Nat} (hm : m = 0 ∨ 513 ≤ m) (hm2 : m < 2000) (more : List Nat) : ∃ its : List It, its.length = n ∧ feed Ss.new (b ++ [m / 256, m % 256] ++ more) = (its ++ [It.long], ⟨[], true⟩) := by
  obtain ⟨its, h1, h2⟩ := h.run ([m / 256, m % 256] ++ more)
  refine ⟨its, h1, ?_⟩
  unfold feed
  rw [if_neg (by simp [Ss.new])]
  have e : Ss.new.ws ++ (b ++ [m / 256, m % 256] ++ more) = b ++ ([m / 256, m % 256] ++ more) := by rw [List.append_assoc]; rfl
  rw [e, h2, run_broken hm hm2]

/-- A session of the call's own is one of an elder call's. -/
theorem Mine.lower {B B' : Nat} {w : World} {g : Nat} {mo : Option Nat} {s : Ss} (h : Mine B w g mo s) (hB : B' ≤ B) : Mine B' w g mo s := ⟨h.at_, fun x hx => ⟨Nat.le_trans hB (h.up x hx).1, (h.up x hx).2⟩, h.h8⟩
/-- Behind some requests: b has their frames. -/
structure Bk (w0 w : World) (v : Value) (b : List Nat) (n : Nat) : Prop where
  own : w.ownsRow w0.heap.size 5 1 v b.length (b.map byteCell)
  frs : Frs b n
  tn : Turn [] w0 w
theorem Bk.start {w0 w : World} (h : Turn [] w0 w) : Bk w0 w (.slice none 0 0) [] 0 := ⟨World.ownsRow_nil _ _ _ _, Frs.nil, h⟩
theorem Bk.keep {w0 w w' : World} {v : Value} {b : List Nat} {n : Nat} (h : Bk w0 w v b n) (hT : Turn [] w w') : Bk w0 w' v b n := ⟨own_keepS h.own hT (by simp), h.frs, h.tn.trans hT⟩
/-- Bytes were put behind a row of the call's own. -/
theorem grown_turn {w0 w w' : World} {v : Value} {l : List Nat} {n : Nat} (hO : w.ownsRow w0.heap.size 5 1 v n (l.map byteCell)) (hT : Turn [] w0 w) (hG : w.grownBy w' v.ownBlock) : Turn [] w0 w' := hT.grown hG (fun _ hk => .inr (own_ge hO hk).1)
theorem Bk.more {w0 w w' : World} {v v' : Value} {b : List Nat} {n : Nat} (h : Bk w0 w v b n) {l : List Nat} (hl : Good l) (hO : w'.ownsRow w0.heap.size 5 1 v' (b.length + (frm l).length) ((b ++ frm l).map byteCell)) (hG : w.grownBy w' v.ownBlock) : Bk w0 w' v' (b ++ frm l) (n + 1) :=
  ⟨by rw [List.length_append]; exact hO, h.frs.more hl, grown_turn h.own h.tn hG⟩

set_option maxRecDepth 100000 in
set_option maxHeartbeats 8000000 in
theorem breaks_law (ra : Option Addr) (rc : Nat) (rs : List Rq) (n : Int) (ma : Option Addr) (mc : Nat) (more : List Nat) (w : World) (hR : RqsAt w ra rs) (hF : ∀ r ∈ rs, r.Fits) (hrl : rs.length ≤ 9223372036854775807) (hM : Bya w ma mc more) :
    Calls Try.prog 5 #[.slice ra rs.length rc, .int .i64 n, .slice ma more.length mc] w fun e w' => e = .returned (.bool true) ∧ Turn [] w w' := by
  have hml : more.length ≤ 9223372036854775807 := by have := hM.lc; have := hM.cm; unfold maxLen at this; omega
  by_cases h1 : 10 < rs.length
  · have hd : (10 : Int) < (rs.length : Int) := by omega
    clear hR hF hM h1
    generalize rs.length = N at *
    generalize more.length = M at *
    go_enter Try.func5, Try.ntmps5
    go_wp2_with fail
    refine (known_any w).mono ?_
    rintro e w1 ⟨rfl, hT1⟩
    have HT1 := hide hT1
    clear hT1
    go_wp2_with fail
    go_ret
    exact ⟨rfl, HT1.out⟩
  by_cases h2 : 1000 < more.length
  · have hd : (rs.length : Int) ≤ 10 := by omega
    have hd2 : (1000 : Int) < (more.length : Int) := by omega
    clear hR hF hM h1 h2
    generalize rs.length = N at *
    generalize more.length = M at *
    go_enter Try.func5, Try.ntmps5
    go_wp2_with fail
    refine (known_any w).mono ?_
    rintro e w1 ⟨rfl, hT1⟩
    have HT1 := hide hT1
    clear hT1
    go_wp2_with fail
    go_ret
    exact ⟨rfl, HT1.out⟩
  have hd : (rs.length : Int) ≤ 10 := by omega
  have hd2 : (more.length : Int) ≤ 1000 := by omega
  obtain ⟨x, hx⟩ : ∃ x, x = n % 2000 := ⟨_, rfl⟩
  have hn0 : 0 ≤ x := by rw [hx]; exact Int.emod_nonneg n (by omega)
  have hn1 : x < 2000 := by rw [hx]; exact Int.emod_lt_of_pos n (by omega)
  have HWi : Hid (∀ u : World, Calls Try.prog 15 #[.int .i64 n, .int .i64 2000] u fun e w' => e = .returned (.int .i64 x) ∧ w' = u) := fun u => by rw [hx]; exact within_any n 2000 u (by omega) (by omega)
  have HR := hide hR
  have HF := hide hF
  have HM := hide hM
  obtain ⟨N, hN⟩ : ∃ N, N = rs.length := ⟨_, rfl⟩
  have HN := hide hN
  rw [← hN] at hd ⊢
  clear hR hF hM h1 h2 hrl hml hx hN
  go_enter Try.func5, Try.ntmps5
  go_wp2_with fail
  refine (known_any w).mono ?_
  rintro e w1 ⟨rfl, hT1⟩
  have HT1 := hide hT1
  clear hT1
  go_upto_region 6 with (first | (go_at_call 15; refine (HWi.out _).mono ?_; rintro e w2 ⟨rfl, hw2⟩; subst w2) | fail)
  clear HWi
  go_cut [33] from 16 to 110 (fun u wx => u = .bool (decide (1 ≤ x ∧ x ≤ 512)) ∧ wx = w1)
  case first =>
    by_cases h1 : 1 ≤ x
    · by_cases h2 : x ≤ 512
      · go_wp2_with fail
        go_meet
        case rel => exact ⟨congrArg Value.bool (decide_eq_true (by omega)).symm, rfl⟩
      · go_wp2_with fail
        go_meet
        case rel => exact ⟨congrArg Value.bool (decide_eq_false (by omega)).symm, rfl⟩
    · go_wp2_with fail
      go_meet
      case rel => exact ⟨congrArg Value.bool (decide_eq_false (by omega)).symm, rfl⟩
  case rest =>
  obtain ⟨rfl, rfl⟩ := hcut
  go_upto_if 33 with fail
  go_cut [1] from 16 to 110 (fun u wx => ∃ m : Nat, (m = 0 ∨ 513 ≤ m) ∧ m < 2000 ∧ u = .int .i64 (m : Nat) ∧ wx = wc)
  case first =>
    by_cases h1 : 1 ≤ x ∧ x ≤ 512
    · have hz : decide (1 ≤ x ∧ x ≤ 512) = true := decide_eq_true h1
      rw [hz]
      go_wp2_with fail
      go_meet
      case rel => exact ⟨0, .inl rfl, by omega, rfl, rfl⟩
    · have hz : decide (1 ≤ x ∧ x ≤ 512) = false := decide_eq_false h1
      rw [hz]
      go_wp2_with fail
      go_meet
      case rel => exact ⟨x.toNat, by omega, by omega, congrArg (Value.int .i64) (by omega), rfl⟩
  case rest =>
  obtain ⟨m, hm, hm2, rfl, rfl⟩ := hcut
  obtain ⟨M, hM⟩ : ∃ M, M = more.length := ⟨_, rfl⟩
  have HMl := hide hM
  rw [← hM] at hd2
  rw [← hM]
  have Hm := hide hm
  clear hM hm hn0 hn1
  have HB0 : Hid (Bk w wc (.slice none 0 0) [] 0) := Bk.start HT1.out
  clear HT1
  go_wp2_with fail
  go_loopw [7, 8, 9] (fun u7 u8 u9 wr => ∃ (k n : Nat) (b : List Nat), k ≤ N ∧ n ≤ k ∧ u7 = .int .i64 (n : Nat) ∧ u9 = .int .i64 (k : Nat) ∧ Hid (Bk w wr u8 b n)) (fun _ _ u9 _ => N - (intOf u9).toNat)
  case atStart => exact ⟨0, 0, [], Nat.zero_le _, Nat.le_refl _, rfl, rfl, HB0⟩
  case round =>
    obtain ⟨k, n, b, hk, hnk, rfl, rfl, HB⟩ := hrel
    clear HB0
    by_cases hlt : k < N
    · obtain ⟨rb, ro, rfl, hrg, hrb⟩ := (HR.out.turn0 HB.out.tn).at (i := k) (by have := HN.out; omega)
      have HEn := hide (enc_row wr (rs[k]'(by have := HN.out; omega)) (HF.out _ (List.getElem_mem _)))
      have hcl : (rqC (rs[k]'(by have := HN.out; omega))).length = 18 := rfl
      have HRg := hide hrg
      clear hrg
      generalize rqC (rs[k]'(by have := HN.out; omega)) = cs at *
      go_upto_region 14 with (first | ((with_reducible refine load_sz 43 18 sz25 _ rb (ro + k * 18) cs hcl ?_ HRg.out ?_); rfl) | (go_at_call 16; refine HEn.out.mono ?_; rintro e w2 ⟨a2, c2, L, y, rfl, hB2, hy, hT2⟩; have HFr := hide (frm_row w2 a2 c2 L hB2); have Hy := hide hy; have HT2 := hide hT2; clear hB2 hy hT2) | fail)
      clear HEn HRg hcl
      generalize L.length = Ln at *
      go_upto_region 15 with (first | (go_at_call 17; refine HFr.out.mono ?_; rintro e w3 ⟨a3, c3, F, z, rfl, hcs, hB3, hT3⟩; have HB3 := hide hB3; have HT3 := hide hT3; have Hcs := hide hcs; clear hB3 hT3 hcs) | fail)
      rcases Hcs.out with ⟨hg, rfl, rfl⟩ | ⟨_, rfl, rfl⟩ | ⟨_, rfl, rfl⟩
      · obtain rfl : y = 0 := by
          rcases Nat.eq_zero_or_pos y with h | h
          · exact h
          · have h1 := Hy.out (by omega)
            have h2 := hg.1
            rw [h1] at h2
            exact absurd h2 (Nat.lt_irrefl _)
        have HB2 := hide (HB.out.keep (HT2.out.trans HT3.out))
        have HO2 := hide HB2.out.own
        have hbl : b.length ≤ 514 * 10 := by have := HB.out.frs.len; have : n ≤ 10 := (by omega); omega
        have hfl : (frm L).length ≤ 514 := by have := hg.2.1; rw [frm_len]; omega
        have HSt : Hid (∀ v' w', w'.ownsRow w.heap.size 5 1 v' (b.length + (frm L).length) ((b ++ frm L).map byteCell) → w3.grownBy w' u8.ownBlock → Bk w w' v' (b ++ frm L) (n + 1)) := fun v' w' h1 h2 => HB2.out.more hg h1 h2
        have hbase : w.heap.size ≤ w3.heap.size := HB2.out.tn.size
        have HBt := hide HB3.out.bt
        have HNl := hide HB3.out.nil
        clear Hcs HB HB2 HB3 HT2 HT3 hg HFr
        generalize frm L = F at *
        generalize hFl : F.length = Fl at *
        have HFl := hide hFl
        generalize hbl' : b.length = bl at *
        have Hbl' := hide hbl'
        clear hFl hbl'
        go_wp2_with (first | (at_builtin; (with_reducible refine append_b rfl _ _ rfl w.heap.size u8 b bl Hbl'.out rfl HO2.out a3 Fl c3 F HFl.out rfl HBt.out HNl.out ?_ hbase ?_); omega; intro v4 w4 k1 k2 k3; have HBk := hide (HSt.out v4 w4 k1 k2); clear k1 k2 k3) | fail)
        refine ⟨⟨k + 1, n + 1, b ++ F, by omega, by omega, ?_, ?_, HBk⟩, ?_⟩
        · exact congrArg (Value.int .i64) (by omega)
        · exact congrArg (Value.int .i64) (by omega)
        · first | omega | (simp [intOf]; omega) | (simp; omega)
      · have HB2 := hide (HB.out.keep (HT2.out.trans HT3.out))
        clear Hcs HB HB3 HT2 HT3 HFr
        by_cases hy0 : y = 0
        · subst hy0
          go_wp2_with fail
          refine ⟨⟨k + 1, n, b, by omega, by omega, rfl, ?_, HB2⟩, ?_⟩
          · exact congrArg (Value.int .i64) (by omega)
          · first | omega | (simp [intOf]; omega) | (simp; omega)
        · have hy1 : (((y : Nat) : Int) == 0) = false := by rw [beq_eq_false_iff_ne]; omega
          go_wp2_with fail
          refine ⟨⟨k + 1, n, b, by omega, by omega, rfl, ?_, HB2⟩, ?_⟩
          · exact congrArg (Value.int .i64) (by omega)
          · first | omega | (simp [intOf]; omega) | (simp; omega)
      · have HB2 := hide (HB.out.keep (HT2.out.trans HT3.out))
        clear Hcs HB HB3 HT2 HT3 HFr
        by_cases hy0 : y = 0
        · subst hy0
          go_wp2_with fail
          refine ⟨⟨k + 1, n, b, by omega, by omega, rfl, ?_, HB2⟩, ?_⟩
          · exact congrArg (Value.int .i64) (by omega)
          · first | omega | (simp [intOf]; omega) | (simp; omega)
        · have hy1 : (((y : Nat) : Int) == 0) = false := by rw [beq_eq_false_iff_ne]; omega
          go_wp2_with fail
          refine ⟨⟨k + 1, n, b, by omega, by omega, rfl, ?_, HB2⟩, ?_⟩
          · exact congrArg (Value.int .i64) (by omega)
          · first | omega | (simp [intOf]; omega) | (simp; omega)
    · obtain rfl : k = N := by omega
      obtain ⟨y, hy⟩ : ∃ y : Nat, m / 256 = y := ⟨_, rfl⟩
      obtain ⟨z, hz⟩ : ∃ z : Nat, m % 256 = z := ⟨_, rfl⟩
      have hy2 : ((m : Nat) : Int) / 256 = (y : Int) := by omega
      have hz2 : ((m : Nat) : Int) % 256 = (z : Int) := by omega
      have hy3 : (y : Int) % 256 = (y : Int) := by omega
      have hyz : y < 256 ∧ z < 256 := by omega
      have HYZ := hide hyz
      obtain ⟨its, hil, hfd⟩ := feed_broken HB.out.frs Hm.out hm2 more
      rw [hy, hz] at hfd
      have Hil := hide hil
      have Hfd := hide (fun (_ : Unit) => hfd)
      have hb8 := HB.out.frs.by8
      have h8 : ∀ x ∈ b ++ [y, z] ++ more, x < 256 := app_8 (app_8 hb8 (fun x hx => by
        rcases List.mem_cons.1 hx with rfl | hx
        · exact hyz.1
        · rw [List.mem_singleton.1 hx]
          exact hyz.2)) HM.out.by8
      have H8 := hide h8
      have hbl : b.length ≤ 514 * 10 := by have := HB.out.frs.len; have : n ≤ 10 := (by omega); omega
      have HTa : Hid (Turn [] wr (wr.alloc (.cells #[.int .u8 (y : Nat), .int .u8 (z : Nat)] 5))) := (Turn.refl [] wr).alloc _
      have HBa := hide (HB.out.keep HTa.out)
      have HOa := hide HBa.out.own
      have HBt : Hid (BytesAt (wr.alloc (.cells #[.int .u8 (y : Nat), .int .u8 (z : Nat)] 5)) (some ⟨wr.heap.size, 0, none⟩) [y, z]) := (byr_new wr [y, z] (fun x hx => by
        rcases List.mem_cons.1 hx with rfl | hx
        · exact hyz.1
        · rw [List.mem_singleton.1 hx]
          exact hyz.2) (by show 2 ≤ maxLen; decide)).bt
      have hbase : w.heap.size ≤ (wr.alloc (.cells #[.int .u8 (y : Nat), .int .u8 (z : Nat)] 5)).heap.size := HBa.out.tn.size
      have HSt : Hid (∀ v' w', w'.ownsRow w.heap.size 5 1 v' (b.length + 2) ((b ++ [y, z]).map byteCell) → (wr.alloc (.cells #[.int .u8 (y : Nat), .int .u8 (z : Nat)] 5)).grownBy w' u8.ownBlock → Turn [] w w') := fun v' w' _ h2 => grown_turn HOa.out HBa.out.tn h2
      clear hy hz hil hfd hb8 h8 hyz HB HTa HBa
      generalize hbl' : b.length = bl at *
      have Hbl' := hide hbl'
      clear hbl'
      go_upto_region 19 with (first | (at_builtin; (with_reducible refine append_b rfl _ _ rfl w.heap.size u8 b bl Hbl'.out rfl HOa.out (some ⟨wr.heap.size, 0, none⟩) 2 2 [y, z] rfl rfl HBt.out (fun e => by cases e) ?_ hbase ?_); omega; intro v4 w4 k1 k2 k3; have HT4 := hide (HSt.out v4 w4 k1 k2); have HO4 := hide k1; clear k1 k2 k3) | fail)
      clear HOa HBt hbase HSt
      have HBm := hide (HM.out.bt.turn (S := []) HT4.out (by simp))
      have hbase2 : w.heap.size ≤ w4.heap.size := HT4.out.size
      have HSt : Hid (∀ w' : World, w4.grownBy w' v4.ownBlock → Turn [] w w') := fun _ h2 => grown_turn HO4.out HT4.out h2
      have HLl : Hid ((b ++ [y, z]).length = bl + 2) := by
        have : (b ++ [y, z]).length = bl + 2 := by rw [List.length_append, Hbl'.out]; rfl
        exact this
      have HNl := hide HM.out.nil
      go_upto_region 20 with (first | (at_builtin; (with_reducible refine append_b rfl _ _ rfl w.heap.size v4 (b ++ [y, z]) (bl + 2) HLl.out rfl HO4.out ma M mc more HMl.out.symm rfl HBm.out HNl.out ?_ hbase2 ?_); omega; intro v5 w5 k1 k2 k3; have HT5 := hide (HSt.out w5 k2); have HO5 := hide k1; clear k1 k2 k3) | fail)
      obtain ⟨B, hB⟩ : ∃ B, B = b ++ [y, z] ++ more := ⟨_, rfl⟩
      have hBl : B.length = bl + 2 + M := by rw [hB, List.length_append, HLl.out, HMl.out]
      have HBl := hide hBl
      rw [← hB] at HO5 H8 Hfd
      obtain ⟨a5, c5, hv5, hBy⟩ := Byr.of HO5.out H8.out
      have hblk : ∀ x, B ≠ [] → a5 = some x → x.block < w5.heap.size := fun x hb hx => by
        rcases hBy.bt with h | ⟨q, off, h, hc⟩
        · exact absurd h hb
        · rw [hx] at h
          rw [Option.some.inj h]
          exact lt_of_cell (hc 0 (List.length_pos_iff.2 hb))
      have HBlk := hide hblk
      have HBy := hide hBy
      clear hB hBl hBy hblk HO4 HO5 HT4 HBm hbase2 HSt HLl HNl
      rw [HBl.out] at hv5
      have hBn : bl + 2 + M ≤ 900000 := by omega
      subst hv5
      go_upto_region 21 with (first | (go_at_call 9; refine (new_any w5).mono ?_; rintro e w6 ⟨g, rfl, hg, hS, hT6⟩; have HMi := hide (Mine.new hg hS); have HT6 := hide hT6; have Hg := hide hg; clear hS hT6 hg) | fail)
      have hgl : g < w6.heap.size := HMi.out.at_.lt
      have hFe := feed_mine HT6.out.size HMi.out a5 c5 B (HBy.out.turn HT6.out) (fun x hb hx hm => by
        rcases own_iff.1 hm with e | e
        · have := HBlk.out x hb hx
          have := Hg.out
          omega
        · cases e) (by rw [HBl.out]; exact hBn)
      rw [HBl.out, Hfd.out ()] at hFe
      have HFe := hide hFe
      have HT56 := hide (HT5.out.trans HT6.out)
      clear hFe HBlk HBy Hfd H8
      go_upto_region 22 with (first | (go_at_call 11; refine HFe.out.mono ?_; rintro e w7 ⟨v, mo, rfl, hP⟩; have HP := hide hP; clear hP) | fail)
      have HT7 : Hid (Turn [] w w7) := HP.out.old HMi.out HT5.out.size HT56.out
      obtain ⟨q, cap, hv, hrg, hq⟩ := HP.out.its.get (by simp)
      have hlen : (its ++ [It.long]).length = n + 1 := by rw [List.length_append, Hil.out]; rfl
      have hr := flatI_at hrg (k := n) (by rw [hlen]; omega)
      have hgt : (its ++ [It.long])[n]'(by rw [hlen]; omega) = It.long := by
        rw [List.getElem_append_right (by rw [Hil.out]; omega)]
        simp
      rw [hgt] at hr
      have k18 : w7.cell? ⟨q, n * 19 + 18, none⟩ = some (.int .i64 5) := by
        have := hr 18 _ rfl
        rwa [Nat.zero_add] at this
      have HMi7 := hide HP.out.mine
      have HBr : Hid (Calls Try.prog 13 #[.pointer (some ⟨g, 0, none⟩)] w7 fun e w' => e = .returned (.bool true) ∧ w' = w7) := broken_any HMi7.out.at_
      have HWa : Hid (Calls Try.prog 14 #[.pointer (some ⟨g, 0, none⟩)] w7 fun e w' => e = .returned (.int .i64 0) ∧ w' = w7) := waits_any HMi7.out.at_
      have hFe2 := feed_new HT7.out.size (HMi7.out.lower HT5.out.size) [0, 3, 5, 1, 107] (by decide) (by decide)
      rw [feed_dead rfl] at hFe2
      have HFe2 := hide hFe2
      have hg7 : g < w7.heap.size := HMi7.out.at_.lt
      rw [hlen] at hv
      have HT7a : Hid (Turn [] w (w7.alloc (.cells (([0, 3, 5, 1, 107] : List Nat).map byteCell).toArray 5))) := HT7.out.alloc _
      have HMi7a := hide ((HMi7.out.lower HT5.out.size).turn0 ((Turn.refl [] w7).alloc (.cells (([0, 3, 5, 1, 107] : List Nat).map byteCell).toArray 5)))
      clear hFe2 HFe HP hrg hr hgt hlen HMi HT56
      subst hv
      go_wp2_with (first | (go_at_call 13; refine HBr.out.mono ?_; rintro e w8 ⟨rfl, hw8⟩; subst w8) | (go_at_call 14; refine HWa.out.mono ?_; rintro e w8 ⟨rfl, hw8⟩; subst w8) | (go_at_call 11; refine HFe2.out.mono ?_; rintro e w9 ⟨v9, mo9, rfl, hP9⟩; have HP9 := hide hP9; have HBr9 : Hid (Calls Try.prog 13 #[.pointer (some ⟨g, 0, none⟩)] w9 fun e w' => e = .returned (.bool true) ∧ w' = w9) := broken_any hP9.mine.at_; obtain ⟨a9, c9, hv9⟩ := hP9.its.form; clear hP9; subst hv9) | (go_at_call 13; refine HBr9.out.mono ?_; rintro e w8 ⟨rfl, hw8⟩; subst w8) | fail)
      go_ret
      exact ⟨rfl, HP9.out.old HMi7a.out (Nat.le_refl _) HT7a.out⟩

end Go.Proofs.Ytmmbckchaklhaaa.Se
