/-
  LotsUses, walked.
-/
import Derived.Test.YtegbinlpojpffaaLHead
import Derived.Test.YtegbinlpojpffaaLUse
import Derived.Test.YtegbinlpojpffaaLChk2
import Derived.Test.YtegbinlpojpffaaLUsesQ
namespace Go.Proofs.Ytegbinlpojpffaa
open Go.RowKit Go.Maps Lo

set_option maxRecDepth 100000 in
set_option maxHeartbeats 8000000 in
theorem uses_any (a : Option Addr) (cap : Nat) (l : List Lt) (n0 m0 now later : Int) (w : World) (hlen : l.length ≤ 9223372036854775807) (hL : LotsAt w a l) :
    Calls Try.prog 6 #[.slice a l.length cap, .int .i64 n0, .int .i64 m0, .int .i64 now, .int .i64 later] w fun e w' => e = .returned (.bool true) ∧ Turn [] w w' := by
  have HL := hide hL
  clear hL
  go_enter Try.func6, Try.ntmps6
  go_wp2_with fail
  refine (known_any w).mono ?_
  rintro e w1 ⟨rfl, hT1⟩
  have HT1 := hide hT1
  clear hT1
  go_wp2_with (go_at_call 14; refine (within_any _ _ _ (by omega) (by omega)).mono ?_; rintro e w1 ⟨rfl, rfl⟩)
  obtain ⟨t, ht⟩ : ∃ t, t = now % 100000 := ⟨_, rfl⟩
  obtain ⟨d, hd⟩ : ∃ d, d = later % 12 := ⟨_, rfl⟩
  rw [← ht, ← hd]
  have ht1 : 0 ≤ t ∧ t < 100000 := by omega
  have hd1 : 0 ≤ d ∧ d < 12 := by omega
  clear ht hd
  refine (goodAt_any a cap l t w1 hlen (HL.out.turn0 HT1.out) (by omega) (by omega)).mono ?_
  rintro e w2 ⟨ga, gc, G, rfl, hG, hT2⟩
  have HG := hide hG
  have HT2 := hide (HT1.out.trans hT2)
  have hGl := hG.good.len
  have hGc := hG.cap
  clear hG hT2 HT1 HL
  have HWn := fun w => hide (within_any n0 5000 w (by omega) (by omega))
  have HWm := fun w => hide (within_any m0 6000 w (by omega) (by omega))
  obtain ⟨n, hn⟩ : ∃ n, n = n0 % 5000 := ⟨_, rfl⟩
  obtain ⟨m, hm⟩ : ∃ m, m = m0 % 6000 := ⟨_, rfl⟩
  rw [← hn] at HWn
  rw [← hm] at HWm
  have hn1 : 0 ≤ n ∧ n < 5000 := by omega
  have hm1 : 0 ≤ m ∧ m < 6000 := by omega
  clear hn hm
  go_wp2_with fail
  refine (HWn _).out.mono ?_
  rintro e w2 ⟨rfl, rfl⟩
  go_wp2_with fail
  refine (take_any ga gc G n t _ HG.out.good.rises (by omega) (HG.out.good.bh (by omega) (by omega)) HG.out.lots HG.out.nil (by omega) (by omega)).mono ?_
  rintro e w3 ⟨is, g1, A, P, x, pa, pc, hTd, htk, rfl, hA1, hA2, hA3, hA4, hPt, hpn, hP14, hpc1, hpc2, _, hT3⟩
  have HK : Hid (Tkn G is n A P x) := by
    have h := tkn_of is G n hn1.1 (fun i hi => ⟨((hTd.mem i).1 hi).1, can_rest ((hTd.mem i).1 hi).2⟩) (turned_nodup hTd)
    rw [htk] at h
    exact h
  have HTd := hide hTd
  have hxb := HK.out.lack
  have HAl : Hid (A.length = G.length) := hA1
  have HA4 := hide hA4
  have HPt := hide hPt
  have HAb : Hid (Bds 10000000000000 A) := fun z hz => by
    obtain ⟨h1, h2, h3, h4, h5, h6, h7, h8⟩ := hA2 z hz
    exact ⟨by omega, by omega, by omega, by omega, by omega, by omega, by omega, by omega⟩
  have HPP : Hid (∀ z ∈ P, 1 ≤ z.2 ∧ z.2 ≤ 1000000) := fun z hz => by
    obtain ⟨j, hj, rfl⟩ := List.getElem_of_mem hz
    have h := HK.out.part j hj
    rw [getDp hj] at h
    have hm : is.getD j 0 ∈ is := by have := HK.out.plen; rw [getDn (by omega)]; exact List.getElem_mem _
    have hg := HG.out.good.at ((HTd.out.mem _).1 hm).1
    have := hg.gr; have := hg.he; have := hg.co; have := hg.ex; have := hg.ro
    unfold rest at h
    omega
  have HT3 := hide (HT2.out.trans hT3)
  have HG3 := hide (HG.out.turn0 hT3)
  clear hTd htk hA4 hT3 HT2 HG hA2 hA1 hA3 hPt
  have HUse := fun M T (h0 : 0 ≤ M) (h1 : M ≤ 1000000) w h2 h3 => hide (use_any (some ⟨g1, 0, none⟩) A.length A pa pc P M T w (by rw [HAl.out]; omega) HAb.out h2 (fun h => by cases h) h3 hP14 HPP.out h0 h1)
  simp only [HAl.out] at HUse
  go_wp2_with fail
  refine (HWm _).out.mono ?_
  rintro e w3 ⟨rfl, rfl⟩
  go_wp2_with fail
  refine (HUse m (t + d) (by omega) (by omega) _ HA4.out.at HPt.out).out.mono ?_
  rintro e w4 ⟨g4, B, N, hus, rfl, hB1, hB2, hB4, hT4⟩
  have HBo : Hid (Both t (t + d) n m G B (n - x) N) := by
    have h := both_of (T := t + d) (show t ≤ 200000 by omega) HG3.out.good HTd.out HK.out hm1.1
    rw [hus] at h
    exact h
  have HB4 := hide hB4
  have HT4 := hide (HT3.out.trans hT4)
  have HG4 := hide (HG3.out.turn0 hT4)
  have HA5 := hide (HA4.out.turn hT4 (by simp))
  have HP5 := hide (HPt.out.turn0 hT4)
  clear hus hB4 hT4 HT3 HG3 HA4 HPt hB1 hB2
  have HChk := fun w h => hide (check_any (some ⟨g4, 0, none⟩) G.length B w (by rw [HBo.out.len]; omega) h)
  simp only [HBo.out.len, HBo.out.chk] at HChk
  rw [HAl.out]
  go_wp2_with fail
  refine (HChk _ HB4.out.at).out.mono ?_
  rintro e w5 ⟨rfl, hT5⟩
  have HT5 := hide (HT4.out.trans hT5)
  have HG5 := hide (HG4.out.turn0 hT5)
  have HA6 := hide (HA5.out.turn hT5 (by simp))
  have HP6 := hide (HP5.out.turn0 hT5)
  have HB5 := hide (HB4.out.turn hT5 (by simp))
  clear hT5 HT4 HG4 HA5 HP5 HB4 HChk
  go_wp2_with fail
  refine (HWn _).out.mono ?_
  rintro e w5 ⟨rfl, rfl⟩
  go_wp2_with fail
  go_loopw [17, 18, 19] (fun u v i wr => ∃ (k : Nat) (us ex : Int), k ≤ G.length ∧ u = .int .i64 us ∧ v = .int .i64 ex ∧ i = .int .i64 k ∧ 0 ≤ us ∧ us ≤ 3000 * k ∧ 0 ≤ ex ∧ ex ≤ 3000 * k ∧ Hid (us = coS (B.take k) - coS (G.take k)) ∧ Hid (ex = exS (B.take k) - exS (G.take k)) ∧ Hid (OwnL wr g4 B) ∧ Hid (GoodAt t l w1.heap.size ga gc G wr) ∧ Hid (OwnL wr g1 A) ∧ Hid (PartsAt wr pa P) ∧ Turn [] w wr) (fun _ _ i _ => G.length - (intOf i).toNat)
  case atStart => exact ⟨0, 0, 0, Nat.zero_le _, rfl, rfl, rfl, by omega, by omega, by omega, by omega, hide rfl, hide rfl, HB5, HG5, HA6, HP6, HT5.out⟩
  case round =>
    obtain ⟨k, us, ex, hk, rfl, rfl, rfl, hus0, hus1, hex0, hex1, HUs, HEx, HBr, HGr, HAr, HPr, hT⟩ := hrel
    have HT := hide hT
    clear hT HB5 HG5 HA6 HP6 HT5
    by_cases hlt : k < G.length
    · obtain ⟨b, off, rfl, hx⟩ := HGr.out.lots.at hlt
      have hy := HBr.out.lots k (by rw [HBo.out.len]; exact hlt)
      have hE := HBo.out.each k hlt
      have HS1 := hide (coS_take hlt)
      have HS2 := hide (coS_take (l := B) (k := k) (by rw [HBo.out.len]; exact hlt))
      have HS3 := hide (exS_take hlt)
      have HS4 := hide (exS_take (l := B) (k := k) (by rw [HBo.out.len]; exact hlt))
      have hGd := HGr.out.good.at hlt
      generalize G.getD k Lt.nil = z at *
      generalize B.getD k Lt.nil = y at *
      have hb := hx.lt
      have hg4 := hy.lt
      simp only [Nat.zero_add] at hy
      obtain ⟨c0, c1, c2, c3, c4, c5, c6, c7, c8⟩ := hx
      obtain ⟨f0, f1, f2, f3, f4, f5, f6, f7, f8⟩ := hy
      obtain ⟨e1, e2, e3, e4, e5, e6, e7, e8, e9, e10, e11, e12⟩ := hE
      rw [e1] at f4
      rw [e2] at f6
      rw [e3] at f8
      have hzc := hGd.co
      have hzx := hGd.ex
      have HN1 : Hid (us + y.co - z.co = coS (B.take (k + 1)) - coS (G.take (k + 1))) := by rw [Hid, HUs.out, HS1.out, HS2.out]; omega
      have HN2 : Hid (ex + y.ex - z.ex = exS (B.take (k + 1)) - exS (G.take (k + 1))) := by rw [Hid, HEx.out, HS3.out, HS4.out]; omega
      clear HUs HEx HS1 HS2 HS3 HS4 e1 e2 e3 hGd
      have hw1 : IntKind.i64.wrap (us + y.co) = us + y.co := by rw [IntKind.wrap_i64]; omega
      have hw2 : IntKind.i64.wrap (us + y.co - z.co) = us + y.co - z.co := by rw [IntKind.wrap_i64]; omega
      have hw3 : IntKind.i64.wrap (ex + y.ex) = ex + y.ex := by rw [IntKind.wrap_i64]; omega
      have hw4 : IntKind.i64.wrap (ex + y.ex - z.ex) = ex + y.ex - z.ex := by rw [IntKind.wrap_i64]; omega
      have hw5 : IntKind.i64.wrap (t + d) = t + d := by rw [IntKind.wrap_i64]; omega
      go_wp2_with fail
      have HBwr := HBr
      have HGwr := HGr
      have HAwr := HAr
      have HPwr := HPr
      have HTwr := HT
      have hbwr := hb
      have hgwr := hg4
      have c3wr := c3
      have c5wr := c5
      have c7wr := c7
      have f5wr := f5
      have f7wr := f7
      go_quiet (fail)
      generalize hWW1 : wr.drewN _ = W1 at *
      have HBW1 : Hid (OwnL W1 g4 B) := by rw [← hWW1]; exact HBwr.out.turn ((Turn.refl [] _).drewN _) (by simp)
      have HGW1 : Hid (GoodAt t l w1.heap.size (some ⟨b, off, none⟩) gc G W1) := by rw [← hWW1]; exact HGwr.out.turn0 ((Turn.refl [] _).drewN _)
      have HAW1 : Hid (OwnL W1 g1 A) := by rw [← hWW1]; exact HAwr.out.turn ((Turn.refl [] _).drewN _) (by simp)
      have HPW1 : Hid (PartsAt W1 pa P) := by rw [← hWW1]; exact HPwr.out.turn0 ((Turn.refl [] _).drewN _)
      have HTW1 : Hid (Turn [] w W1) := by rw [← hWW1]; exact HTwr.out.drewN _
      have hbW1 : b < W1.heap.size := by rw [← hWW1]; exact hbwr
      have hgW1 : g4 < W1.heap.size := by rw [← hWW1]; exact hgwr
      have c3W1 : W1.cell? ⟨b, off + k * 9 + 3, none⟩ = some (.int .i64 z.un) := by rw [← hWW1]; exact c3wr
      have c5W1 : W1.cell? ⟨b, off + k * 9 + 5, none⟩ = some (.int .i64 z.co) := by rw [← hWW1]; exact c5wr
      have c7W1 : W1.cell? ⟨b, off + k * 9 + 7, none⟩ = some (.int .i64 z.ex) := by rw [← hWW1]; exact c7wr
      have f5W1 : W1.cell? ⟨g4, k * 9 + 5, none⟩ = some (.int .i64 y.co) := by rw [← hWW1]; exact f5wr
      have f7W1 : W1.cell? ⟨g4, k * 9 + 7, none⟩ = some (.int .i64 y.ex) := by rw [← hWW1]; exact f7wr
      clear hWW1 c3wr c5wr c7wr f5wr f7wr c0 c1 c2 c3 c4 c5 c6 c7 c8 f0 f1 f2 f3 f4 f5 f6 f7 f8 hb hg4 HBwr HGwr HAwr HPwr HTwr hbwr hgwr
      clear HBr HGr HAr HPr HT
      go_wp2_with fail
      go_quiet (fail)
      generalize hWW2 : W1.drewN _ = W2 at *
      have HBW2 : Hid (OwnL W2 g4 B) := by rw [← hWW2]; exact HBW1.out.turn ((Turn.refl [] _).drewN _) (by simp)
      have HGW2 : Hid (GoodAt t l w1.heap.size (some ⟨b, off, none⟩) gc G W2) := by rw [← hWW2]; exact HGW1.out.turn0 ((Turn.refl [] _).drewN _)
      have HAW2 : Hid (OwnL W2 g1 A) := by rw [← hWW2]; exact HAW1.out.turn ((Turn.refl [] _).drewN _) (by simp)
      have HPW2 : Hid (PartsAt W2 pa P) := by rw [← hWW2]; exact HPW1.out.turn0 ((Turn.refl [] _).drewN _)
      have HTW2 : Hid (Turn [] w W2) := by rw [← hWW2]; exact HTW1.out.drewN _
      have hbW2 : b < W2.heap.size := by rw [← hWW2]; exact hbW1
      have hgW2 : g4 < W2.heap.size := by rw [← hWW2]; exact hgW1
      have c3W2 : W2.cell? ⟨b, off + k * 9 + 3, none⟩ = some (.int .i64 z.un) := by rw [← hWW2]; exact c3W1
      have c5W2 : W2.cell? ⟨b, off + k * 9 + 5, none⟩ = some (.int .i64 z.co) := by rw [← hWW2]; exact c5W1
      have c7W2 : W2.cell? ⟨b, off + k * 9 + 7, none⟩ = some (.int .i64 z.ex) := by rw [← hWW2]; exact c7W1
      have f5W2 : W2.cell? ⟨g4, k * 9 + 5, none⟩ = some (.int .i64 y.co) := by rw [← hWW2]; exact f5W1
      have f7W2 : W2.cell? ⟨g4, k * 9 + 7, none⟩ = some (.int .i64 y.ex) := by rw [← hWW2]; exact f7W1
      clear hWW2 c3W1 c5W1 c7W1 f5W1 f7W1 HBW1 HGW1 HAW1 HPW1 HTW1 hbW1 hgW1
      go_wp2_with fail
      go_quiet (fail)
      generalize hWW3 : W2.drewN _ = W3 at *
      have HBW3 : Hid (OwnL W3 g4 B) := by rw [← hWW3]; exact HBW2.out.turn ((Turn.refl [] _).drewN _) (by simp)
      have HGW3 : Hid (GoodAt t l w1.heap.size (some ⟨b, off, none⟩) gc G W3) := by rw [← hWW3]; exact HGW2.out.turn0 ((Turn.refl [] _).drewN _)
      have HAW3 : Hid (OwnL W3 g1 A) := by rw [← hWW3]; exact HAW2.out.turn ((Turn.refl [] _).drewN _) (by simp)
      have HPW3 : Hid (PartsAt W3 pa P) := by rw [← hWW3]; exact HPW2.out.turn0 ((Turn.refl [] _).drewN _)
      have HTW3 : Hid (Turn [] w W3) := by rw [← hWW3]; exact HTW2.out.drewN _
      have hbW3 : b < W3.heap.size := by rw [← hWW3]; exact hbW2
      have hgW3 : g4 < W3.heap.size := by rw [← hWW3]; exact hgW2
      have c3W3 : W3.cell? ⟨b, off + k * 9 + 3, none⟩ = some (.int .i64 z.un) := by rw [← hWW3]; exact c3W2
      have c5W3 : W3.cell? ⟨b, off + k * 9 + 5, none⟩ = some (.int .i64 z.co) := by rw [← hWW3]; exact c5W2
      have c7W3 : W3.cell? ⟨b, off + k * 9 + 7, none⟩ = some (.int .i64 z.ex) := by rw [← hWW3]; exact c7W2
      have f5W3 : W3.cell? ⟨g4, k * 9 + 5, none⟩ = some (.int .i64 y.co) := by rw [← hWW3]; exact f5W2
      have f7W3 : W3.cell? ⟨g4, k * 9 + 7, none⟩ = some (.int .i64 y.ex) := by rw [← hWW3]; exact f7W2
      clear hWW3 c3W2 c5W2 c7W2 f5W2 f7W2 HBW2 HGW2 HAW2 HPW2 HTW2 hbW2 hgW2
      by_cases hxe : y.ex = z.ex
      · have hxe2 : (y.ex != z.ex) = false := by simpa using hxe
        have Hxe := hide hxe
        clear hxe
        go_wp2_with fail
        go_quiet (fail)
        generalize hWW4 : W3.drewN _ = W4 at *
        have HBW4 : Hid (OwnL W4 g4 B) := by rw [← hWW4]; exact HBW3.out.turn ((Turn.refl [] _).drewN _) (by simp)
        have HGW4 : Hid (GoodAt t l w1.heap.size (some ⟨b, off, none⟩) gc G W4) := by rw [← hWW4]; exact HGW3.out.turn0 ((Turn.refl [] _).drewN _)
        have HAW4 : Hid (OwnL W4 g1 A) := by rw [← hWW4]; exact HAW3.out.turn ((Turn.refl [] _).drewN _) (by simp)
        have HPW4 : Hid (PartsAt W4 pa P) := by rw [← hWW4]; exact HPW3.out.turn0 ((Turn.refl [] _).drewN _)
        have HTW4 : Hid (Turn [] w W4) := by rw [← hWW4]; exact HTW3.out.drewN _
        have hbW4 : b < W4.heap.size := by rw [← hWW4]; exact hbW3
        have hgW4 : g4 < W4.heap.size := by rw [← hWW4]; exact hgW3
        have c3W4 : W4.cell? ⟨b, off + k * 9 + 3, none⟩ = some (.int .i64 z.un) := by rw [← hWW4]; exact c3W3
        have c5W4 : W4.cell? ⟨b, off + k * 9 + 5, none⟩ = some (.int .i64 z.co) := by rw [← hWW4]; exact c5W3
        have c7W4 : W4.cell? ⟨b, off + k * 9 + 7, none⟩ = some (.int .i64 z.ex) := by rw [← hWW4]; exact c7W3
        have f5W4 : W4.cell? ⟨g4, k * 9 + 5, none⟩ = some (.int .i64 y.co) := by rw [← hWW4]; exact f5W3
        have f7W4 : W4.cell? ⟨g4, k * 9 + 7, none⟩ = some (.int .i64 y.ex) := by rw [← hWW4]; exact f7W3
        clear hWW4 c3W3 c5W3 c7W3 f5W3 f7W3 HBW3 HGW3 HAW3 HPW3 HTW3 hbW3 hgW3
        go_wp2_with fail
        go_roundw
        case rel => exact ⟨k + 1, us + y.co - z.co, ex + y.ex - z.ex, by omega, rfl, rfl, by go_num, by omega, by omega, by omega, by omega, HN1, HN2, HBW4, HGW4, HAW4, HPW4, HTW4.out⟩
        case measure => simp [intOf]; omega
      · have hxe2 : (y.ex != z.ex) = true := by simpa using hxe
        have hun : decide (t + d < z.un) = false := by have := e4 hxe; simp; omega
        clear hxe e4
        go_wp2_with fail
        go_quiet (fail)
        generalize hWW4 : W3.drewN _ = W4 at *
        have HBW4 : Hid (OwnL W4 g4 B) := by rw [← hWW4]; exact HBW3.out.turn ((Turn.refl [] _).drewN _) (by simp)
        have HGW4 : Hid (GoodAt t l w1.heap.size (some ⟨b, off, none⟩) gc G W4) := by rw [← hWW4]; exact HGW3.out.turn0 ((Turn.refl [] _).drewN _)
        have HAW4 : Hid (OwnL W4 g1 A) := by rw [← hWW4]; exact HAW3.out.turn ((Turn.refl [] _).drewN _) (by simp)
        have HPW4 : Hid (PartsAt W4 pa P) := by rw [← hWW4]; exact HPW3.out.turn0 ((Turn.refl [] _).drewN _)
        have HTW4 : Hid (Turn [] w W4) := by rw [← hWW4]; exact HTW3.out.drewN _
        have hbW4 : b < W4.heap.size := by rw [← hWW4]; exact hbW3
        have hgW4 : g4 < W4.heap.size := by rw [← hWW4]; exact hgW3
        have c3W4 : W4.cell? ⟨b, off + k * 9 + 3, none⟩ = some (.int .i64 z.un) := by rw [← hWW4]; exact c3W3
        have c5W4 : W4.cell? ⟨b, off + k * 9 + 5, none⟩ = some (.int .i64 z.co) := by rw [← hWW4]; exact c5W3
        have c7W4 : W4.cell? ⟨b, off + k * 9 + 7, none⟩ = some (.int .i64 z.ex) := by rw [← hWW4]; exact c7W3
        have f5W4 : W4.cell? ⟨g4, k * 9 + 5, none⟩ = some (.int .i64 y.co) := by rw [← hWW4]; exact f5W3
        have f7W4 : W4.cell? ⟨g4, k * 9 + 7, none⟩ = some (.int .i64 y.ex) := by rw [← hWW4]; exact f7W3
        clear hWW4 c3W3 c5W3 c7W3 f5W3 f7W3 HBW3 HGW3 HAW3 HPW3 HTW3 hbW3 hgW3
        go_wp2_with fail
        go_roundw
        case rel => exact ⟨k + 1, us + y.co - z.co, ex + y.ex - z.ex, by omega, rfl, rfl, by go_num, by omega, by omega, by omega, by omega, HN1, HN2, HBW4, HGW4, HAW4, HPW4, HTW4.out⟩
        case measure => simp [intOf]; omega
    · have hkk : k = G.length := by omega
      have HU2 : Hid (us = min (n - x) m) := by
        rw [Hid, HUs.out, ← HBo.out.used, hkk, List.take_length]
        rw [← HBo.out.len, List.take_length]
      have HE2 : Hid (ex ≤ n - x - us) := by
        have := HBo.out.gone
        rw [Hid, HU2.out, HEx.out, hkk, List.take_length]
        rw [← HBo.out.len, List.take_length]
        omega
      have hov : N = m - us := by rw [HU2.out]; exact HBo.out.over
      have hus2 := HU2.out
      have hex2 := HE2.out
      clear HUs HEx HU2 HE2 hkk
      have hbk := back_of HGr.out.good HTd.out HK.out
      subst hov
      by_cases hmin : m < n - x
      · obtain rfl : m = us := by omega
        have hex3 : ex ≤ n - x - m := by omega
        clear hus2 hex2
        go_wp2_with (first | (go_at_call 14; refine (HWm _).out.mono ?_; rintro e wr ⟨rfl, rfl⟩) | fail)
        refine (HUse 0 t (by omega) (by omega) _ HAr.out.at HPr.out).out.mono ?_
        rintro e w6 ⟨g6, C, N6, hus6, rfl, hC1, hC2, hC4, hT6⟩
        rw [hus6] at hbk
        simp only at hbk
        subst hbk
        have HC4 := hide hC4
        have HT6 := hide (HT.out.trans hT6)
        have HG6 := hide (HGr.out.turn0 hT6)
        clear hus6 hC4 hT6 hC1 hC2
        rw [HAl.out]
        go_wp2_with fail
        refine (sameLots_any (some ⟨g6, 0, none⟩) ga C.length gc C w6 (by omega) HC4.out.at HG6.out.lots).mono ?_
        rintro e w7 ⟨rfl, hT7⟩
        have HT7 := hide (HT6.out.trans hT7)
        clear hT7
        go_wp2_with fail
        go_ret
        exact ⟨rfl, HT7.out⟩
      · have hus3 : us = (n - x) := by omega
        subst hus3
        have hex3 : ex ≤ n - x - (n - x) := by omega
        clear hus2 hex2
        go_wp2_with (first | (go_at_call 14; refine (HWm _).out.mono ?_; rintro e wr ⟨rfl, rfl⟩) | fail)
        refine (HUse 0 t (by omega) (by omega) _ HAr.out.at HPr.out).out.mono ?_
        rintro e w6 ⟨g6, C, N6, hus6, rfl, hC1, hC2, hC4, hT6⟩
        rw [hus6] at hbk
        simp only at hbk
        subst hbk
        have HC4 := hide hC4
        have HT6 := hide (HT.out.trans hT6)
        have HG6 := hide (HGr.out.turn0 hT6)
        clear hus6 hC4 hT6 hC1 hC2
        rw [HAl.out]
        go_wp2_with fail
        refine (sameLots_any (some ⟨g6, 0, none⟩) ga C.length gc C w6 (by omega) HC4.out.at HG6.out.lots).mono ?_
        rintro e w7 ⟨rfl, hT7⟩
        have HT7 := hide (HT6.out.trans hT7)
        clear hT7
        go_wp2_with fail
        go_ret
        exact ⟨rfl, HT7.out⟩

end Go.Proofs.Ytegbinlpojpffaa
