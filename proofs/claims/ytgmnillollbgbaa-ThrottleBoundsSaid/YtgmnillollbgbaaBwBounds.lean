/-
  ThrottleBounds, walked.
-/
import Derived.Test.YtgmnillollbgbaaBInts
import Derived.Deep.CutRange
namespace Go.Proofs.Ytgmnillollbgbaa.Th
open Go.RowKit Go.Maps

set_option maxRecDepth 100000 in
set_option maxHeartbeats 8000000 in
theorem bounds_any (bu ra : Int) (a : Option Addr) (c : Nat) (l : List Int) (a2 : Option Addr) (c2 : Nat) (l2 : List Int) (w : World) (_hlen : l.length ≤ 9223372036854775807) (hL : NumsAt w a l) (_hlen2 : l2.length ≤ 9223372036854775807) (hL2 : NumsAt w a2 l2) : Calls Try.prog 4 #[.int .i64 bu, .int .i64 ra, .slice a l.length c, .slice a2 l2.length c2] w fun e w' => e = .returned (.bool true) ∧ Turn [] w w' := by
  have HL := hide hL
  have HL2 := hide hL2
  clear hL hL2
  go_enter Try.func4, Try.ntmps4
  go_wp2_with fail
  refine (known_any w).mono ?_
  rintro e w1 ⟨rfl, hT1⟩
  have HT1 := hide hT1
  clear hT1
  go_wp2_with fail
  refine (within_any bu 20 _ (by omega) (by omega)).mono ?_
  rintro e w2 ⟨rfl, rfl⟩
  have h1 := mod_bd bu 20 (by omega)
  generalize bu % 20 = u0 at *
  go_wp2_with fail
  refine (within_any ra 5 _ (by omega) (by omega)).mono ?_
  rintro e w3 ⟨rfl, rfl⟩
  have h2 := mod_bd ra 5 (by omega)
  generalize ra % 5 = r at *
  go_wp2_with fail
  refine (new_any (1 + u0) r 0 w3).mono ?_
  rintro e w5 ⟨g, rfl, hg, hA5, hT5⟩
  have HA5 := hide hA5
  have HT5 := hide (HT1.out.trans hT5)
  have HG : Hid (w.heap.size ≤ g) := Nat.le_trans HT1.out.size hg
  have HGB : Hid (g < w5.heap.size) := hA5.lt
  have HWB : Hid (w.heap.size ≤ w5.heap.size) := HT5.out.size
  clear hA5 hT5 hg HT1
  have HI0 : Hid (Inv (1 + u0) r [] [] 0 0) := Inv.nil (by omega)
  have HM0 : Hid (Mid ⟨1 + u0, r, 0, 0⟩ (1 + u0) r 0 0) := Mid.at (ok_of (by omega) (by omega) (by omega) (by omega) (by omega) (by omega) (by omega) (by omega)) (by omega)
  obtain ⟨u, hu⟩ : ∃ u, u = 1 + u0 := ⟨_, rfl⟩
  have hu1 : 1 ≤ u ∧ u ≤ 20 := by omega
  rw [← hu] at HI0 HM0 HA5
  go_wp2_with fail
  rw [← hu]
  clear hu h1
  obtain ⟨B, hB⟩ : ∃ B, B = w5.heap.size := ⟨_, rfl⟩
  rw [← hB] at HGB HWB
  have HB5 : Hid (B ≤ w5.heap.size) := Nat.le_of_eq hB
  clear hB
  go_loopw [10, 11, 12, 13] (fun t va vn i wr => ∃ (k : Nat) (ts ns : List Int) (tt h : Int) (b : Bk), k ≤ l.length ∧ k ≤ l2.length ∧ k ≤ 30 ∧ t = .int .i64 tt ∧ i = .int .i64 (k : Int) ∧ 0 ≤ tt ∧ tt ≤ 8 * k ∧ Hid (ns.length = k) ∧ Hid (Inv u r ts ns tt h) ∧ Hid (Mid b u r tt h) ∧ Hid (BkAt wr g b) ∧ Hid (OwnI wr B va ts) ∧ Hid (OwnI wr B vn ns) ∧ Hid (∀ q ∈ obs va, q ∉ obs vn) ∧ Hid (B ≤ wr.heap.size) ∧ Turn [] w wr) (fun _ _ _ i _ => 31 - (intOf i).toNat)
  case atStart => exact ⟨0, [], [], 0, 0, _, Nat.zero_le _, Nat.zero_le _, by omega, rfl, rfl, by omega, by omega, rfl, HI0, HM0, HA5, OwnI.nil _ _, OwnI.nil _ _, (fun q hq => by simp [obs, Value.ownBlock] at hq), HB5, HT5.out⟩
  case round =>
    obtain ⟨k, ts, ns, tt, h, b, hk, hk2, hk3, rfl, rfl, ht0, ht1, HK, HI, HM, HA, HOa, HOn, HNe, HB, hT⟩ := hrel
    have HT := hide hT
    clear hT HA5 HT5 HI0 HM0 HB5
    obtain ⟨pa, ca, hva⟩ := HOa.out.slice
    obtain ⟨pn, cn, hvn⟩ := HOn.out.slice
    by_cases hlt : k < l.length ∧ k < l2.length ∧ k < 30
    · obtain ⟨hk4, hk5, hk6⟩ := hlt
      obtain ⟨b1, o1, rfl, hc1⟩ := (HL.out.turn0 HT.out).at hk4
      have hbw1 := lt_of_cell hc1
      have HX : Hid (∃ x, x = l.getD k 0) := ⟨_, rfl⟩
      obtain ⟨x, hx⟩ := HX.out
      rw [← hx] at hc1
      clear hx HX
      go_wp2_with fail
      refine (within_any x 8 _ (by omega) (by omega)).mono ?_
      rintro e w6 ⟨rfl, rfl⟩
      have h6 := mod_bd x 8 (by omega)
      generalize x % 8 = x6 at *
      obtain ⟨H, hM1, hH⟩ := HM.out.later (d := 1 + x6) (by omega)
      have HM1 := hide hM1
      have HH := hide hH
      have HHu : Hid (H ≤ u) := hM1.le
      have hH0 := hM1.ge
      clear hM1 hH hc1 hbw1
      have HT6 := hide (show tt + 1 + x6 = tt + (1 + x6) by omega)
      have hT1 : 0 ≤ tt + (1 + x6) := by omega
      have hT2 : tt + (1 + x6) ≤ 8 * (k + 1) := by omega
      go_wp2_with fail
      rw [HT6.out]
      clear HT6
      obtain ⟨T, hTd⟩ : ∃ T, T = tt + (1 + x6) := ⟨_, rfl⟩
      rw [← hTd] at hT1 hT2 HM1 ⊢
      have HTd := hide hTd
      clear hTd
      subst hva hvn
      go_loopw [14, 15] (fun p i wi => ∃ (j : Nat) (pp : Int) (b2 : Bk), j ≤ 30 ∧ p = .int .i64 pp ∧ i = .int .i64 (j : Int) ∧ 0 ≤ pp ∧ pp ≤ j ∧ pp ≤ H ∧ Hid (Mid b2 u r T (H - pp)) ∧ Hid (BkAt wi g b2) ∧ Turn [g] w6 wi) (fun _ i _ => 31 - (intOf i).toNat)
      case atStart => exact ⟨0, 0, b, by omega, rfl, rfl, by omega, by omega, hH0, by rw [Int.sub_zero]; exact HM1, HA, Turn.refl _ _⟩
      case round =>
        obtain ⟨j, pp, b2, hj, rfl, rfl, hp0, hp1, hp2, HM2, HA2, hTi⟩ := hrel
        have HTi := hide hTi
        have HTw := hide (Turn_new HT.out HG.out hTi)
        obtain ⟨b3, o3, rfl, hc3⟩ := (HL2.out.turn0 HTw.out).at hk5
        have hbw3 := lt_of_cell hc3
        have hgw := HA2.out.lt
        have HX : Hid (∃ x, x = l2.getD k 0) := ⟨_, rfl⟩
        obtain ⟨y, hy⟩ := HX.out
        rw [← hy] at hc3
        clear hy HX hTi
        go_wp2_with fail
        refine (within_any y 30 _ (by omega) (by omega)).mono ?_
        rintro e w7 ⟨rfl, rfl⟩
        have h7 := mod_bd y 30 (by omega)
        generalize y % 30 = y7 at *
        by_cases hjy : (j : Int) < y7
        · have HPs := hide (HM2.out.pass (by omega) (by omega))
          have HC := hide (pass_any T HM2.out.ok (by omega) (by omega) HA2.out)
          rw [HM2.out.to] at HC
          simp only at HC
          generalize b2.pass T = b4 at *
          go_wp2_with fail
          refine HC.out.mono ?_
          rintro e w8 ⟨rfl, hA8, hT8⟩
          have HA8 := hide hA8
          have HT8 := hide (HTi.out.trans hT8)
          clear hA8 hT8 HC hc3 hbw3
          by_cases hh : 1 ≤ H - pp
          · rw [if_pos hh] at HPs
            rw [decide_eq_true hh]
            have HPs2 : Hid (Mid b4 u r T (H - (pp + 1))) := by
              rw [show H - (pp + 1) = H - pp - 1 by omega]
              exact HPs
            go_wp2_with fail
            go_roundw
            case rel => exact ⟨j + 1, pp + 1, b4, by omega, by go_num, by go_num, by omega, by omega, by omega, HPs2, HA8, HT8.out⟩
            case measure => simp [intOf]; omega
          · rw [if_neg hh] at HPs
            rw [decide_eq_false hh]
            go_wp2_with fail
            go_roundw
            case rel => exact ⟨j + 1, pp, b4, by omega, rfl, by go_num, by omega, by omega, by omega, HPs, HA8, HT8.out⟩
            case measure => simp [intOf]; omega
        · have HOa2 := hide (HOa.out.turn HTi.out (fun q hq => by have := (HOa.out.ge q hq).1; have := HGB.out; simp; omega))
          have HOn2 := hide (HOn.out.turn HTi.out (fun q hq => by have := (HOn.out.ge q hq).1; have := HGB.out; simp; omega))
          have HB2 : Hid (B ≤ w7.heap.size) := Nat.le_trans HB.out HTi.out.size
          have HIv := hide (HI.out.step (d := 1 + x6) (p := pp) ht0 (by omega) hp0 (by omega) HH.out HHu.out)
          rw [← HTd.out] at HIv
          have HK1 : Hid ((ts ++ [T]).length = k + 1) := by unfold Hid; rw [List.length_append, HI.out.len, HK.out]; rfl
          have HK2 : Hid ((ns ++ [pp]).length = k + 1) := by unfold Hid; rw [List.length_append, HK.out]; rfl
          have HLt : Hid (ts.length < 1000000) := by unfold Hid; rw [HI.out.len, HK.out]; omega
          have HLn : Hid (ns.length < 1000000) := by unfold Hid; rw [HK.out]; omega
          clear hc3 hbw3
          go_upto_region 18 with (first | (at_builtin; refine append_int rfl _ _ rfl B (.slice pa ts.length ca) ts T rfl HOa2.out w7.heap.size rfl rfl HLt.out HB2.out ?_; intro v8 w8 hO8 hT8 hq8; have HO8 := hide hO8; have HT8 := hide hT8; have HQ8 := hide hq8; clear hO8 hT8 hq8) | fail)
          have HA8 := hide (HA2.out.turn HT8.out (fun hq => by have := (HOa2.out.ge g hq).1; have := HGB.out; omega))
          have HOn8 := hide (HOn2.out.turn HT8.out (fun q hq hq2 => HNe.out q hq2 hq))
          have HTw8 := hide (HTw.out.then HT8.out (fun q hq => .inr (by have := (HOa2.out.ge q hq).1; have := HWB.out; omega)))
          have HB8 : Hid (B ≤ w8.heap.size) := Nat.le_trans HB2.out HT8.out.size
          have HNe8 : Hid (∀ q ∈ obs v8, q ∉ obs (.slice pn ns.length cn)) := fun q hq hq2 => by
            rcases HQ8.out q hq with h | h
            · exact HNe.out q h hq2
            · have := (HOn2.out.ge q hq2).2; omega
          clear HA2 HOa2 HOn2 HTw HT8 HQ8
          go_upto_region 19 with (first | (at_builtin; refine append_int rfl _ _ rfl B (.slice pn ns.length cn) ns pp rfl HOn8.out w8.heap.size rfl rfl HLn.out HB8.out ?_; intro v9 w9 hO9 hT9 hq9; have HO9 := hide hO9; have HT9 := hide hT9; have HQ9 := hide hq9; clear hO9 hT9 hq9) | fail)
          have HA9 := hide (HA8.out.turn HT9.out (fun hq => by have := (HOn8.out.ge g hq).1; have := HGB.out; omega))
          have HOa9 := hide (HO8.out.turn HT9.out (fun q hq hq2 => HNe8.out q hq hq2))
          have HTw9 := hide (HTw8.out.then HT9.out (fun q hq => .inr (by have := (HOn8.out.ge q hq).1; have := HWB.out; omega)))
          have HB9 : Hid (B ≤ w9.heap.size) := Nat.le_trans HB8.out HT9.out.size
          have HNe9 : Hid (∀ q ∈ obs v8, q ∉ obs v9) := fun q hq hq2 => by
            rcases HQ9.out q hq2 with h | h
            · exact HNe8.out q hq h
            · have := (HO8.out.ge q hq).2; omega
          clear HA8 HOn8 HTw8 HT9 HQ9 HO8 HNe8 HB8
          obtain ⟨p8, c8, hv8⟩ := HOa9.out.slice
          obtain ⟨p9, c9, hv9⟩ := HO9.out.slice
          rw [HK1.out] at hv8
          rw [HK2.out] at hv9
          subst hv8 hv9
          generalize ts ++ [T] = ts' at *
          generalize ns ++ [pp] = ns' at *
          have hHp : 0 ≤ H - pp := by omega
          have hr0 := h2.1
          have hr1 := h2.2
          clear HI HM HA HOa HOn HNe HB HT HK HM1 HH HHu HTd HLt HLn HTi
          go_wp2_with fail
          go_loopw [16] (fun fv wi => ∃ (f : Nat), f ≤ k + 1 ∧ fv = .int .i64 (f : Int) ∧ wi = w9) (fun fv _ => k + 2 - (intOf fv).toNat)
          case atStart => exact ⟨0, by omega, rfl, rfl⟩
          case round =>
            obtain ⟨f, hf, rfl, rfl⟩ := hrel
            by_cases hfk : f ≤ k
            · go_wp2_with fail
              go_loopw [17, 18] (fun sv qv wi2 => ∃ (q : Nat), f ≤ q ∧ q ≤ k + 1 ∧ sv = .int .i64 (part ns' f q) ∧ qv = .int .i64 (q : Int) ∧ 0 ≤ part ns' f q ∧ part ns' f q ≤ 30 * q ∧ wi2 = wr) (fun _ qv _ => k + 2 - (intOf qv).toNat)
              case atStart => exact ⟨f, by omega, by omega, by rw [part_start], rfl, by rw [part_start]; omega, by rw [part_start]; omega, rfl⟩
              case round =>
                obtain ⟨q, hfq, hqk, rfl, rfl, hs0, hs1, rfl⟩ := hrel
                by_cases hq : q ≤ k
                · have hql : q < ns'.length := by rw [HK2.out]; omega
                  obtain ⟨g9, c9', e9, hc9⟩ := HO9.out.get hql
                  injection e9 with e91 e92 e93
                  subst e91 e93
                  have hst := part_step (ns := ns') hfq hql
                  have hlo := HIv.out.low q hql
                  have HSt := hide hst
                  have hg9 := lt_of_cell hc9
                  generalize ns'.getD q 0 = z at *
                  generalize part ns' f q = sm at *
                  clear hst e92 hql
                  go_wp2_with fail
                  go_roundw
                  case rel => exact ⟨q + 1, by omega, by omega, by rw [HSt.out], by go_num, by rw [HSt.out]; omega, by rw [HSt.out]; omega, trivial⟩
                  case measure => simp [intOf]; omega
                · have hqe : q = k + 1 := by omega
                  have HPe := hide (part_end (ns := ns') (f := f) (k := q) (by rw [HK2.out]; omega))
                  have hall := HIv.out.all f (by rw [HK2.out]; omega)
                  rw [← HPe.out] at hall
                  clear hqe HPe
                  generalize part ns' f q = sm at *
                  by_cases hf0 : f = 0
                  · subst hf0
                    have hm := mul_bd2 (x := r) (r := T - 0) (X := 5) (R := 400) hr0 (by omega) (by omega) (by omega)
                    rw [show since ts' 0 = 0 from rfl] at hall
                    have hw : wrap64 (r * (T - 0)) = r * (T - 0) := by unfold wrap64; omega
                    rw [Int.sub_zero] at hm hw hall
                    generalize hmr : r * T = mr at hm hw hall
                    have hw2 : wrap64 (r * T) = mr := by rw [hmr]; exact hw
                    clear hw hmr
                    go_wp2_with fail
                    go_roundw
                    case rel => exact ⟨1, by omega, rfl, trivial⟩
                    case measure => simp [intOf]
                  · have hfl : f - 1 < ts'.length := by rw [HK1.out]; omega
                    obtain ⟨g8, c8', e8, hc8⟩ := HOa9.out.get hfl
                    injection e8 with e81 e82 e83
                    subst e81 e83
                    have htk := HIv.out.tick (f - 1) hfl
                    have hg8 := lt_of_cell hc8
                    rw [show since ts' f = ts'.getD (f - 1) 0 by unfold since; rw [if_neg hf0]] at hall
                    generalize ts'.getD (f - 1) 0 = sc at *
                    clear hfl e82
                    have hm := mul_bd2 (x := r) (r := T - sc) (X := 5) (R := 400) hr0 (by omega) (by omega) (by omega)
                    have hw : wrap64 (r * (T - sc)) = r * (T - sc) := by unfold wrap64; omega
                    generalize hmr : r * (T - sc) = mr at hm hw hall
                    have hw2 : wrap64 (r * (T - sc)) = mr := by rw [hmr]; exact hw
                    clear hw hmr
                    go_wp2_with fail
                    go_roundw
                    case rel => exact ⟨f + 1, by omega, by go_num, trivial⟩
                    case measure => simp [intOf]; omega
            · go_wp2_with fail
              go_roundw
              case rel => exact ⟨k + 1, ts', ns', T, H - pp, b2, by omega, by omega, by omega, rfl, by go_num, hT1, by omega, HK2, HIv, HM2, HA9, HOa9, HO9, HNe9, HB9, HTw9.out⟩
              case measure => simp [intOf]; omega
    · have hcs : (¬ k < l.length) ∨ (k < l.length ∧ ¬ k < l2.length) ∨ (k < l.length ∧ k < l2.length ∧ ¬ k < 30) := by
        by_cases h : k < l.length
        · by_cases h' : k < l2.length
          · exact .inr (.inr ⟨h, h', fun h2 => hlt ⟨h, h', h2⟩⟩)
          · exact .inr (.inl ⟨h, h'⟩)
        · exact .inl h
      clear hlt
      rcases hcs with h1 | ⟨h1, h2⟩ | ⟨h1, h2, h3⟩
      all_goals
        go_wp2_with fail
        go_ret
        exact ⟨rfl, HT.out⟩

end Go.Proofs.Ytgmnillollbgbaa.Th
