/-
  GatePlays, walked.
-/
import Derived.Test.YtgljldojmpeegaaGStrs
namespace Go.Proofs.Ytgljldojmpeegaa.Ga
open Go.RowKit Go.Maps

set_option maxRecDepth 100000 in
set_option maxHeartbeats 16000000 in
theorem plays_any (admin : ByteArray) (a : Option Addr) (c : Nat) (l : List Cl) (w : World) (hadm : admin.size ≤ 9223372036854775807) (_hlen : l.length ≤ 9223372036854775807) (hL : ClsAt w a l ∧ SizedC l) : Calls Try.prog 3 #[.string admin, .slice a l.length c] w fun e w' => e = .returned (.bool true) ∧ Turn [] w w' := by
  have hnot : ∀ (x : Bool) (w : World), (Op.unary .not (.bool x)).run Try.prog w = .ok (.bool (!x)) w := fun _ _ => rfl
  have HL := hide hL.1
  have HZ := hide hL.2
  clear hL
  go_enter Try.func3, Try.ntmps3
  go_wp2_with fail
  refine (known_any w).mono ?_
  rintro e w1 ⟨rfl, hT1⟩
  have HT1 := hide hT1
  clear hT1
  by_cases hbig : 300 < admin.size
  · go_wp2_with fail
    go_ret
    exact ⟨rfl, HT1.out⟩
  have d300 : decide ((300 : Int) < (admin.size : Int)) = false := decide_eq_false (by omega)
  go_wp2_with fail
  refine (new_any admin (by omega) w1).mono ?_
  rintro e w2 ⟨g, rfl, hg, hG2, hT2⟩
  have HA2 : Hid (All w w2 g none (Gt.new admin) (.slice none 0 0) [] (.slice none 0 0) []) := ⟨hG2, OwnS.nil _ _, OwnS.nil _ _, ⟨Nat.le_trans HT1.out.size hg, fun m h => by cases h⟩, by simp [obs, Value.ownBlock], by simp [obs, Value.ownBlock], by simp [obs, Value.ownBlock], HT1.out.trans hT2⟩
  clear hG2 hT2 hg HT1
  go_wp2_with fail
  go_loopw [6, 7, 8, 9, 10] (fun vk vn va vr i wr => ∃ (k : Nat) (mo : Option Nat) (s : Gt) (K N : List ByteArray), k ≤ l.length ∧ k ≤ 60 ∧ va = .int .i64 (s.asked : Int) ∧ vr = .int .i64 (s.refused : Int) ∧ i = .int .i64 (k : Int) ∧ s.asked ≤ k ∧ s.refused ≤ k ∧ K.length ≤ k ∧ Hid (Inv admin s K N) ∧ Hid (All w wr g mo s vk K vn N)) (fun _ _ _ _ i _ => 61 - (intOf i).toNat)
  case atStart => exact ⟨0, none, Gt.new admin, [], [], Nat.zero_le _, by omega, rfl, rfl, rfl, Nat.le_refl _, Nat.le_refl _, Nat.le_refl _, Inv.start admin, HA2⟩
  case round =>
    obtain ⟨k, mo, s, K, N, hk, hk2, rfl, rfl, rfl, hs5, hs6, hKl, HI, HA⟩ := hrel
    clear HA2
    by_cases hlt : k < l.length ∧ k < 60
    · obtain ⟨hk1, hk3⟩ := hlt
      obtain ⟨b0, off, rfl, hc⟩ := (HL.out.turn0 HA.out.turn).at hk1
      obtain ⟨y0, y1, y2⟩ := hc
      have hbw := lt_of_cell y0
      obtain ⟨hz1, hz2⟩ := HZ.out k hk1
      generalize l.getD k Cl.nil = x at *
      obtain ⟨ad, key, name⟩ := x
      simp only at y0 y1 y2 hz1 hz2
      have d60 : decide ((k : Int) < 60) = true := decide_eq_true (by omega)
      go_upto_region 12 with fail
      obtain ⟨W12, hW12⟩ : ∃ W12, W12 = wr.alloc (.cells #[.bool ad, .string key, .string name] 28) := ⟨_, rfl⟩
      have hb12 : W12.heap[wr.heap.size]? = some (.cells #[.bool ad, .string key, .string name] 28) := by rw [hW12]; exact Array.getElem?_push_size
      have hT12 : Turn [] wr W12 := by rw [hW12]; exact (Turn.refl [] wr).alloc _
      have HH12 : Hid (Here W12 wr.heap.size ⟨ad, key, name⟩ g mo u6 u7) := by
        have h1 := HA.out.keys.ge
        have h2 := HA.out.names.ge
        have h3 := HA.out.gate.lt
        refine ⟨by unfold World.cell?; rw [hb12]; rfl, by unfold World.cell?; rw [hb12]; rfl, by unfold World.cell?; rw [hb12]; rfl, ⟨by omega, fun e => ?_⟩, fun e => ?_, fun e => ?_⟩
        · subst e; have := HA.out.gate.ltm; omega
        · have := (h1 _ e).2; omega
        · have := (h2 _ e).2; omega
      have HA12 := hide (HA.out.turn0 hT12)
      rw [← hW12]
      clear hW12 hb12 hT12 HA y0 y1 y2 hbw
      generalize wr.heap.size = p at *
      have z1 := HH12.out.c1
      have z2 := HH12.out.c2
      have hpw := lt_of_cell z1
      simp only at z1 z2
      by_cases hsz : 500 < key.size + name.size
      · go_wp2_with fail
        go_roundw
        case rel => exact ⟨k + 1, mo, s, K, N, by omega, by omega, rfl, rfl, by go_num, by omega, by omega, by omega, HI, HA12⟩
        case measure => simp [intOf]; omega
      obtain ⟨ak, ck, rfl⟩ := HA12.out.keys.slice
      have d500 : decide ((500 : Int) < (key.size : Int) + (name.size : Int)) = false := decide_eq_false (by omega)
      go_wp2_with fail
      clear z1 z2 hpw
      go_loopw [12, 13] (fun rv qv wi => ∃ (q : Nat) (r : Int), q ≤ K.length ∧ rv = .int .i64 r ∧ qv = .int .i64 (q : Int) ∧ -1 ≤ r ∧ r ≤ 60 ∧ Hid (Found K key q r) ∧ Hid (All w wi g mo s (.slice ak K.length ck) K u7 N) ∧ Hid (Here wi p ⟨ad, key, name⟩ g mo (.slice ak K.length ck) u7)) (fun _ qv _ => K.length - (intOf qv).toNat)
      case atStart => exact ⟨0, -1, Nat.zero_le _, rfl, rfl, by omega, by omega, Found.zero K key, HA12, HH12⟩
      case round =>
        obtain ⟨q, r, hq, rfl, rfl, hr0, hr1, HF, HA13, HH13⟩ := hrel
        clear HA12 HH12
        by_cases hq2 : q < K.length
        · obtain ⟨gk, cap, ek, hck⟩ := HA13.out.keys.get hq2
          injection ek with ek1 _ ek3
          subst ek1 ek3
          have z1 := HH13.out.c1
          have hpw := lt_of_cell z1
          have hkw := lt_of_cell hck
          simp only at z1
          have HE := hide (eq_str (K.getD q empty) key)
          have HAd := hide (fun n => HA13.out.turn0 ((Turn.refl [] wr).drewN n))
          have HHd := hide (fun n => HH13.out.of ((Turn.refl [] wr).drewN n) (by simp) HH13.out.pg HH13.out.pk HH13.out.pn)
          by_cases hy : K.getD q empty = key
          · have HF' := hide (Found.yes hy)
            have d1 : ((K.getD q empty).toList == key.toList) = true := HE.out.trans (decide_eq_true hy)
            clear HF HA13 HH13 HE hy
            generalize K.getD q empty = y at *
            go_wp2_with fail
            go_quiet (fail)
            rename_i nq
            have HA14 := hide (HAd.out nq)
            have HH14 := hide (HHd.out nq)
            clear HAd HHd hck z1 hpw hkw
            generalize wr.drewN nq = wq at *
            go_wp2_with fail
            go_roundw
            case rel => exact ⟨q + 1, q, by omega, rfl, by go_num, by omega, by omega, HF', HA14, HH14⟩
            case measure => simp [intOf]; omega
          · have HF' := hide (HF.out.no hy)
            have d1 : ((K.getD q empty).toList == key.toList) = false := HE.out.trans (decide_eq_false hy)
            clear HF HA13 HH13 HE hy
            generalize K.getD q empty = y at *
            go_wp2_with fail
            go_quiet (fail)
            rename_i nq
            have HA14 := hide (HAd.out nq)
            have HH14 := hide (HHd.out nq)
            clear HAd HHd hck z1 hpw hkw
            generalize wr.drewN nq = wq at *
            go_wp2_with fail
            go_roundw
            case rel => exact ⟨q + 1, r, by omega, rfl, by go_num, by omega, by omega, HF', HA14, HH14⟩
            case measure => simp [intOf]; omega
        · obtain rfl : q = K.length := by omega
          have z0 := HH13.out.c0
          have z1 := HH13.out.c1
          have z2 := HH13.out.c2
          have hpw := lt_of_cell z1
          simp only at z0 z1 z2
          have HE := hide (eq_str key admin)
          cases ad with
          | false =>
            by_cases hadx : key = admin
            · have dk : (key.toList == admin.toList) = true := HE.out.trans (decide_eq_true hadx)
              have HOW : Hid (s.own key = some (empty, true)) := by unfold Hid; rw [hadx]; exact HI.out.ad
              have HWH : Hid (s.whose key = ((⟨#[]⟩ : ByteArray), true)) := by unfold Hid Gt.whose; rw [HOW.out]; rfl
              have HWE : Hid (s.whoErr key = 0) := by unfold Hid Gt.whoErr; rw [HOW.out]; rfl
              have HAS : Hid ((s.ask key).asked = s.asked + 1) := rfl
              have HRE : Hid ((s.ask key).refused = s.refused) := by unfold Hid Gt.ask; rw [HOW.out]; rfl
              clear HE hadx
              go_wp2_with fail
              refine (who_any (key := key) (by omega) (by omega) (by omega) HA13.out.gate).mono ?_
              rintro e w15 ⟨mo15, rfl, hG15, hW15, hT15⟩
              rw [HWH.out, HWE.out]
              have HA15 := hide (HA13.out.step hG15 hW15 (hT15.mono (by simp)))
              have HH15 := hide (HH13.out.step hW15 (hT15.mono (by simp)))
              have x1 := HH15.out.c1
              have hpw15 := lt_of_cell x1
              simp only at x1
              clear hG15 hW15 hT15 HA13 HH13 z0 z1 z2 hpw
              go_wp2_with fail
              refine (asked_any HA15.out.gate).mono ?_
              rintro e w16 ⟨rfl, rfl⟩
              rw [HAS.out]
              go_wp2_with fail
              refine (refused_any HA15.out.gate).mono ?_
              rintro e w17 ⟨rfl, rfl⟩
              rw [HRE.out]
              go_wp2_with fail
              go_roundw
              case rel => exact ⟨k + 1, mo15, s.ask key, K, N, by omega, by omega, by rw [HAS.out]; go_num, by rw [HRE.out], by go_num, by rw [HAS.out]; omega, by rw [HRE.out]; omega, by omega, HI.out.ask key, HA15⟩
              case measure => simp [intOf]; omega
            · have dk : (key.toList == admin.toList) = false := HE.out.trans (decide_eq_false hadx)
              rcases HF.out with ⟨rfl, hfn⟩ | ⟨j, hj, rfl, hkj⟩
              · have HFN := hide hfn
                have HOW : Hid (s.own key = none) := by exact HI.out.none key hadx HFN.out
                have HWH : Hid (s.whose key = ((⟨#[]⟩ : ByteArray), false)) := by unfold Hid Gt.whose; rw [HOW.out]; rfl
                have HWE : Hid (s.whoErr key = 21) := by unfold Hid Gt.whoErr; rw [HOW.out]; rfl
                have HAS : Hid ((s.ask key).asked = s.asked + 1) := rfl
                have HRE : Hid ((s.ask key).refused = s.refused + 1) := by unfold Hid Gt.ask; rw [HOW.out]; rfl
                clear HE hadx hfn
                go_wp2_with fail
                refine (who_any (key := key) (by omega) (by omega) (by omega) HA13.out.gate).mono ?_
                rintro e w15 ⟨mo15, rfl, hG15, hW15, hT15⟩
                rw [HWH.out, HWE.out]
                have HA15 := hide (HA13.out.step hG15 hW15 (hT15.mono (by simp)))
                have HH15 := hide (HH13.out.step hW15 (hT15.mono (by simp)))
                have x1 := HH15.out.c1
                have hpw15 := lt_of_cell x1
                simp only at x1
                clear hG15 hW15 hT15 HA13 HH13 z0 z1 z2 hpw
                go_wp2_with fail
                refine (asked_any HA15.out.gate).mono ?_
                rintro e w16 ⟨rfl, rfl⟩
                rw [HAS.out]
                go_wp2_with fail
                refine (refused_any HA15.out.gate).mono ?_
                rintro e w17 ⟨rfl, rfl⟩
                rw [HRE.out]
                go_wp2_with fail
                go_roundw
                case rel => exact ⟨k + 1, mo15, s.ask key, K, N, by omega, by omega, by rw [HAS.out]; go_num, by rw [HRE.out]; go_num, by go_num, by rw [HAS.out]; omega, by rw [HRE.out]; omega, by omega, HI.out.ask key, HA15⟩
                case measure => simp [intOf]; omega
              · have dj : decide ((0 : Int) ≤ (j : Int)) = true := decide_eq_true (by omega)
                have HOW : Hid (s.own key = some (N.getD j empty, false)) := by unfold Hid; rw [← hkj]; exact (HI.out.some j hj).2
                have HWH : Hid (s.whose key = (N.getD j empty, false)) := by unfold Hid Gt.whose; rw [HOW.out]; rfl
                have HWE : Hid (s.whoErr key = 0) := by unfold Hid Gt.whoErr; rw [HOW.out]; rfl
                have HAS : Hid ((s.ask key).asked = s.asked + 1) := rfl
                have HRE : Hid ((s.ask key).refused = s.refused) := by unfold Hid Gt.ask; rw [HOW.out]; rfl
                clear HE hadx hkj
                go_wp2_with fail
                refine (who_any (key := key) (by omega) (by omega) (by omega) HA13.out.gate).mono ?_
                rintro e w15 ⟨mo15, rfl, hG15, hW15, hT15⟩
                rw [HWH.out, HWE.out]
                have HA15 := hide (HA13.out.step hG15 hW15 (hT15.mono (by simp)))
                have HH15 := hide (HH13.out.step hW15 (hT15.mono (by simp)))
                have x1 := HH15.out.c1
                have hpw15 := lt_of_cell x1
                simp only at x1
                clear hG15 hW15 hT15 HA13 HH13 z0 z1 z2 hpw
                obtain ⟨gn, cn, en, hcn⟩ := HA15.out.names.get (i := j) (by rw [HI.out.len]; exact hj)
                have hnw := lt_of_cell hcn
                have hjn : j < N.length := by rw [HI.out.len]; exact hj
                have dy : ((N.getD j empty).toList == (N.getD j empty).toList) = true := by simp
                subst en
                generalize N.getD j empty = y at *
                go_wp2_with fail
                refine (asked_any HA15.out.gate).mono ?_
                rintro e w16 ⟨rfl, rfl⟩
                rw [HAS.out]
                go_wp2_with fail
                refine (refused_any HA15.out.gate).mono ?_
                rintro e w17 ⟨rfl, rfl⟩
                rw [HRE.out]
                go_wp2_with fail
                go_roundw
                case rel => exact ⟨k + 1, mo15, s.ask key, K, N, by omega, by omega, by rw [HAS.out]; go_num, by rw [HRE.out], by go_num, by rw [HAS.out]; omega, by rw [HRE.out]; omega, by omega, HI.out.ask key, HA15⟩
                case measure => simp [intOf]; omega
          | true =>
            go_wp2_with fail
            refine (rname_any key (by omega) _).mono ?_
            rintro e w14 ⟨rfl, rfl⟩
            cases h1 : nm key with
            | false =>
              have H1 := hide h1
              clear h1
              have HER : Hid (s.addErr key name = 1) := by unfold Hid Gt.addErr; rw [if_pos (.inl H1.out)]
              have HTO : Hid (s.addTo key name = s) := by unfold Hid Gt.addTo; rw [if_pos (.inl H1.out)]
              go_wp2_with fail
              refine (add_any (key := key) (name := name) (by omega) (by omega) (by rw [HI.out.n]; omega) HA13.out.gate).mono ?_
              rintro e w15 ⟨mo15, rfl, hG15, hW15, hT15⟩
              rw [HER.out]
              rw [HTO.out] at hG15
              have HA15 := hide (HA13.out.step hG15 hW15 hT15)
              clear hG15 hW15 hT15 HA13 HH13 HER HTO HF
              go_wp2_with fail
              go_roundw
              case rel => exact ⟨k + 1, mo15, s, K, N, by omega, by omega, rfl, rfl, by go_num, by omega, by omega, by omega, HI, HA15⟩
              case measure => simp [intOf]; omega
            | true =>
              have H1 := hide h1
              clear h1
              go_wp2_with fail
              refine (rname_any name (by omega) _).mono ?_
              rintro e w14 ⟨rfl, rfl⟩
              cases h2 : nm name with
              | false =>
                have H2 := hide h2
                clear h2
                have HER : Hid (s.addErr key name = 1) := by unfold Hid Gt.addErr; rw [if_pos (.inr H2.out)]
                have HTO : Hid (s.addTo key name = s) := by unfold Hid Gt.addTo; rw [if_pos (.inr H2.out)]
                go_wp2_with fail
                refine (add_any (key := key) (name := name) (by omega) (by omega) (by rw [HI.out.n]; omega) HA13.out.gate).mono ?_
                rintro e w15 ⟨mo15, rfl, hG15, hW15, hT15⟩
                rw [HER.out]
                rw [HTO.out] at hG15
                have HA15 := hide (HA13.out.step hG15 hW15 hT15)
                clear hG15 hW15 hT15 HA13 HH13 HER HTO HF
                go_wp2_with fail
                go_roundw
                case rel => exact ⟨k + 1, mo15, s, K, N, by omega, by omega, rfl, rfl, by go_num, by omega, by omega, by omega, HI, HA15⟩
                case measure => simp [intOf]; omega
              | true =>
                have H2 := hide h2
                clear h2
                have HNN : Hid (¬ (nm key = false ∨ nm name = false)) := by unfold Hid; rw [H1.out, H2.out]; simp
                by_cases hadx : key = admin
                · have dk : (key.toList == admin.toList) = true := HE.out.trans (decide_eq_true hadx)
                  have HNO : Hid ((s.own key).isSome = true) := by unfold Hid; rw [hadx, HI.out.ad]; rfl
                  clear HE hadx
                  have HER : Hid (s.addErr key name = 7) := by unfold Hid Gt.addErr; rw [if_neg HNN.out, if_pos HNO.out]
                  have HTO : Hid (s.addTo key name = s) := by unfold Hid Gt.addTo; rw [if_neg HNN.out, if_pos HNO.out]
                  go_wp2_with fail
                  refine (add_any (key := key) (name := name) (by omega) (by omega) (by rw [HI.out.n]; omega) HA13.out.gate).mono ?_
                  rintro e w15 ⟨mo15, rfl, hG15, hW15, hT15⟩
                  rw [HER.out]
                  rw [HTO.out] at hG15
                  have HA15 := hide (HA13.out.step hG15 hW15 hT15)
                  clear hG15 hW15 hT15 HA13 HH13 HER HTO HF
                  go_wp2_with fail
                  go_roundw
                  case rel => exact ⟨k + 1, mo15, s, K, N, by omega, by omega, rfl, rfl, by go_num, by omega, by omega, by omega, HI, HA15⟩
                  case measure => simp [intOf]; omega
                · have dk : (key.toList == admin.toList) = false := HE.out.trans (decide_eq_false hadx)
                  clear HE
                  rcases HF.out with ⟨rfl, hfn⟩ | ⟨j, hj, rfl, hkj⟩
                  · have HFN := hide hfn
                    have HNO : Hid ((s.own key).isSome = false) := by unfold Hid; rw [HI.out.none key hadx HFN.out]; rfl
                    have hs5' : (s.add key name).asked ≤ k + 1 := by show s.asked ≤ k + 1; omega
                    have hs6' : (s.add key name).refused ≤ k + 1 := by show s.refused ≤ k + 1; omega
                    clear hfn
                    have HER : Hid (s.addErr key name = 0) := by unfold Hid Gt.addErr; rw [if_neg HNN.out, HNO.out]; rfl
                    have HTO : Hid (s.addTo key name = s.add key name) := by unfold Hid Gt.addTo; rw [if_neg HNN.out, HNO.out]; rfl
                    have HI' := hide (HI.out.add (y := name) hadx HFN.out)
                    go_wp2_with fail
                    refine (add_any (key := key) (name := name) (by omega) (by omega) (by rw [HI.out.n]; omega) HA13.out.gate).mono ?_
                    rintro e w15 ⟨mo15, rfl, hG15, hW15, hT15⟩
                    rw [HER.out]
                    rw [HTO.out] at hG15
                    have HA15 := hide (HA13.out.step hG15 hW15 hT15)
                    have HH15 := hide (HH13.out.step hW15 hT15)
                    have x1 := HH15.out.c1
                    have hpw15 := lt_of_cell x1
                    simp only at x1
                    have HS15 : Hid (w.heap.size ≤ w15.heap.size) := HA15.out.turn.size
                    clear hG15 hW15 hT15 HA13 HH13 HER HTO HF z0 z1 z2 hpw
                    have HLK : Hid (K.length < 1000000) := by unfold Hid; omega
                    go_upto_region 29 with (first | (at_builtin; refine append_str rfl _ _ rfl w.heap.size (.slice ak K.length ck) K key rfl HA15.out.keys w15.heap.size rfl rfl HLK.out HS15.out ?_; intro vk16 w16 hK16 hT16 hv16; have HK16 := hide hK16; have HT16 := hide hT16; have HV16 := hide hv16; clear hK16 hT16 hv16) | fail)
                    have HA16 := hide (HA15.out.key HK16.out HT16.out HV16.out)
                    have HH16 := hide (HH15.out.key HT16.out HV16.out)
                    have x2 := HH16.out.c2
                    have hpw16 := lt_of_cell x2
                    simp only at x2
                    have HS16 : Hid (w.heap.size ≤ w16.heap.size) := HA16.out.turn.size
                    have HLN : Hid (N.length < 1000000) := by unfold Hid; rw [HI.out.len]; omega
                    clear HK16 HT16 HV16 HA15 HH15 x1 hpw15 HS15
                    obtain ⟨an, cn, rfl⟩ := HA16.out.names.slice
                    go_wp2_with (first | (at_builtin; refine append_str rfl _ _ rfl w.heap.size (.slice an N.length cn) N name rfl HA16.out.names w16.heap.size rfl rfl HLN.out HS16.out ?_; intro vn17 w17 hN17 hT17 hv17; have HN17 := hide hN17; have HT17 := hide hT17; have HV17 := hide hv17; clear hN17 hT17 hv17) | fail)
                    have HA17 := hide (HA16.out.name HN17.out HT17.out HV17.out)
                    clear HN17 HT17 HV17 HA16 HH16 x2 hpw16 HS16
                    go_wp2_with fail
                    go_roundw
                    case rel => exact ⟨k + 1, mo15, s.add key name, K ++ [key], N ++ [name], by omega, by omega, rfl, rfl, by go_num, hs5', hs6', by rw [List.length_append, List.length_singleton]; omega, HI', HA17⟩
                    case measure => simp [intOf]; omega
                  · have HNO : Hid ((s.own key).isSome = true) := by unfold Hid; rw [← hkj, (HI.out.some j hj).2]; rfl
                    have dj : decide ((0 : Int) ≤ (j : Int)) = true := decide_eq_true (by omega)
                    clear hkj
                    have HER : Hid (s.addErr key name = 7) := by unfold Hid Gt.addErr; rw [if_neg HNN.out, if_pos HNO.out]
                    have HTO : Hid (s.addTo key name = s) := by unfold Hid Gt.addTo; rw [if_neg HNN.out, if_pos HNO.out]
                    go_wp2_with fail
                    refine (add_any (key := key) (name := name) (by omega) (by omega) (by rw [HI.out.n]; omega) HA13.out.gate).mono ?_
                    rintro e w15 ⟨mo15, rfl, hG15, hW15, hT15⟩
                    rw [HER.out]
                    rw [HTO.out] at hG15
                    have HA15 := hide (HA13.out.step hG15 hW15 hT15)
                    clear hG15 hW15 hT15 HA13 HH13 HER HTO HF
                    go_wp2_with fail
                    go_roundw
                    case rel => exact ⟨k + 1, mo15, s, K, N, by omega, by omega, rfl, rfl, by go_num, by omega, by omega, by omega, HI, HA15⟩
                    case measure => simp [intOf]; omega
    · have hcs : (¬ k < l.length) ∨ (k < l.length ∧ ¬ k < 60) := by
        by_cases h : k < l.length
        · exact .inr ⟨h, fun h2 => hlt ⟨h, h2⟩⟩
        · exact .inl h
      clear hlt
      have HGA := hide HA.out.gate
      have hee : ((s.asked : Int) == (s.asked : Int)) = true := by simp
      have her : ((s.refused : Int) == (s.refused : Int)) = true := by simp
      rcases hcs with h1 | ⟨h1, h2⟩
      all_goals
        go_wp2_with fail
        refine (asked_any HGA.out).mono ?_
        rintro e w8 ⟨rfl, rfl⟩
        go_wp2_with fail
        refine (refused_any HGA.out).mono ?_
        rintro e w9 ⟨rfl, rfl⟩
        go_wp2_with fail
        go_ret
        exact ⟨ret_bool (by simp), HA.out.turn⟩

end Go.Proofs.Ytgljldojmpeegaa.Ga
