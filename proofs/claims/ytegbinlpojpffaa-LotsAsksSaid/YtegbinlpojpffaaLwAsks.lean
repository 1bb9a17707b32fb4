/-
  LotsAsks, walked.
-/
import Derived.Test.YtegbinlpojpffaaLHead
import Derived.Test.YtegbinlpojpffaaLChk2
import Derived.Test.YtegbinlpojpffaaLLeft
namespace Go.Proofs.Ytegbinlpojpffaa
open Go.RowKit Go.Maps Lo

theorem LotIn.all {w : World} {b o : Nat} {x : Lt} (h : LotIn w b o x) : w.cell? ⟨b, o, none⟩ = some (.int .i64 x.id) ∧ w.cell? ⟨b, o + 1, none⟩ = some (.int .i64 x.kd) ∧ w.cell? ⟨b, o + 2, none⟩ = some (.int .i64 x.fr) ∧ w.cell? ⟨b, o + 3, none⟩ = some (.int .i64 x.un) ∧ w.cell? ⟨b, o + 4, none⟩ = some (.int .i64 x.gr) ∧ w.cell? ⟨b, o + 5, none⟩ = some (.int .i64 x.co) ∧ w.cell? ⟨b, o + 6, none⟩ = some (.int .i64 x.he) ∧ w.cell? ⟨b, o + 7, none⟩ = some (.int .i64 x.ex) ∧ w.cell? ⟨b, o + 8, none⟩ = some (.int .i64 x.ro) :=
  ⟨h.id, h.kd, h.fr, h.un, h.gr, h.co, h.he, h.ex, h.ro⟩

set_option maxRecDepth 100000 in
set_option maxHeartbeats 4000000 in
theorem asks_any (a : Option Addr) (cap : Nat) (l : List Lt) (now : Int) (w : World) (hlen : l.length ≤ 9223372036854775807) (hL : LotsAt w a l) :
    Calls Try.prog 3 #[.slice a l.length cap, .int .i64 now] w fun e w' => e = .returned (.bool true) ∧ Turn [] w w' := by
  have HL := hide hL
  clear hL
  go_enter Try.func3, Try.ntmps3
  go_wp2_with fail
  refine (known_any w).mono ?_
  rintro e w1 ⟨rfl, hT1⟩
  have HT1 := hide hT1
  clear hT1
  by_cases h40 : 40 < l.length
  · go_wp2_with fail
    go_ret
    exact ⟨rfl, HT1.out⟩
  · go_wp2_with fail
    go_loopw [0, 1, 5] (fun u t j wr => ∃ (k : Nat) (aa : Option Addr) (cc : Nat) (L : List Lt) (tt : Int), k ≤ 2 ∧ u = .slice aa L.length cc ∧ t = .int .i64 tt ∧ j = .int .i64 k ∧ L.length ≤ 40 ∧ Hid (LotsAt wr aa L) ∧ Hid (1 ≤ k → (0 ≤ tt ∧ tt < 100000) ∧ Lo.Good tt L) ∧ Turn [] w wr) (fun _ _ j _ => 2 - (intOf j).toNat)
    case atStart => exact ⟨0, a, cap, l, now, by omega, rfl, rfl, rfl, by omega, HL.out.turn0 HT1.out, fun h => absurd h (by omega), HT1.out⟩
    case round =>
      obtain ⟨k, aa, cc, L, tt, hk, rfl, rfl, rfl, hL40, HLL, HGd, hT⟩ := hrel
      have HT := hide hT
      clear hT
      by_cases hlt : k < 2
      · go_wp2_with fail
        refine (check_any aa cc L wr (by omega) HLL.out).mono ?_
        rintro e w2 ⟨rfl, hT2⟩
        have HT2 := hide (HT.out.trans hT2)
        have HL2 := hide (HLL.out.turn0 hT2)
        clear hT2 HLL HT
        go_wp2_with fail
        refine (rcheck_any aa cc L w2 (by omega) HL2.out).mono ?_
        rintro e w3 ⟨rfl, hT3⟩
        have HT3 := hide (HT2.out.trans hT3)
        have HL3 := hide (HL2.out.turn0 hT3)
        clear hT3 HL2 HT2
        generalize chk L = ck at *
        go_wp2_with fail
        go_loopw [6] (fun i w4 => ∃ m : Nat, m ≤ L.length ∧ i = .int .i64 m ∧ Turn [] w w4 ∧ Hid (LotsAt w4 aa L)) (fun i _ => L.length - (intOf i).toNat)
        case atStart => exact ⟨0, Nat.zero_le _, rfl, HT3.out, HL3⟩
        case round =>
          obtain ⟨m, hm, rfl, hT4, HL4⟩ := hrel
          have HT4 := hide hT4
          clear hT4 HL3 HT3
          by_cases hml : m < L.length
          · obtain ⟨b, off, rfl, hx⟩ := HL4.out.at hml
            have HX := hide (hx.turn ((Turn.refl [] _).drew) (by simp))
            generalize L.getD m Lt.nil = x at *
            have hb := hx.lt
            have HC1 := fun w => hide (restw_any x w)
            have HC2 := fun w => hide (rrestw_any x w)
            generalize restW x = r at *
            obtain ⟨c0, c1, c2, c3, c4, c5, c6, c7, c8⟩ := hx
            generalize hoo : off + m * 9 = oo at *
            go_wp2_with fail
            go_region_held (fun w' => w'.cell? ⟨b, oo, none⟩ = some (.int .i64 x.id) ∧ w'.cell? ⟨b, oo + 1, none⟩ = some (.int .i64 x.kd) ∧ w'.cell? ⟨b, oo + 2, none⟩ = some (.int .i64 x.fr) ∧ w'.cell? ⟨b, oo + 3, none⟩ = some (.int .i64 x.un) ∧ w'.cell? ⟨b, oo + 4, none⟩ = some (.int .i64 x.gr) ∧ w'.cell? ⟨b, oo + 5, none⟩ = some (.int .i64 x.co) ∧ w'.cell? ⟨b, oo + 6, none⟩ = some (.int .i64 x.he) ∧ w'.cell? ⟨b, oo + 7, none⟩ = some (.int .i64 x.ex) ∧ w'.cell? ⟨b, oo + 8, none⟩ = some (.int .i64 x.ro)) (first | assumption | go_keep | exact LotIn.all hX5 | exact LotIn.all hX6)
              (first
              | (go_at_call 12; refine (HC1 _).out.mono ?_; rintro e w5 ⟨rfl, hT5⟩; have hX5 := HX.out.turn hT5 (by simp))
              | (go_at_call 13; refine (HC2 _).out.mono ?_; rintro e w6 ⟨rfl, hT6⟩; have hX6 := hX5.turn hT6 (by simp)))
            all_goals
              have HT6 := hide ((HT4.out.drew.trans hT5).trans hT6)
              have HL6 := hide ((HL4.out.turn0 (((Turn.refl [] _).drew.trans hT5).trans hT6)))
              clear hT5 hT6 hX5 hX6 c0 c1 c2 c3 c4 c5 c6 c7 c8 HX HC1 HC2
              go_wp2_with fail
              go_roundw
              case rel => exact ⟨m + 1, by omega, by go_num, HT6.out, HL6⟩
              case measure => simp [intOf]; omega
          · go_wp2_with (go_at_call 14; refine (within_any _ _ _ (by omega) (by omega)).mono ?_; rintro e w5 ⟨rfl, rfl⟩)
            obtain ⟨t2, ht2⟩ : ∃ t2, t2 = tt % 100000 := ⟨_, rfl⟩
            rw [← ht2]
            have ht3 : 0 ≤ t2 ∧ t2 < 100000 := by omega
            clear ht2
            refine (goodAt_any aa cc L t2 _ (by omega) HL4.out (by omega) (by omega)).mono ?_
            rintro e w6 ⟨ga, gc, G, rfl, hG, hT6⟩
            have HG := hide hG
            have HT6 := hide (HT4.out.trans hT6)
            have hGl := hG.good.len
            clear hG hT6 HL4 HT4 HGd
            go_wp2_with fail
            go_roundw
            case rel => exact ⟨k + 1, ga, gc, G, t2, by omega, rfl, rfl, by go_num, by omega, HG.out.lots, fun _ => ⟨ht3, HG.out.good⟩, HT6.out⟩
            case measure => simp [intOf]; omega
      · have hk2 : 1 ≤ k := by omega
        obtain ⟨ht, hG⟩ := HGd.out hk2
        have HG := hide hG
        have HCk := hide (hG.chk (show tt ≤ 200000 by omega))
        have HBd : Hid (Bds 1000000000000 L) := (hG.bd ht.1 (by omega)).mono (by omega)
        clear hG HGd
        go_wp2_with fail
        refine (check_any aa cc L wr (by omega) HLL.out).mono ?_
        rw [HCk.out]
        rintro e w2 ⟨rfl, hT2⟩
        have HT2 := hide (HT.out.trans hT2)
        have HL2 := hide (HLL.out.turn0 hT2)
        clear hT2 HLL HT
        go_wp2_with fail
        refine (left_any aa cc L tt w2 (by omega) HBd.out HL2.out).mono ?_
        rintro e w3 ⟨rfl, hT3⟩
        have HT3 := hide (HT2.out.trans hT3)
        have HL3 := hide (HL2.out.turn0 hT3)
        clear hT3 HL2 HT2
        go_wp2_with fail
        refine (rleft_any aa cc L tt w3 (by omega) HBd.out HL3.out).mono ?_
        rintro e w4 ⟨rfl, hT4⟩
        have HT4 := hide (HT3.out.trans hT4)
        clear hT4 HL3 HT3
        generalize lf tt L = v at *
        go_wp2_with fail
        go_ret
        exact ⟨rfl, HT4.out⟩

end Go.Proofs.Ytegbinlpojpffaa
