/-
  HoldAgain, walked.
-/
import Derived.Test.YtajnhdlefpeclaaHKnown
import Derived.Test.YtajnhdlefpeclaaHDue
import Derived.Test.YtajnhdlefpeclaaHSame
import Derived.Test.YtajnhdlefpeclaaHPlain
import Derived.Test.YtajnhdlefpeclaaLFrame
namespace Go.Proofs.Ytajnhdlefpeclaa.Ho
open Go.RowKit Go.Maps

theorem drp_len {l : List Hd} (i : Int) : (drp l i).length ≤ l.length := List.length_filter_le _ _

set_option maxRecDepth 100000 in
set_option maxHeartbeats 4000000 in
theorem again_any (a : Option Addr) (c : Nat) (l : List Int) (id over : Int) (w : World) (_hlen : l.length ≤ 9223372036854775807) (hL : NumsAt w a l) :
    Calls Try.prog 7 #[.slice a l.length c, .int .i64 id, .int .i64 over] w fun e w' => e = .returned (.bool true) ∧ Turn [] w w' := by
  have HL := hide hL
  clear hL
  go_enter Try.func7, Try.ntmps7
  go_wp2_with fail
  refine (known_any w).mono ?_
  rintro e w1 ⟨rfl, hT1⟩
  have HT1 := hide hT1
  clear hT1
  go_wp2_with fail
  go_loopw [7, 8] (fun u i wr => ∃ (k : Nat) (lk : List Hd) (ak : Option Addr) (ck : Nat), k ≤ l.length ∧ k ≤ 20 ∧ u = .slice ak lk.length ck ∧ i = .int .i64 k ∧ lk.length ≤ k ∧ Hid (HoldsAt wr ak ck lk) ∧ Hid (Up lk) ∧ Hid (Fit 1000 lk) ∧ Turn [] w wr) (fun _ i _ => 20 - (intOf i).toNat)
  case atStart => exact ⟨0, [], none, 0, Nat.zero_le _, by omega, rfl, rfl, Nat.le_refl _, HoldsAt.nil _, Up.nil, fun x hx => by simp at hx, HT1.out⟩
  case round =>
    obtain ⟨k, lk, ak, ck, hk, hk2, rfl, rfl, hlk, HH, HU, HF, hT⟩ := hrel
    have HT := hide hT
    clear hT
    by_cases hlt : k < l.length ∧ k < 20
    · obtain ⟨hlt, hk20⟩ := hlt
      obtain ⟨b, off, rfl, hc⟩ := (HL.out.turn0 HT.out).at hlt
      have hbw := lt_of_cell hc
      generalize l.getD k 0 = x at *
      go_wp2_with fail
      refine (put_any ak ck lk (bare x 1 0) wr HU.out (by omega) HF.out HH.out (bare_ok _ _ _ _) (by simp [bare])).mono ?_
      rintro e w2 ⟨a2, c2, rfl, hH2, hT2⟩
      have HH2 := hide hH2
      have HT2 := hide (HT.out.trans hT2)
      have HU2 := hide (up_put HU.out (bare x 1 0).x)
      have HF2 : Hid (Fit 1000 (put lk (bare x 1 0).x)) := HF.out.put (by simp [bare])
      have hl2 := put_length lk (bare x 1 0).x
      generalize put lk (bare x 1 0).x = l2 at *
      clear hH2 hT2 HH HT HU HF hc
      go_wp2_with fail
      go_roundw
      case rel => exact ⟨k + 1, l2, a2, c2, by omega, by omega, rfl, by go_num, by omega, HH2, HU2, HF2, HT2.out⟩
      case measure => simp [intOf]; omega
    · have hcs : (¬ k < l.length) ∨ (k < l.length ∧ ¬ k < 20) := by
        by_cases h : k < l.length
        · exact .inr ⟨h, fun h2 => hlt ⟨h, h2⟩⟩
        · exact .inl h
      clear hlt
      rcases hcs with h1 | ⟨h1, h2⟩
      all_goals
        go_wp2_with fail
        refine (put_any ak ck lk (bare id 2 0) wr HU.out (by omega) HF.out HH.out (bare_ok _ _ _ _) (by simp [bare])).mono ?_
        rintro e w2 ⟨a2, c2, rfl, hH2, hT2⟩
        have HH2 := hide hH2
        have HT2 := hide (HT.out.trans hT2)
        have HHl := hide (HH.out.turn0 hT2)
        have HU2 := hide (up_put HU.out (bare id 2 0).x)
        have HF2 : Hid (Fit 1000 (put lk (bare id 2 0).x)) := HF.out.put (by simp [bare])
        have hl2 := put_length lk (bare id 2 0).x
        have HD2 : Hid (drp (put lk (bare id 2 0).x) id = drp lk id) := drp_put HU.out (bare id 2 0).x
        generalize put lk (bare id 2 0).x = l2 at *
        clear hH2 hT2 HT HH
        go_wp2_with fail
        refine (put_any a2 c2 l2 (bare id over 0) w2 HU2.out (by omega) HF2.out HH2.out (bare_ok _ _ _ _) (by simp [bare])).mono ?_
        rintro e w3 ⟨a3, c3, rfl, hH3, hT3⟩
        have HH3 := hide hH3
        have HT3 := hide (HT2.out.trans hT3)
        have HHl3 := hide (HHl.out.turn0 hT3)
        have HU3 := hide (up_put HU2.out (bare id over 0).x)
        have HF3 : Hid (Fit 1000 (put l2 (bare id over 0).x)) := HF2.out.put (by simp [bare])
        have hl3 := put_length l2 (bare id over 0).x
        have HD3 : Hid (drp (put l2 (bare id over 0).x) id = drp lk id) := (drp_put HU2.out (bare id over 0).x).trans HD2.out
        have HN3 : Hid (fnd (put l2 (bare id over 0).x) id = some (bare id over 0).x) := fnd_put l2 (bare id over 0).x
        generalize put l2 (bare id over 0).x = l3 at *
        clear hH3 hT3 HT2 HHl HH2 HU2 HF2 HD2
        go_wp2_with fail
        have HC := hide (find_any a3 c3 l3 id w3 HU3.out (by omega) HF3.out HH3.out)
        rw [HN3.out] at HC
        refine HC.out.mono ?_
        rintro e w4 ⟨r, rfl, hr, _, hT4⟩
        have HT4 := hide (HT3.out.trans hT4)
        have HHl4 := hide (HHl3.out.turn0 hT4)
        have HH4 := hide (HH3.out.turn0 hT4)
        obtain ⟨⟨rid, rps, rov, run⟩, ra, rc⟩ := r
        have hr' : rov = over := congrArg Hd.ov hr
        subst hr'
        clear hT4 HT3 HHl3 HH3 HC HN3 hr
        simp only [Option.isSome_some]
        go_wp2_with fail
        have HD := hide (drop_any a3 c3 l3 id (w4.alloc (.cells #[.int .i64 rid, .slice ra rps.length rc, .int .i64 rov, .int .i64 run] 27)) HU3.out (by omega) HF3.out (HH4.out.turn0 ((Turn.refl [] w4).alloc _)))
        rw [HD3.out] at HD
        refine HD.out.mono ?_
        have hx0 : (w4.alloc (.cells #[.int .i64 rid, .slice ra rps.length rc, .int .i64 rov, .int .i64 run] 27)).cell? ⟨w4.heap.size, 2, none⟩ = some (.int .i64 rov) := World.cell?_alloc_at _ _ _ _ rfl
        rintro e w5 ⟨a5, c5, rfl, hH5, hT5⟩
        have HT5 := hide ((HT4.out.alloc _).trans hT5)
        have HHl5 := hide ((HHl4.out.turn0 ((Turn.refl [] w4).alloc _)).turn0 hT5)
        have HH5 := hide hH5
        have hx5 := (hT5.cell (p := ⟨w4.heap.size, 2, none⟩) (by simp) (by simp)).trans hx0
        have hg5 := lt_of_cell hx5
        have hl5 := drp_len (l := lk) id
        have HU5 := hide (up_drp HU.out id)
        have HF5 : Hid (Fit 1000 (drp lk id)) := HF.out.filter _
        have HDD := hide (drp_drp lk id)
        have HDL := hide (drop_any ak ck lk id)
        generalize drp lk id = l5 at *
        clear hH5 hT5 HT4 HHl4 HH4 HD HD3 HU3 HF3 hx0
        generalize w4.heap.size = g4 at *
        go_wp2_with fail
        have HE := hide (drop_any a5 c5 l5 id w5 HU5.out (by omega) HF5.out HH5.out)
        rw [HDD.out] at HE
        refine HE.out.mono ?_
        rintro e w6 ⟨a6, c6, rfl, hH6, hT6⟩
        have HT6 := hide (HT5.out.trans hT6)
        have HHl6 := hide (HHl5.out.turn0 hT6)
        have HH6 := hide hH6
        have HH56 := hide (HH5.out.turn0 hT6)
        clear hH6 hT6 HE HT5 HHl5 HH5 hx5 hg5
        go_wp2_with fail
        refine (sameHolds_any a6 a5 c6 c5 l5 w6 (by omega) HF5.out HH6.out HH56.out).mono ?_
        rintro e w7 ⟨rfl, m, rfl⟩
        have HT7 := hide (HT6.out.drewN m)
        have HHl7 := hide (HHl6.out.turn0 (turn_drewN w6 m))
        have HH7 := hide (HH56.out.turn0 (turn_drewN w6 m))
        generalize w6.drewN m = w7 at *
        clear HT6 HHl6 HH6 HH56
        go_wp2_with fail
        refine (HDL.out w7 HU.out (by omega) HF.out HHl7.out).mono ?_
        rintro e w8 ⟨a8, c8, rfl, hH8, hT8⟩
        have HT8 := hide (HT7.out.trans hT8)
        have HH8 := hide hH8
        have HH78 := hide (HH7.out.turn0 hT8)
        clear hH8 hT8 HT7 HHl7 HH7 HDL
        go_wp2_with fail
        refine (sameHolds_any a5 a8 c5 c8 l5 w8 (by omega) HF5.out HH78.out HH8.out).mono ?_
        rintro e w9 ⟨rfl, m, rfl⟩
        have HT9 := hide (HT8.out.drewN m)
        generalize w8.drewN m = w9 at *
        clear HT8 HH78 HH8
        go_wp2_with fail
        go_ret
        exact ⟨rfl, HT9.out⟩

end Go.Proofs.Ytajnhdlefpeclaa.Ho
