/-
  HoldFinds, walked.
-/
import Derived.Test.YtajnhdlefpeclaaHKnown
import Derived.Test.YtajnhdlefpeclaaHDue
import Derived.Test.YtajnhdlefpeclaaHPlain
import Derived.Test.YtajnhdlefpeclaaHFrame
import Derived.Deep.CutRange
namespace Go.Proofs.Ytajnhdlefpeclaa.Ho
open Go.RowKit Go.Maps

/-- Which ids are there. -/
structure HasAt (w : World) (g : Nat) (l : List Hd) : Prop where
  has : ∀ j, j < 40 → w.cell? ⟨g, j, none⟩ = some (.bool (fnd l (j : Nat)).isSome)
  fz : ∀ o, w.frozen? ⟨g, o, none⟩ = false
  all : ∀ o v, w.cell? ⟨g, o, none⟩ = some v → ∃ b, v = .bool b
theorem HasAt.lt {w : World} {g : Nat} {l : List Hd} (h : HasAt w g l) : g < w.heap.size := lt_of_cell (h.has 0 (by omega))
theorem HasAt.turn {w w' : World} {g : Nat} {l : List Hd} (h : HasAt w g l) (hT : Turn [] w w') : HasAt w' g l :=
  ⟨fun j hj => (hT.cell (p := ⟨g, j, none⟩) h.lt (by simp)).trans (h.has j hj), fun o => (World.frozen?_of_block (a := ⟨g, o, none⟩) (hT.block g h.lt (by simp))).trans (h.fz o), fun o v hv => h.all o v ((hT.cell (p := ⟨g, o, none⟩) h.lt (by simp)).symm.trans hv)⟩
theorem HasAt.set {w : World} {g : Nat} {l l' : List Hd} (h : HasAt w g l) (k : Nat) (hk : k < 40) (b : Bool) (hl : ∀ j : Nat, (fnd l' (j : Nat)).isSome = if j = k then b else (fnd l (j : Nat)).isSome) : HasAt (w.setCell ⟨g, k, none⟩ (.bool b)) g l' := by
  refine ⟨fun j hj => ?_, fun o => by rw [World.frozen?_setCell]; exact h.fz o, fun o v hv => ?_⟩
  · rw [hl j]
    by_cases e : j = k
    · subst e
      rw [if_pos rfl]
      exact World.cell?_setCell_same _ _ _ (h.has j hj)
    · rw [if_neg e]
      exact (World.cell?_setCell_other _ _ _ _ (off_ne (Ne.symm e))).trans (h.has j hj)
  · by_cases e : o = k
    · subst e
      rw [World.cell?_setCell_same _ _ _ (h.has o hk)] at hv
      exact ⟨b, (Option.some.inj hv).symm⟩
    · exact h.all o v ((World.cell?_setCell_other _ _ _ _ (off_ne (Ne.symm e))).symm.trans hv)
/-- Holds lie elsewhere. -/
theorem HasAt.holds {w : World} {g : Nat} {l m : List Hd} {a : Option Addr} {c : Nat} (h : HasAt w g m) (hl : HoldsAt w a c l) (k : Nat) (v : Value) : HoldsAt (w.setCell ⟨g, k, none⟩ v) a c l := by
  have hT : Turn [g] w (w.setCell ⟨g, k, none⟩ v) := (Turn.refl [g] w).setCell (by simp) k v
  have hn : ∀ b o x, w.cell? ⟨b, o, none⟩ = some (.int .i64 x) → b ∉ [g] := fun b o x hc hb => by
    obtain rfl := List.mem_singleton.1 hb
    obtain ⟨u, hu⟩ := h.all o _ hc
    cases hu
  obtain ⟨rs, h1, h2, h3, h4⟩ := hl
  refine ⟨rs, h1, ?_, fun r hr => ?_, h4⟩
  · rcases h2 with h2 | ⟨b, off, rfl, h2⟩
    · exact .inl h2
    · by_cases hz : rs = []
      · exact .inl hz
      · exact .inr ⟨b, off, rfl, h2.turn hT (hn _ _ _ (h2 0 (List.length_pos_iff.2 hz)).id)⟩
  · refine (h3 r hr).turn hT fun x hx hp => ?_
    rcases (h3 r hr).1 with h5 | ⟨b, off, hb, h5⟩
    · exact absurd h5 hp
    · rw [hb] at hx
      obtain rfl := Option.some.inj hx
      exact hn _ _ _ (h5 0 (List.length_pos_iff.2 hp)).1

set_option maxRecDepth 100000 in
set_option maxHeartbeats 6000000 in
theorem finds_any (a : Option Addr) (c : Nat) (l : List Int) (da : Option Addr) (dc : Nat) (ds : List Bool) (w : World) (_hlen : l.length ≤ 9223372036854775807) (hL : NumsAt w a l) (hD : BoolsAt w da ds) :
    Calls Try.prog 4 #[.slice a l.length c, .slice da ds.length dc] w fun e w' => e = .returned (.bool true) ∧ Turn [] w w' := by
  have HL := hide hL
  have HD := hide hD
  clear hL hD
  go_enter Try.func4, Try.ntmps4
  go_wp2_with fail
  refine (known_any w).mono ?_
  rintro e w1 ⟨rfl, hT1⟩
  have HT1 := hide hT1
  clear hT1
  go_wp2_with fail
  obtain ⟨W, hW⟩ : ∃ W, W = w1.alloc (.cells #[.bool false, .bool false, .bool false, .bool false, .bool false, .bool false, .bool false, .bool false, .bool false, .bool false, .bool false, .bool false, .bool false, .bool false, .bool false, .bool false, .bool false, .bool false, .bool false, .bool false, .bool false, .bool false, .bool false, .bool false, .bool false, .bool false, .bool false, .bool false, .bool false, .bool false, .bool false, .bool false, .bool false, .bool false, .bool false, .bool false, .bool false, .bool false, .bool false, .bool false] 39) := ⟨_, rfl⟩
  have HTW : Hid (Turn [] w W) := by rw [hW]; exact HT1.out.alloc _
  have hb : W.heap[w1.heap.size]? = some (.cells (Array.replicate 40 (.bool false)) 39) := by rw [hW]; exact Array.getElem?_push_size
  have HH0 : Hid (HasAt W w1.heap.size []) := ⟨fun j hj => by unfold World.cell?; rw [hb]; simp [fnd, hj], fun o => by unfold World.frozen?; rw [hb]; simp, fun o v hv => by unfold World.cell? at hv; rw [hb] at hv; simp [Array.getElem?_replicate] at hv; exact ⟨false, hv.2.symm⟩⟩
  have HG : Hid (w.heap.size ≤ w1.heap.size) := HT1.out.size
  rw [← hW]
  clear hW hb HT1
  generalize w1.heap.size = g at *
  go_loopw [5, 7] (fun u i wr => ∃ (k : Nat) (lk : List Hd) (ak : Option Addr) (ck : Nat), k ≤ l.length ∧ k ≤ 60 ∧ u = .slice ak lk.length ck ∧ i = .int .i64 k ∧ lk.length ≤ k ∧ Hid (HoldsAt wr ak ck lk) ∧ Hid (Up lk) ∧ Hid (Fit 1000 lk) ∧ Hid (In40 lk) ∧ Hid (HasAt wr g lk) ∧ Turn [] w wr) (fun _ i _ => 60 - (intOf i).toNat)
  case atStart => exact ⟨0, [], none, 0, Nat.zero_le _, by omega, rfl, rfl, Nat.le_refl _, HoldsAt.nil _, Up.nil, fun x hx => by simp at hx, fun x hx => by simp at hx, HH0, HTW.out⟩
  case round =>
    obtain ⟨k, lk, ak, ck, hk, hk2, rfl, rfl, hlk, HH, HU, HF, HI, HS, hT⟩ := hrel
    have HT := hide hT
    clear hT
    by_cases hlt : k < l.length ∧ k < 60
    · obtain ⟨hlt, hk60⟩ := hlt
      obtain ⟨b, off, rfl, hc⟩ := (HL.out.turn0 HT.out).at hlt
      have hbw := lt_of_cell hc
      generalize l.getD k 0 = x at *
      obtain ⟨t1, t2, t3⟩ := tmod_bd x 40 (by omega)
      have hx0 : 0 ≤ x % 40 := Int.emod_nonneg x (by omega)
      have hx1 : x % 40 < 40 := Int.emod_lt_of_pos x (by omega)
      have HX := hide t3
      clear t3
      go_upto_if 32 with fail
      go_cut [8] from 16 to 114 (fun u wx => u = .int .i64 (x % 40) ∧ wx = wr)
      case first =>
        by_cases hn : x.tmod 40 < 0
        · go_wp2_with fail
          go_meet
          case rel => exact ⟨by rw [HX.out, if_pos hn], rfl⟩
        · go_wp2_with fail
          go_meet
          case rel => exact ⟨by rw [HX.out, if_neg (by omega)], rfl⟩
      case rest =>
        obtain ⟨rfl, rfl⟩ := hcut
        obtain ⟨i, hi⟩ : ∃ i : Nat, x % 40 = (i : Int) := ⟨(x % 40).toNat, by omega⟩
        rw [hi] at hx0 hx1 ⊢
        have hi40 : i < 40 := by omega
        clear hi hx0 hx1 HX t1 t2 hc
        go_upto_region 11 with fail
        go_cut [44] from 16 to 114 (fun u wx => u = .bool (ds.getD k false) ∧ wx = wc)
        case first =>
          by_cases hd : k < ds.length
          · obtain ⟨b2, off2, rfl, hc2⟩ := (HD.out.turn0 HT.out).at hd
            have hb2 := lt_of_cell hc2
            generalize ds.getD k false = dr at *
            go_wp2_with fail
            go_meet
            case rel => exact ⟨rfl, rfl⟩
          · have hz : ds.getD k false = false := by rw [List.getD_eq_getElem?_getD, List.getElem?_eq_none (by omega)]; rfl
            go_wp2_with fail
            go_meet
            case rel => exact ⟨by rw [hz], rfl⟩
        case rest =>
          obtain ⟨rfl, rfl⟩ := hcut
          generalize ds.getD k false = dr at *
          go_upto_if 44 with fail
          go_cut [5] from 16 to 114 (fun u wx => ∃ (l2 : List Hd) (a2 : Option Addr) (c2 : Nat), u = .slice a2 l2.length c2 ∧ l2.length ≤ k + 1 ∧ Hid (HoldsAt wx a2 c2 l2) ∧ Hid (Up l2) ∧ Hid (Fit 1000 l2) ∧ Hid (In40 l2) ∧ Hid (HasAt wx g l2) ∧ Turn [] w wx)
          case first =>
            cases dr
            · go_wp2_with fail
              refine (put_any ak ck lk (bare i k 0) wc HU.out (by omega) HF.out HH.out (bare_ok _ _ _ _) (by simp [bare])).mono ?_
              rintro e w2 ⟨a2, c2, rfl, hH2, hT2⟩
              have HS2 := HS.out.turn hT2
              have hx2 := HS2.has i hi40
              have hf2 := HS2.fz
              have hg2 := HS2.lt
              have HH3 := hide (HS2.holds hH2 i (.bool true))
              have HS3 : Hid (HasAt (w2.setCell ⟨g, i, none⟩ (.bool true)) g (put lk (bare i k 0).x)) := HS2.set i hi40 true fun j => by
                rw [some_put]
                show (if (j : Int) = (i : Int) then _ else _) = _
                by_cases e : j = i
                · rw [if_pos e, if_pos (by omega)]
                · rw [if_neg e, if_neg (by omega)]
              have HT2 := hide (HT.out.trans hT2)
              have HU2 := hide (up_put HU.out (bare i k 0).x)
              have HF2 : Hid (Fit 1000 (put lk (bare i k 0).x)) := HF.out.put (by simp [bare])
              have HI2 : Hid (In40 (put lk (bare i k 0).x)) := HI.out.put (by show (0 : Int) ≤ (i : Int); omega) (by show (i : Int) < 40; omega)
              have hl2 := put_length lk (bare i k 0).x
              generalize put lk (bare i k 0).x = l2 at *
              clear hH2 hT2 HH HT HU HF HI HS HS2
              go_wp2_with fail
              go_meet
              case rel => exact ⟨l2, a2, c2, rfl, by omega, HH3, HU2, HF2, HI2, HS3, Turn.new HT2.out HG.out _ _⟩
            · go_wp2_with fail
              refine (drop_any ak ck lk i wc HU.out (by omega) HF.out HH.out).mono ?_
              rintro e w2 ⟨a2, c2, rfl, hH2, hT2⟩
              have HS2 := HS.out.turn hT2
              have hx2 := HS2.has i hi40
              have hf2 := HS2.fz
              have hg2 := HS2.lt
              have HH3 := hide (HS2.holds hH2 i (.bool false))
              have HS3 : Hid (HasAt (w2.setCell ⟨g, i, none⟩ (.bool false)) g (drp lk i)) := HS2.set i hi40 false fun j => by
                rw [some_drp]
                show (if (j : Int) = (i : Int) then _ else _) = _
                by_cases e : j = i
                · rw [if_pos e, if_pos (by omega)]
                · rw [if_neg e, if_neg (by omega)]
              have HT2 := hide (HT.out.trans hT2)
              have HU2 := hide (up_drp HU.out i)
              have HF2 : Hid (Fit 1000 (drp lk i)) := HF.out.filter _
              have HI2 : Hid (In40 (drp lk i)) := HI.out.drp i
              have hl2 : (drp lk i).length ≤ lk.length := List.length_filter_le _ _
              generalize drp lk i = l2 at *
              clear hH2 hT2 HH HT HU HF HI HS HS2
              go_wp2_with fail
              go_meet
              case rel => exact ⟨l2, a2, c2, rfl, by omega, HH3, HU2, HF2, HI2, HS3, Turn.new HT2.out HG.out _ _⟩
          case rest =>
            obtain ⟨l2, a2, c2, rfl, hl2, HH2, HU2, HF2, HI2, HS2, hT2⟩ := hcut
            have HT2 := hide hT2
            clear hT2 HH HU HF HI HS HT hi40
            go_wp2_with fail
            go_loopw [9, 10] (fun u v wr => ∃ j : Nat, j ≤ 40 ∧ u = .int .i64 ((lo l2 (j : Nat)).length : Nat) ∧ v = .int .i64 j ∧ Turn [] wc wr) (fun _ v _ => 40 - (intOf v).toNat)
            case atStart => exact ⟨0, by omega, by rw [show (lo l2 ((0 : Nat) : Int)).length = 0 from HI2.out.lo0]; rfl, rfl, Turn.refl _ _⟩
            case round =>
              obtain ⟨j, hj, rfl, rfl, hT3⟩ := hrel
              have HT3 := hide hT3
              clear hT3
              by_cases hj40 : j < 40
              · have HC := hide (find_any a2 c2 l2 j wr HU2.out (by omega) HF2.out (HH2.out.turn0 HT3.out))
                have hle := lo_le l2 j
                have HN := hide (lo_step HU2.out j)
                have HSj := (HS2.out.turn HT3.out).has j hj40
                go_wp2_with fail
                refine HC.out.mono ?_
                rintro e w4 ⟨r, rfl, hr, _, hT4⟩
                have hg4 := (HS2.out.turn HT3.out).lt
                have hs4 := (hT4.cell (p := ⟨g, j, none⟩) hg4 (by simp)).trans HSj
                have hg5 : g < w4.heap.size := Nat.lt_of_lt_of_le hg4 hT4.size
                have HT4 := hide (HT3.out.trans hT4)
                clear HC HSj hT4 HT3 hg4
                generalize (lo l2 (j : Nat)).length = n at *
                cases hf : fnd l2 (j : Nat) with
                | none =>
                  rw [hf] at hr HN hs4
                  have hov : r.x.ov = 0 := by rw [hr]; rfl
                  have HN' : Hid ((lo l2 ((j + 1 : Nat) : Int)).length = n) := by have := HN.out; simp at this; exact this
                  obtain ⟨⟨rid, rps, rov, run⟩, ra, rc⟩ := r
                  simp only at hov
                  subst hov
                  simp only [Option.isSome_none] at hs4 ⊢
                  clear hr hf HN
                  go_wp2_with fail
                  go_roundw
                  case rel => exact ⟨j + 1, by omega, by rw [HN'.out], by go_num, HT4.out.alloc _⟩
                  case measure => simp [intOf]; omega
                | some y =>
                  rw [hf] at hr HN hs4
                  have hid : r.x.id = (j : Int) := by rw [hr]; exact (fnd_id hf).2
                  have HN' : Hid ((lo l2 ((j + 1 : Nat) : Int)).length = n + 1) := by have := HN.out; simp at this; exact this
                  obtain ⟨⟨rid, rps, rov, run⟩, ra, rc⟩ := r
                  simp only at hid
                  subst hid
                  simp only [Option.isSome_some] at hs4 ⊢
                  clear hr hf HN
                  go_wp2_with fail
                  go_roundw
                  case rel => exact ⟨j + 1, by omega, by rw [HN'.out]; rfl, by go_num, HT4.out.alloc _⟩
                  case measure => simp [intOf]; omega
              · obtain rfl : j = 40 := by omega
                rw [show (lo l2 ((40 : Nat) : Int)).length = l2.length from HI2.out.lo40]
                go_wp2_with fail
                have HT5 := hide (HT2.out.trans HT3.out)
                have HH5 := hide (HH2.out.turn0 HT3.out)
                have HS5 := hide (HS2.out.turn HT3.out)
                clear HT3 HT2 HH2 HS2
                go_loopw [13] (fun v wr' => ∃ j : Nat, 1 ≤ j ∧ j ≤ l2.length + 1 ∧ v = .int .i64 j ∧ Turn [] wr wr') (fun v _ => l2.length + 1 - (intOf v).toNat)
                case atStart => exact ⟨1, by omega, by omega, rfl, Turn.refl _ _⟩
                case round =>
                  obtain ⟨j, hj1, hj2, rfl, hT6⟩ := hrel
                  have HT6 := hide hT6
                  clear hT6
                  by_cases hjl : j < l2.length
                  · obtain ⟨b1, o1, r1, rfl, ⟨x0, _, _, _⟩, hr1, _⟩ := (HH5.out.turn0 HT6.out).at hjl
                    obtain ⟨b2, o2, r2, hb2, ⟨y0, _, _, _⟩, hr2, _⟩ := (HH5.out.turn0 HT6.out).at (i := j - 1) (by omega)
                    obtain ⟨rfl, rfl⟩ : b1 = b2 ∧ o1 = o2 := by injection hb2 with h; injection h with h1 h2; exact ⟨h1, h2⟩
                    have hlt2 : r2.x.id < r1.x.id := by rw [hr1, hr2]; exact HU2.out.lt (by omega) hjl
                    obtain ⟨q, rfl⟩ : ∃ q, j = q + 1 := ⟨j - 1, by omega⟩
                    rw [Nat.add_sub_cancel] at y0
                    have hbx := lt_of_cell x0
                    clear hr1 hr2 hb2
                    go_wp2_with fail
                    go_quiet (fail)
                    clear x0 y0
                    go_wp2_with fail
                    go_roundw
                    case rel => exact ⟨q + 1 + 1, by omega, by omega, by go_num, HT6.out.drewN _⟩
                    case measure => simp [intOf]; omega
                  · go_wp2_with fail
                    have HT7 := hide (HT5.out.trans HT6.out)
                    have HH7 := hide (HH5.out.turn0 HT6.out)
                    have HS7 := hide (HS5.out.turn HT6.out)
                    go_roundw
                    case rel => exact ⟨k + 1, l2, a2, c2, by omega, by omega, rfl, by go_num, by omega, HH7, HU2, HF2, HI2, HS7, HT7.out⟩
                    case measure => simp [intOf]; omega
    · have hcs : (¬ k < l.length) ∨ (k < l.length ∧ ¬ k < 60) := by
        by_cases h : k < l.length
        · exact .inr ⟨h, fun h2 => hlt ⟨h, h2⟩⟩
        · exact .inl h
      clear hlt
      rcases hcs with h1 | ⟨h1, h2⟩
      all_goals
        go_wp2_with fail
        go_ret
        exact ⟨rfl, HT.out⟩

end Go.Proofs.Ytajnhdlefpeclaa.Ho
