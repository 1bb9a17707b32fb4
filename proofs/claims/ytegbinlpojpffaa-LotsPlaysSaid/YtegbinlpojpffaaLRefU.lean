/-
  The reference's Use, walked.
-/
import Derived.Test.YtegbinlpojpffaaLRefT
import Derived.Test.YtegbinlpojpffaaLUse
import Derived.Test.YtegbinlpojpffaaLLeft
import Derived.Deep.CutRange
namespace Go.Proofs.Ytegbinlpojpffaa
open Go.RowKit Go.Maps Lo

/-- What the reference's Use answers. -/
def RUsed (l : List Lt) (p : List (Int × Int)) (n now : Int) (w : World) (e : Ending) (w' : World) : Prop :=
  ∃ (g c : Nat) (L : List Lt) (N : Int), us now l p n = (L, N) ∧ e = .returned (.tuple #[.slice (some ⟨g, 0, none⟩) l.length c, .int .i64 N]) ∧ L.length = l.length ∧ w.heap.size ≤ g ∧ OwnL w' g L ∧ Turn [] w w'

/-- A lot of a row has turned, and nothing else. -/
structure Ch (g i : Nat) (w w' : World) : Prop where
  keep : ∀ q, (q < i * 9 ∨ i * 9 + 8 < q) → w'.cell? ⟨g, q, none⟩ = w.cell? ⟨g, q, none⟩
  fz : ∀ o, w'.frozen? ⟨g, o, none⟩ = w.frozen? ⟨g, o, none⟩
  turn : Turn [g] w w'
theorem Ch.refl (g i : Nat) (w : World) : Ch g i w w := ⟨fun _ _ => rfl, fun _ => rfl, Turn.refl _ _⟩
theorem Ch.set {g i : Nat} {u w : World} (h : Ch g i u w) (r : Nat) (hr : r ≤ 8) (v : Value) : Ch g i u (w.setCell ⟨g, i * 9 + r, none⟩ v) :=
  ⟨fun q hq => (World.cell?_setCell_other _ _ _ _ (off_ne (by omega))).trans (h.keep q hq), fun o => by rw [World.frozen?_setCell]; exact h.fz o, h.turn.setCell (by simp) _ _⟩
theorem Ch.drew {g i : Nat} {u w : World} (h : Ch g i u w) : Ch g i u w.drew := ⟨h.keep, h.fz, h.turn.drew⟩
theorem OwnL.ch {g i : Nat} {u w : World} {l : List Lt} {y : Lt} (h : OwnL u g l) (hi : i < l.length) (hc : Ch g i u w) (hy : LotIn w g (i * 9) y) : OwnL w g (l.set i y) :=
  ⟨h.lots.put hi (by rw [Nat.zero_add]; exact hy) (fun q hq => hc.keep q (by omega)), Nat.lt_of_lt_of_le h.lt hc.turn.size, fun o => (hc.fz o).trans (h.fz o)⟩

set_option maxRecDepth 100000 in
set_option maxHeartbeats 8000000 in
theorem ruse_any (a : Option Addr) (cap : Nat) (l : List Lt) (pa : Option Addr) (pc : Nat) (p : List (Int × Int)) (n now : Int) (w : World) (hlen : l.length ≤ 14) (hB : Bds 10000000000000 l) (hL : LotsAt w a l) (hnil : a = none → cap = 0) (hP : PartsAt w pa p) (hpl : p.length ≤ 14) (hpp : ∀ x ∈ p, 1 ≤ x.2 ∧ x.2 ≤ 1000000) (hn0 : 0 ≤ n) (hn1 : n ≤ 1000000) :
    Calls Try.prog 23 #[.slice a l.length cap, .slice pa p.length pc, .int .i64 n, .int .i64 now] w (RUsed l p n now w) := by
  have HB := hide hB
  have HL := hide hL
  have HNil := hide hnil
  have HP := hide hP
  have HPP := hide hpp
  clear hB hL hnil hP hpp
  go_enter Try.func23, Try.ntmps23
  go_wp2_with (first | (at_builtin; refine append_lots rfl _ _ rfl l a cap w.heap.size rfl rfl rfl HL.out HNil.out (by omega) ?_; intro g c w1 hO1 hg hc1 hc2 hT1; have HO := hide hO1; have HT1 := hide hT1; have hgl := hO1.lt; have HP1 := hide (HP.out.turn0 hT1); clear hO1 hT1) | fail)
  have HPg : Hid (p ≠ [] → ∀ x, pa = some x → x.block ≠ g) := fun hne x hx e => by
    rcases HP.out with h | ⟨b, off, h1, h2⟩
    · exact hne h
    · have := lt_of_cell (h2 0 (List.length_pos_iff.2 hne)).1
      rw [h1] at hx
      obtain rfl := Option.some.inj hx
      simp only at e
      omega
  go_loopw [2, 10] (fun u j wr => ∃ (k : Nat) (lk : List Lt) (nk : Int), k ≤ p.length ∧ u = .int .i64 nk ∧ j = .int .i64 k ∧ 0 ≤ nk ∧ nk ≤ 1000000 ∧ lk.length = l.length ∧ Hid (us now lk (p.drop k) nk = us now l p n) ∧ Hid (Bds (10000000000000 + k * 1000000) lk) ∧ Hid (OwnL wr g lk) ∧ Turn [g] w1 wr) (fun _ j _ => p.length - (intOf j).toNat)
  case atStart => exact ⟨0, l, n, Nat.zero_le _, rfl, rfl, hn0, hn1, rfl, hide rfl, HB.out.mono (by omega), HO, Turn.refl _ _⟩
  case round =>
    obtain ⟨k, lk, nk, hk, rfl, rfl, hnk0, hnk1, hll, HF, HBk, HOk, hT⟩ := hrel
    have HT := hide hT
    clear hT
    by_cases hlt : k < p.length
    · have hne : p ≠ [] := fun e => by rw [e] at hlt; simp at hlt
      obtain ⟨b, off, hpa, hc0, hc1⟩ := (HP1.out.turn HT.out (fun x hx => by simp; exact HPg.out hne x hx)).at hlt
      have hb := lt_of_cell hc0
      have hbg : b ≠ g := by rw [hpa] at HPg; exact HPg.out hne _ rfl
      have HS := hide (us_step (now := now) (l := lk) (n := nk) hlt)
      have hmem : p.getD k (0, 0) ∈ p := by rw [List.getD_eq_getElem?_getD, List.getElem?_eq_getElem hlt]; exact List.getElem_mem hlt
      have hq := HPP.out _ hmem
      clear hmem hne
      generalize p.getD k (0, 0) = y at *
      obtain ⟨id, m⟩ := y
      simp only at hc0 hc1 HS hq
      subst hpa
      have HAt := hide (rat_any (some ⟨g, 0, none⟩) c lk id wr (by omega) HOk.out.at)
      rw [hll] at HAt
      have hgw : g < wr.heap.size := HOk.out.lt
      go_wp2_with fail
      refine HAt.out.mono ?_
      rintro e wr ⟨rfl, rfl⟩
      clear HAt
      by_cases hi : ix id lk < lk.length
      · rw [if_pos hi] at HS
        rw [atOf_lt hi]
        have hx := HOk.out.lots _ hi
        have HX := hide hx
        have HBx := hide (HBk.out.at hi)
        have HBn := hide (HBk.out.step (ix id lk) (HBx.out.endp (k := m) (u := min m nk) (now := now) (by omega) (by omega) (by omega) (by omega)))
        have HF2 := hide (HS.out.symm.trans HF.out)
        generalize lk.getD (ix id lk) Lt.nil = x at *
        generalize ix id lk = i at *
        have hil : i < l.length := by omega
        simp only [Nat.zero_add] at hx
        have hx5 := hx.co
        have hx6 := hx.he
        have hx7 := hx.ex
        have hx3 := hx.un
        have hfz := HOk.out.fz
        obtain ⟨b1, b2, b3, b4, b5, b6, b7, b8⟩ := HBx.out
        clear hx HS HF HBk
        by_cases hmn : m < nk
        · have e1 : min m nk = m := by omega
          rw [e1] at HBn HF2
          clear e1
          have hw6 : IntKind.i64.wrap (x.he - m) = x.he - m := by rw [IntKind.wrap_i64]; omega
          have hw7 : IntKind.i64.wrap (x.ex + m) = x.ex + m := by rw [IntKind.wrap_i64]; omega
          have hw8 : IntKind.i64.wrap (x.ex + m - m) = x.ex + m - m := by rw [IntKind.wrap_i64]; omega
          go_upto_region 9 with fail
          go_cut [] from 16 to 90 (fun wx => wx = (wr.setCell ⟨g, i * 9 + 6, none⟩ (.int .i64 (x.he - m))).drew)
          case first =>
            go_region_with (fail)
            all_goals
              go_wp2_with fail
              go_meet
              exact rfl
          case rest =>
            have hwc := hcut
            have HX2 : Hid (LotIn wc g (i * 9) { x with he := x.he - m }) := by
              rw [hwc]
              have := HX.out.set_he (x.he - m)
              simp only [Nat.zero_add] at this
              exact this.turn ((Turn.refl [] _).drew) (by simp)
            have HC2 : Hid (Ch g i wr wc) := by rw [hwc]; exact ((Ch.refl g i wr).set 6 (by omega) _).drew
            have y3 := HX2.out.un
            have y5 := HX2.out.co
            have y7 := HX2.out.ex
            have yfz : ∀ o, wc.frozen? ⟨g, o, none⟩ = false := fun o => (HC2.out.fz o).trans (hfz o)
            have yp := (HC2.out.turn.cell (p := ⟨b, off + k * 2 + 1, none⟩) hb (by simp; exact hbg)).trans hc1
            have hgc := lt_of_cell y5
            have hbc := lt_of_cell yp
            clear hcut hwc hc0 hc1 hx3 hx5 hx6 hx7 hfz HX
            have HC3 := hide (HC2.out.set 5 (by omega) (.int .i64 (x.co + m)))
            have HX3 := hide (HX2.out.set_co (x.co + m))
            simp only at y3 y5 y7
            by_cases hun : x.un ≤ now
            · go_upto_region 12 with fail
              have z3 := HX3.out.un
              have z7 := HX3.out.ex
              have zfz : ∀ o, (wc.setCell ⟨g, i * 9 + 5, none⟩ (.int .i64 (x.co + m))).frozen? ⟨g, o, none⟩ = false := fun o => by rw [World.frozen?_setCell]; exact yfz o
              have zp : (wc.setCell ⟨g, i * 9 + 5, none⟩ (.int .i64 (x.co + m))).cell? ⟨b, off + k * 2 + 1, none⟩ = some (.int .i64 m) := (World.cell?_setCell_other _ _ _ _ (fun e => hbg (congrArg Addr.block e).symm)).trans yp
              have zg : g < (wc.setCell ⟨g, i * 9 + 5, none⟩ (.int .i64 (x.co + m))).heap.size := by rw [World.size_setCell]; exact hgc
              have zb : b < (wc.setCell ⟨g, i * 9 + 5, none⟩ (.int .i64 (x.co + m))).heap.size := by rw [World.size_setCell]; exact hbc
              simp only at z3 z7
              generalize wc.setCell ⟨g, i * 9 + 5, none⟩ (.int .i64 (x.co + m)) = w3 at *
              clear y3 y5 y7 yfz yp hgc hbc HX2 HC2
              have HC4 : Hid (Ch g i wr (w3.setCell ⟨g, i * 9 + 7, none⟩ (.int .i64 (x.ex + m - m))).drew) := (HC3.out.set 7 (by omega) _).drew
              have HX4 : Hid (LotIn (w3.setCell ⟨g, i * 9 + 7, none⟩ (.int .i64 (x.ex + m - m))).drew g (i * 9) (endp x m m now)) := by
                have h := (HX3.out.set_ex (x.ex + m - m)).turn ((Turn.refl [] _).drew) (by simp)
                have e : endp x m m now = { x with he := x.he - m, co := x.co + m, ex := x.ex + m - m } := by
                  unfold endp
                  rw [if_pos hun]
                  congr 1
                  omega
                rw [e]
                exact h
              have HO5 := hide (HOk.out.ch hi HC4.out HX4.out)
              have HT5 := hide (HT.out.trans HC4.out.turn)
              clear HC3 HX3 HC4 HX4
              rw [Int.add_sub_cancel] at HO5 HT5
              go_region_with (fail)
              all_goals
                go_wp2_with fail
                go_roundw
                case rel => exact ⟨k + 1, _, _, by omega, rfl, by go_num, by omega, by omega, by rw [List.length_set]; exact hll, HF2, HBn.out.mono (by omega), HO5, HT5.out⟩
                case measure => simp [intOf]; omega
            · have HX4 : Hid (LotIn (wc.setCell ⟨g, i * 9 + 5, none⟩ (.int .i64 (x.co + m))) g (i * 9) (endp x m m now)) := by
                have e : endp x m m now = { x with he := x.he - m, co := x.co + m } := by
                  unfold endp
                  rw [if_neg hun]
                rw [e]
                exact HX3.out
              have HO5 := hide (HOk.out.ch hi HC3.out HX4.out)
              have HT5 := hide (HT.out.trans HC3.out.turn)
              have hunb : decide (x.un ≤ now) = false := decide_eq_false hun
              clear HX4 HX2 HC2
              go_wp2_with fail
              go_roundw
              case rel => exact ⟨k + 1, _, _, by omega, rfl, by go_num, by omega, by omega, by rw [List.length_set]; exact hll, HF2, HBn.out.mono (by omega), HO5, HT5.out⟩
              case measure => simp [intOf]; omega
        · have e1 : min m nk = nk := by omega
          rw [e1] at HBn HF2
          clear e1
          rw [Int.sub_self] at HF2
          have hw6 : IntKind.i64.wrap (x.he - m) = x.he - m := by rw [IntKind.wrap_i64]; omega
          have hw7 : IntKind.i64.wrap (x.ex + m) = x.ex + m := by rw [IntKind.wrap_i64]; omega
          have hw8 : IntKind.i64.wrap (x.ex + m - nk) = x.ex + m - nk := by rw [IntKind.wrap_i64]; omega
          go_upto_region 9 with fail
          go_cut [] from 16 to 90 (fun wx => wx = (wr.setCell ⟨g, i * 9 + 6, none⟩ (.int .i64 (x.he - m))).drew)
          case first =>
            go_region_with (fail)
            all_goals
              go_wp2_with fail
              go_meet
              exact rfl
          case rest =>
            have hwc := hcut
            have HX2 : Hid (LotIn wc g (i * 9) { x with he := x.he - m }) := by
              rw [hwc]
              have := HX.out.set_he (x.he - m)
              simp only [Nat.zero_add] at this
              exact this.turn ((Turn.refl [] _).drew) (by simp)
            have HC2 : Hid (Ch g i wr wc) := by rw [hwc]; exact ((Ch.refl g i wr).set 6 (by omega) _).drew
            have y3 := HX2.out.un
            have y5 := HX2.out.co
            have y7 := HX2.out.ex
            have yfz : ∀ o, wc.frozen? ⟨g, o, none⟩ = false := fun o => (HC2.out.fz o).trans (hfz o)
            have yp := (HC2.out.turn.cell (p := ⟨b, off + k * 2 + 1, none⟩) hb (by simp; exact hbg)).trans hc1
            have hgc := lt_of_cell y5
            have hbc := lt_of_cell yp
            clear hcut hwc hc0 hc1 hx3 hx5 hx6 hx7 hfz HX
            have HC3 := hide (HC2.out.set 5 (by omega) (.int .i64 (x.co + nk)))
            have HX3 := hide (HX2.out.set_co (x.co + nk))
            simp only at y3 y5 y7
            by_cases hun : x.un ≤ now
            · go_upto_region 12 with fail
              have z3 := HX3.out.un
              have z7 := HX3.out.ex
              have zfz : ∀ o, (wc.setCell ⟨g, i * 9 + 5, none⟩ (.int .i64 (x.co + nk))).frozen? ⟨g, o, none⟩ = false := fun o => by rw [World.frozen?_setCell]; exact yfz o
              have zp : (wc.setCell ⟨g, i * 9 + 5, none⟩ (.int .i64 (x.co + nk))).cell? ⟨b, off + k * 2 + 1, none⟩ = some (.int .i64 m) := (World.cell?_setCell_other _ _ _ _ (fun e => hbg (congrArg Addr.block e).symm)).trans yp
              have zg : g < (wc.setCell ⟨g, i * 9 + 5, none⟩ (.int .i64 (x.co + nk))).heap.size := by rw [World.size_setCell]; exact hgc
              have zb : b < (wc.setCell ⟨g, i * 9 + 5, none⟩ (.int .i64 (x.co + nk))).heap.size := by rw [World.size_setCell]; exact hbc
              simp only at z3 z7
              generalize wc.setCell ⟨g, i * 9 + 5, none⟩ (.int .i64 (x.co + nk)) = w3 at *
              clear y3 y5 y7 yfz yp hgc hbc HX2 HC2
              have HC4 : Hid (Ch g i wr (w3.setCell ⟨g, i * 9 + 7, none⟩ (.int .i64 (x.ex + m - nk))).drew) := (HC3.out.set 7 (by omega) _).drew
              have HX4 : Hid (LotIn (w3.setCell ⟨g, i * 9 + 7, none⟩ (.int .i64 (x.ex + m - nk))).drew g (i * 9) (endp x m nk now)) := by
                have h := (HX3.out.set_ex (x.ex + m - nk)).turn ((Turn.refl [] _).drew) (by simp)
                have e : endp x m nk now = { x with he := x.he - m, co := x.co + nk, ex := x.ex + m - nk } := by
                  unfold endp
                  rw [if_pos hun]
                  congr 1
                  omega
                rw [e]
                exact h
              have HO5 := hide (HOk.out.ch hi HC4.out HX4.out)
              have HT5 := hide (HT.out.trans HC4.out.turn)
              clear HC3 HX3 HC4 HX4
              go_region_with (fail)
              all_goals
                go_wp2_with fail
                go_roundw
                case rel => exact ⟨k + 1, _, _, by omega, rfl, by go_num, by omega, by omega, by rw [List.length_set]; exact hll, HF2, HBn.out.mono (by omega), HO5, HT5.out⟩
                case measure => simp [intOf]; omega
            · have HX4 : Hid (LotIn (wc.setCell ⟨g, i * 9 + 5, none⟩ (.int .i64 (x.co + nk))) g (i * 9) (endp x m nk now)) := by
                have e : endp x m nk now = { x with he := x.he - m, co := x.co + nk } := by
                  unfold endp
                  rw [if_neg hun]
                rw [e]
                exact HX3.out
              have HO5 := hide (HOk.out.ch hi HC3.out HX4.out)
              have HT5 := hide (HT.out.trans HC3.out.turn)
              have hunb : decide (x.un ≤ now) = false := decide_eq_false hun
              clear HX4 HX2 HC2
              go_wp2_with fail
              go_roundw
              case rel => exact ⟨k + 1, _, _, by omega, rfl, by go_num, by omega, by omega, by rw [List.length_set]; exact hll, HF2, HBn.out.mono (by omega), HO5, HT5.out⟩
              case measure => simp [intOf]; omega
      · rw [if_neg hi] at HS
        rw [atOf_no hi]
        have HF2 := hide (HS.out.symm.trans HF.out)
        clear HS HF
        go_wp2_with fail
        go_roundw
        case rel => exact ⟨k + 1, lk, nk, by omega, rfl, by go_num, hnk0, hnk1, hll, HF2, HBk.out.mono (by omega), HOk, HT.out⟩
        case measure => simp [intOf]; omega
    · have HE : Hid (us now l p n = (lk, nk)) := by
        rw [Hid, ← HF.out, List.drop_of_length_le (by omega)]
        rfl
      clear HF
      go_wp2_with fail
      refine bodyPost_ret (v := .tuple #[.slice (some ⟨g, 0, none⟩) l.length c, .int .i64 nk]) (by simp [results, Try.results23, go_sem]) rfl ?_
      exact ⟨g, c, lk, nk, HE.out, rfl, hll, hg, HOk.out, HT1.out.then HT.out (by simp; exact hg)⟩

end Go.Proofs.Ytegbinlpojpffaa
