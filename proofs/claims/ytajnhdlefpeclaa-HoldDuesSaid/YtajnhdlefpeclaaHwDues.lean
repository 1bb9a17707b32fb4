/-
  HoldDues, walked.
-/
import Derived.Test.YtajnhdlefpeclaaHKnown
import Derived.Test.YtajnhdlefpeclaaHDue
import Derived.Test.YtajnhdlefpeclaaHSame
import Derived.Test.YtajnhdlefpeclaaHPlain
import Derived.Test.YtajnhdlefpeclaaLFrame
namespace Go.Proofs.Ytajnhdlefpeclaa.Ho
open Go.RowKit Go.Maps

theorem due_split (l : List Hd) (now : Int) (k : Nat) (hk : k < l.length) (hd : (l.getD k Hd.nil).un ≤ now) : (due (l.take k) now).length < (due l now).length ∧ (due l now).getD (due (l.take k) now).length Hd.nil = l.getD k Hd.nil := by
  have hg : l.getD k Hd.nil = l[k] := by rw [List.getD_eq_getElem?_getD, List.getElem?_eq_getElem hk]; rfl
  have e : due l now = due (l.take k) now ++ (l[k] :: due (l.drop (k + 1)) now) := by
    conv => lhs; rw [← List.take_append_drop k l]
    unfold due
    rw [List.filter_append, List.drop_eq_getElem_cons hk, List.filter_cons_of_pos (by rw [hg] at hd; simpa using hd)]
  rw [e]
  refine ⟨by simp, ?_⟩
  rw [List.getD_eq_getElem?_getD, List.getElem?_append_right (Nat.le_refl _), Nat.sub_self, hg]
  rfl
theorem due_take_yes (l : List Hd) (now : Int) (k : Nat) (hk : k < l.length) (hd : (l.getD k Hd.nil).un ≤ now) : (due (l.take (k + 1)) now).length = (due (l.take k) now).length + 1 := by
  unfold due
  rw [filter_take_step _ hk, decide_eq_true hd, List.length_append]
  rfl
theorem due_take_no (l : List Hd) (now : Int) (k : Nat) (hk : k < l.length) (hd : ¬ (l.getD k Hd.nil).un ≤ now) : (due (l.take (k + 1)) now).length = (due (l.take k) now).length := by
  unfold due
  rw [filter_take_step _ hk, decide_eq_false hd, List.length_append]
  rfl
theorem mem_due {l : List Hd} {n : Int} {x : Hd} : x ∈ due l n ↔ x ∈ l ∧ x.un ≤ n := by unfold due; rw [List.mem_filter]; simp
theorem due_le {l : List Hd} {m n : Int} (h : m ≤ n) : (due l m).length ≤ (due l n).length := by
  unfold due
  induction l with
  | nil => exact Nat.le_refl _
  | cons x l ih =>
    rw [List.filter_cons, List.filter_cons]
    by_cases h1 : x.un ≤ m
    · have h2 : x.un ≤ n := by omega
      simp [h1, h2, ih]
    · by_cases h2 : x.un ≤ n
      · simp [h1, h2]; omega
      · simp [h1, h2, ih]
theorem due_all {l : List Hd} {n : Int} (h : ∀ x ∈ l, x.un ≤ n) : due l n = l := List.filter_eq_self.2 fun a ha => by simpa using h a ha
theorem due_len {l : List Hd} (n : Int) : (due l n).length ≤ l.length := List.length_filter_le _ _
/-- All that are put are due at last. -/
def Last (l : List Hd) : Prop := ∀ x ∈ l, x.un ≤ 9223372036854775807
theorem Last.put {l : List Hd} (h : Last l) {x : Hd} (hx : x.un ≤ 9223372036854775807) : Last (put l x) := fun y hy => by
  rcases List.mem_append.1 hy with h1 | h1
  · exact h y (mem_lo.1 h1).1
  · rcases List.mem_cons.1 h1 with rfl | h1
    · exact hx
    · exact h y (mem_hi.1 h1).1

set_option maxRecDepth 100000 in
set_option maxHeartbeats 6000000 in
theorem dues_any (a : Option Addr) (c : Nat) (l : List Int) (now later : Int) (w : World) (hmax : ∀ k, k < l.length → l.getD k 0 ≤ 9223372036854775807) (hL : NumsAt w a l) :
    Calls Try.prog 6 #[.slice a l.length c, .int .i64 now, .int .i64 later] w fun e w' => e = .returned (.bool true) ∧ Turn [] w w' := by
  have HL := hide hL
  have HM := hide hmax
  clear hL hmax
  go_enter Try.func6, Try.ntmps6
  go_wp2_with fail
  refine (known_any w).mono ?_
  rintro e w1 ⟨rfl, hT1⟩
  have HT1 := hide hT1
  clear hT1
  go_wp2_with fail
  go_loopw [7, 8] (fun u i wr => ∃ (k : Nat) (lk : List Hd) (ak : Option Addr) (ck : Nat), k ≤ l.length ∧ k ≤ 20 ∧ u = .slice ak lk.length ck ∧ i = .int .i64 k ∧ lk.length ≤ k ∧ Hid (HoldsAt wr ak ck lk) ∧ Hid (Up lk) ∧ Hid (Fit 1000 lk) ∧ Hid (Last lk) ∧ Turn [] w wr) (fun _ i _ => 20 - (intOf i).toNat)
  case atStart => exact ⟨0, [], none, 0, Nat.zero_le _, by omega, rfl, rfl, Nat.le_refl _, HoldsAt.nil _, Up.nil, fun x hx => by simp at hx, fun x hx => by simp at hx, HT1.out⟩
  case round =>
    obtain ⟨k, lk, ak, ck, hk, hk2, rfl, rfl, hlk, HH, HU, HF, HLa, hT⟩ := hrel
    have HT := hide hT
    clear hT
    by_cases hlt : k < l.length ∧ k < 20
    · obtain ⟨hlt, hk20⟩ := hlt
      obtain ⟨b, off, rfl, hc⟩ := (HL.out.turn0 HT.out).at hlt
      have hbw := lt_of_cell hc
      have HMx := hide (HM.out k hlt)
      generalize l.getD k 0 = x at *
      go_wp2_with fail
      generalize (k : Int) * 7 % 20 + 1 = y at *
      refine (put_any ak ck lk (bare y 0 x) wr HU.out (by omega) HF.out HH.out (bare_ok _ _ _ _) (by simp [bare])).mono ?_
      rintro e w2 ⟨a2, c2, rfl, hH2, hT2⟩
      have HH2 := hide hH2
      have HT2 := hide (HT.out.trans hT2)
      have HU2 := hide (up_put HU.out (bare y 0 x).x)
      have HF2 : Hid (Fit 1000 (put lk (bare y 0 x).x)) := HF.out.put (by simp [bare])
      have HL2 : Hid (Last (put lk (bare y 0 x).x)) := HLa.out.put HMx.out
      have hl2 := put_length lk (bare y 0 x).x
      generalize put lk (bare y 0 x).x = l2 at *
      clear hH2 hT2 HH HT HU HF hc
      go_wp2_with fail
      go_roundw
      case rel => exact ⟨k + 1, l2, a2, c2, by omega, by omega, rfl, by go_num, by omega, HH2, HU2, HF2, HL2, HT2.out⟩
      case measure => simp [intOf]; omega
    · have hcs : (¬ k < l.length) ∨ (k < l.length ∧ ¬ k < 20) := by
        by_cases h : k < l.length
        · exact .inr ⟨h, fun h2 => hlt ⟨h, h2⟩⟩
        · exact .inl h
      clear hlt
      by_cases hok : 0 ≤ later ∧ later ≤ 1000 ∧ -1000000 ≤ now ∧ now ≤ 1000000
      · obtain ⟨o1, o2, o3, o4⟩ := hok
        rcases hcs with h1 | ⟨h1, h2⟩
        all_goals
          go_wp2_with fail
          refine (due_any ak ck lk now wr (by omega) HF.out HH.out).mono ?_
          rintro e w2 ⟨a2, c2, rfl, hH2, hT2⟩
          have HH2 := hide hH2
          have HT2 := hide (HT.out.trans hT2)
          have HHl := hide (HH.out.turn0 hT2)
          clear hH2 hT2 HT HH
          go_wp2_with fail
          refine (due_any ak ck lk (now + later) w2 (by omega) HF.out HHl.out).mono ?_
          rintro e w3 ⟨a3, c3, rfl, hH3, hT3⟩
          have HB := hide hH3
          have HA := hide (HH2.out.turn0 hT3)
          have HT3 := hide (HT2.out.trans hT3)
          have HHl3 := hide (HHl.out.turn0 hT3)
          clear hH3 hT3 HT2 HH2 HHl
          have hla := due_len (l := lk) now
          have hlb := due_len (l := lk) (now + later)
          have HS := hide (due_split lk now)
          have HY := hide (due_take_yes lk now)
          have HN := hide (due_take_no lk now)
          have HAe : Hid (due lk now = due lk now) := rfl
          have HUb : Hid (Up (due lk (now + later))) := HU.out.filter _
          have HFb : Hid (Fit 1000 (due lk (now + later))) := HF.out.filter _
          have HMb : Hid (∀ x ∈ lk, x.un ≤ now → (fnd (due lk (now + later)) x.id).isSome = true) := fun x hx hu => by
            rw [fnd_mem HUb.out (mem_due.2 ⟨hx, by omega⟩)]
            rfl
          have hab : (due lk now).length ≤ (due lk (now + later)).length := due_le (by omega)
          have HEnd : Hid (due (lk.take lk.length) now = due lk now) := by unfold Hid; rw [List.take_of_length_le (Nat.le_refl _)]
          generalize due lk now = da at *
          generalize due lk (now + later) = db at *
          go_wp2_with fail
          go_loopw [11, 12] (fun u i wr => ∃ (k : Nat), k ≤ lk.length ∧ u = .int .i64 ((due (lk.take k) now).length : Nat) ∧ i = .int .i64 k ∧ Turn [] w3 wr) (fun _ i _ => lk.length - (intOf i).toNat)
          case atStart => exact ⟨0, Nat.zero_le _, by simp [due], rfl, Turn.refl _ _⟩
          case round =>
            obtain ⟨j, hj, rfl, rfl, hT4⟩ := hrel
            have HT4 := hide hT4
            clear hT4
            by_cases hjl : j < lk.length
            · obtain ⟨b, off, r, rfl, ⟨x0, x1, x2, x3⟩, hr, _⟩ := (HHl3.out.turn0 HT4.out).at hjl
              have hb := lt_of_cell x0
              by_cases hu : r.x.un ≤ now
              · obtain ⟨hn, hg⟩ := HS.out j hjl (by rw [← hr]; exact hu)
                have hy := HY.out j hjl (by rw [← hr]; exact hu)
                have HI := hide (HMb.out (lk.getD j Hd.nil) (mem_getD hjl) (by rw [← hr]; exact hu))
                rw [← hr] at hg HI
                generalize (due (lk.take j) now).length = n at *
                obtain ⟨b2, off2, r2, rfl, ⟨z0, _, _, _⟩, hr2, _⟩ := (HA.out.turn0 HT4.out).at hn
                rw [hr2, hg] at z0
                have hb2 := lt_of_cell z0
                have HYn := hide hy
                clear hr hg hr2 hy
                have hn1 : decide ((da.length : Int) ≤ (n : Int)) = false := decide_eq_false (by omega)
                go_wp2_with fail
                go_quiet (fail)
                have HT5 := hide (HT4.out.drewN nq)
                have x0' : (wr.drewN nq).cell? ⟨b, off + j * 4, none⟩ = some (.int .i64 r.x.id) := x0
                have hb' : b < (wr.drewN nq).heap.size := hb
                generalize wr.drewN nq = wq at *
                clear x0 x1 x2 x3 z0 HT4 hb hb2
                go_wp2_with fail
                refine (find_any a3 c3 db r.x.id wq HUb.out (by omega) HFb.out (HB.out.turn0 HT5.out)).mono ?_
                rintro e w6 ⟨r6, rfl, _, _, hT6⟩
                rw [HI.out]
                have HT6 := hide (HT5.out.trans hT6)
                clear hT6 HT5
                go_wp2_with fail
                go_roundw
                case rel => exact ⟨j + 1, by omega, by rw [HYn.out]; rfl, by go_num, HT6.out.alloc _⟩
                case measure => simp [intOf]; omega
              · have hy := HN.out j hjl (by rw [← hr]; omega)
                clear hr
                generalize (due (lk.take j) now).length = n at *
                have HYn := hide hy
                clear hy
                go_wp2_with fail
                go_roundw
                case rel => exact ⟨j + 1, by omega, by rw [HYn.out], by go_num, HT4.out⟩
                case measure => simp [intOf]; omega
            · obtain rfl : j = lk.length := by omega
              rw [HEnd.out]
              go_wp2_with fail
              have HC := hide (due_any ak ck lk 9223372036854775807 wr (by omega) HF.out (HHl3.out.turn0 HT4.out))
              rw [due_all HLa.out] at HC
              refine HC.out.mono ?_
              rintro e w6 ⟨a6, c6, rfl, hH6, hT6⟩
              have HH6 := hide hH6
              have HT6 := hide (HT4.out.trans hT6)
              clear hH6 hT6 HC HT4
              go_wp2_with fail
              refine (sameHolds_any a6 ak c6 ck lk w6 (by omega) HF.out HH6.out (HHl3.out.turn0 HT6.out)).mono ?_
              rintro e w7 ⟨rfl, m, rfl⟩
              have HT7 := hide ((HT3.out.trans HT6.out).drewN m)
              generalize w6.drewN m = w7 at *
              clear HT6
              go_wp2_with fail
              go_ret
              exact ⟨rfl, HT7.out⟩
      · have hcs2 : later < 0 ∨ (0 ≤ later ∧ 1000 < later) ∨ (0 ≤ later ∧ later ≤ 1000 ∧ now < -1000000) ∨ (0 ≤ later ∧ later ≤ 1000 ∧ -1000000 ≤ now ∧ 1000000 < now) := by omega
        clear hok
        rcases hcs with h1 | ⟨h1, h2⟩
        all_goals
          rcases hcs2 with h3 | ⟨h3, h4⟩ | ⟨h3, h4, h5⟩ | ⟨h3, h4, h5, h6⟩
          all_goals
            go_wp2_with fail
            go_ret
            exact ⟨rfl, HT.out⟩

end Go.Proofs.Ytajnhdlefpeclaa.Ho
