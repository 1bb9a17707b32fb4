/-
  Of of the program, walked.
-/
import Derived.Test.YtllbcbodfahidaaDoorNum
import Derived.Deep.RegionWith
import Derived.BigRegion
namespace Go.Proofs.YtllbcbodfahidaaDoor
open Go.RowKit Cal

theorem Turn.setNew {S : List Nat} {u w : World} (h : Turn S u w) {b : Nat} (hb : u.heap.size ≤ b) (o : Nat) (v : Value) : Turn S u (w.setCell ⟨b, o, none⟩ v) :=
  ⟨h.os, h.tape, h.output, by rw [World.size_setCell]; exact h.size, fun i hi hn => (Below.heap_setCell w ⟨b, o, none⟩ v i (fun e => by have : i = b := e; omega)).trans (h.block i hi hn)⟩
theorem DateAt.set0 {w : World} {g : Nat} {y m d : Int} (h : DateAt w g y m d) (y' : Int) : DateAt (w.setCell ⟨g, 0, none⟩ (.int .i64 y')) g y' m d :=
  ⟨World.cell?_setCell_same _ _ _ h.c0, by rw [World.cell?_setCell_other _ _ _ _ (off_ne (by omega))]; exact h.c1, by rw [World.cell?_setCell_other _ _ _ _ (off_ne (by omega))]; exact h.c2, fun o => by rw [World.frozen?_setCell]; exact h.fz o⟩
theorem DateAt.set1 {w : World} {g : Nat} {y m d : Int} (h : DateAt w g y m d) (m' : Int) : DateAt (w.setCell ⟨g, 1, none⟩ (.int .i64 m')) g y m' d :=
  ⟨by rw [World.cell?_setCell_other _ _ _ _ (off_ne (by omega))]; exact h.c0, World.cell?_setCell_same _ _ _ h.c1, by rw [World.cell?_setCell_other _ _ _ _ (off_ne (by omega))]; exact h.c2, fun o => by rw [World.frozen?_setCell]; exact h.fz o⟩
theorem DateAt.set2 {w : World} {g : Nat} {y m d : Int} (h : DateAt w g y m d) (d' : Int) : DateAt (w.setCell ⟨g, 2, none⟩ (.int .i64 d')) g y m d' :=
  ⟨by rw [World.cell?_setCell_other _ _ _ _ (off_ne (by omega))]; exact h.c0, by rw [World.cell?_setCell_other _ _ _ _ (off_ne (by omega))]; exact h.c1, World.cell?_setCell_same _ _ _ h.c2, fun o => by rw [World.frozen?_setCell]; exact h.fz o⟩

set_option maxRecDepth 100000 in
set_option maxHeartbeats 1000000 in
theorem of_no (n : Int) (w : World) (h : n < -719162 ∨ 2932896 < n) :
    Calls Tryd.prog 30 #[.int .i64 n] w fun e w' => e = .returned (.tuple #[.agg #[.int .i64 0, .int .i64 0, .int .i64 0], .int .i64 1]) ∧ Turn [] w w' := by
  have n1 : ∀ W, Calls Tryd.prog 32 #[.int .i64 1] W fun e w' => e = .returned (.int .i64 (-719162)) ∧ w' = W := fun W => (newYear_any 1 W (by omega) (by omega)).mono fun e w' h => by rw [show dby 1 - 719162 = -719162 by decide] at h; exact h
  have n2 : ∀ W, Calls Tryd.prog 32 #[.int .i64 10000] W fun e w' => e = .returned (.int .i64 2932897) ∧ w' = W := fun W => (newYear_any 10000 W (by omega) (by omega)).mono fun e w' h => by rw [show dby 10000 - 719162 = 2932897 by decide] at h; exact h
  by_cases h1 : n < -719162
  · go_enter Tryd.func30, Tryd.ntmps30
    go_wp2_with (go_at_call 32; refine (n1 _).mono ?_; rintro e w' ⟨rfl, rfl⟩)
    exact bodyPost_ret (v := .tuple #[.agg #[.int .i64 0, .int .i64 0, .int .i64 0], .int .i64 1]) (by simp [results, Tryd.results30, go_sem]) rfl ⟨rfl, (Turn.refl [] w).alloc _⟩
  · have h2 : 2932896 < n := by omega
    go_enter Tryd.func30, Tryd.ntmps30
    go_wp2_with fail
    refine (n1 _).mono ?_
    rintro e w' ⟨rfl, rfl⟩
    go_wp2_with fail
    refine (n2 _).mono ?_
    rintro e w' ⟨rfl, rfl⟩
    go_wp2
    exact bodyPost_ret (v := .tuple #[.agg #[.int .i64 0, .int .i64 0, .int .i64 0], .int .i64 1]) (by simp [results, Tryd.results30, go_sem]) rfl ⟨rfl, (Turn.refl [] w).alloc _⟩

/-- The month of a date in memory. -/
def monthOf (w : World) (g : Nat) : Int :=
  match w.cell? ⟨g, 1, none⟩ with
  | some (.int _ m) => m
  | _ => 0
theorem DateAt.month {w : World} {g : Nat} {y m d : Int} (h : DateAt w g y m d) : monthOf w g = m := by unfold monthOf; rw [h.c1]

set_option maxRecDepth 100000 in
set_option maxHeartbeats 1000000 in
theorem of_yes (n : Int) (w : World) (hTab : Tab w) (h1 : -719162 ≤ n) (h2 : n ≤ 2932896) :
    Calls Tryd.prog 30 #[.int .i64 n] w fun e w' => ∃ y m d : Int, e = .returned (.tuple #[.agg #[.int .i64 y, .int .i64 m, .int .i64 d], .int .i64 0]) ∧ vldB y m d = true ∧ num y m d = n ∧ Turn [] w w' := by
  have n1 : ∀ W, Calls Tryd.prog 32 #[.int .i64 1] W fun e w' => e = .returned (.int .i64 (-719162)) ∧ w' = W := fun W => (newYear_any 1 W (by omega) (by omega)).mono fun e w' h => by rw [show dby 1 - 719162 = -719162 by decide] at h; exact h
  have n2 : ∀ W, Calls Tryd.prog 32 #[.int .i64 10000] W fun e w' => e = .returned (.int .i64 2932897) ∧ w' = W := fun W => (newYear_any 10000 W (by omega) (by omega)).mono fun e w' h => by rw [show dby 10000 - 719162 = 2932897 by decide] at h; exact h
  have HTab := hide hTab
  clear hTab
  go_enter Tryd.func30, Tryd.ntmps30
  go_wp2_with fail
  refine (n1 _).mono ?_
  rintro e w' ⟨rfl, rfl⟩
  go_wp2_with fail
  refine (n2 _).mono ?_
  rintro e w' ⟨rfl, rfl⟩
  go_wp2_with fail
  have HR := hide (DateAt.new w 0 0 0 33)
  have HT := hide ((Turn.refl [] w).alloc (.cells #[.int .i64 0, .int .i64 0, .int .i64 0] 33))
  refine (yearOf_any n _ h1 h2).mono ?_
  rintro e w1 ⟨y, rfl, hy1, hy2, hlo, hhi, hT1⟩
  have HR1 := hide (HR.out.turn hT1)
  have HT1 := hide (HT.out.trans hT1)
  have hrl := HR1.out.lt
  clear HR HT hT1 n1 n2
  generalize hg : w.heap.size = g at *
  have hgw : w.heap.size ≤ g := by omega
  clear hg
  have hdb := dby_bd y (by omega) (by omega)
  have HN := hide (fun W => newYear_any y W hy1 (by omega))
  go_wp2_with fail
  refine (HN.out _).mono ?_
  rintro e w2 ⟨rfl, rfl⟩
  go_wp2_with fail
  have HD := hide (DateAt.new w2 y 1 (n - (dby y - 719162) + 1) 33)
  have HR2 := hide (HR1.out.turn ((Turn.refl [] w2).alloc (.cells #[.int .i64 y, .int .i64 1, .int .i64 (n - (dby y - 719162) + 1)] 33)))
  have HT2 := hide (HT1.out.alloc (.cells #[.int .i64 y, .int .i64 1, .int .i64 (n - (dby y - 719162) + 1)] 33))
  have hk : w.heap.size ≤ w2.heap.size := HT1.out.size
  have hgk : g < w2.heap.size := hrl
  clear HR1 HT1 hrl HN
  generalize w2.alloc (.cells #[.int .i64 y, .int .i64 1, .int .i64 (n - (dby y - 719162) + 1)] 33) = w3 at *
  generalize w2.heap.size = k at *
  have hlp := lp_01 y
  have HS := hide (dby_succ y)
  have hn366 : n < dby y - 719162 + 366 := by rw [HS.out] at hhi; omega
  have HHI := hide hhi
  clear hhi
  go_loopw [24] (fun _ wr => ∃ m d : Int, DateAt wr k y m d ∧ DateAt wr g 0 0 0 ∧ Turn [] w wr ∧ (1 ≤ m ∧ m ≤ 12) ∧ 1 ≤ d ∧ dby y - 719162 + cum y m + d - 1 = n) (fun _ wr => (13 - monthOf wr k).toNat)
  case atStart => exact ⟨1, _, HD.out, HR2.out, HT2.out, by omega, by omega, by rw [cum_one]; omega⟩
  case round =>
    obtain ⟨m, d, hD, hR, hT, ⟨hm1, hm2⟩, hd, hn⟩ := hrel
    clear HD HR2 HT2 
    have hcb := cum_bd y m hm1 (by omega)
    have hlb := len_bd y m
    have hcs := cum_succ y m hm1 hm2
    have hd366 : d ≤ 366 := by omega
    have HW := hide hD.month
    have HTabr := hide (HTab.out.turn hT)
    have HD := hide hD
    have HR := hide hR
    have HT := hide hT
    have HNN := hide hn
    have HCS := hide hcs
    obtain ⟨c0, c1, c2, fz⟩ := hD
    clear hR hT hn hcs
    by_cases hlt : len y m < d
    · have hm12 : m < 12 := by
        rcases Int.lt_or_le m 12 with h | h
        · exact h
        · obtain rfl : m = 12 := by omega
          have h13 := cum_13 y
          have a := HCS.out
          rw [show (12 : Int) + 1 = 13 from rfl] at a
          have b := HNN.out
          have c := HHI.out
          have e := HS.out
          omega
      have dl : decide (len y m < d) = true := by simpa using hlt
      have wl : IntKind.i64.wrap (d - len y m) = d - len y m := by rw [IntKind.wrap_i64]; omega
      go_wp2_with fail
      go_quiet ((go_at_call 31; exact Calls.quiet_of_same (length_any y m _ (HTabr.out.turn ((Turn.refl [] _).drewN _)))))
      go_wp2_with fail
      have HD5 := hide (HD.out.turn ((Turn.refl [] wr).drewN nq))
      have HR5 := hide (HR.out.turn ((Turn.refl [] wr).drewN nq))
      have HT5 := hide (HT.out.drewN nq)
      have HB5 := hide (HTabr.out.turn ((Turn.refl [] wr).drewN nq))
      generalize wr.drewN nq = w5 at *
      clear c0 c1 c2 fz
      obtain ⟨c0, c1, c2, fz⟩ := HD5.out
      have fz2 := fz 2
      have fz1 := fz 1
      clear fz dl HD HR HT HTabr
      go_region_with (go_at_call 31; refine (length_any _ _ _ (HB5.out.turn ((Turn.refl [] _).drew))).mono ?_; rintro e w' ⟨rfl, rfl⟩)
      all_goals
        have HD6 := hide ((HD5.out.set2 (d - len y m)).turn (Turn.refl [] _).drew)
        have HR6 := hide (HR5.out.keep (w' := (w5.setCell ⟨k, 2, none⟩ (.int .i64 (d - len y m))).drew) (Below.heap_setCell w5 ⟨k, 2, none⟩ _ g (fun e => by have : g = k := e; omega)))
        have HT6 := hide ((HT5.out.setNew hk 2 (.int .i64 (d - len y m))).drew)
        have HM := hide HW
        generalize (w5.setCell ⟨k, 2, none⟩ (.int .i64 (d - len y m))).drew = w6 at *
        clear c0 c1 c2 fz1 fz2 HD5 HR5 HT5 HB5
        obtain ⟨-, c1, -, fz⟩ := HD6.out
        have fz1 := fz 1
        clear fz
        go_wp2_with fail
        go_roundw
        case rel => 
          have a := HCS.out
          have b := HNN.out
          exact ⟨m + 1, d - len y m, HD6.out.set1 (m + 1), HR6.out.keep (Below.heap_setCell w6 ⟨k, 1, none⟩ _ g (fun e => by have : g = k := e; omega)), HT6.out.setNew hk 1 _, by omega, by omega, by omega⟩
        case measure => 
          rw [(HD6.out.set1 (m + 1)).month, HW.out]
          omega
    · have hv : vldB y m d = true := by rw [vld_iff]; omega
      have dl : decide (len y m < d) = false := by simpa using hlt
      go_wp2_with fail
      go_quiet ((go_at_call 31; exact Calls.quiet_of_same (length_any y m _ (HTabr.out.turn ((Turn.refl [] _).drewN _)))))
      have HD5 := hide (HD.out.turn ((Turn.refl [] wr).drewN nq))
      have HR5 := hide (HR.out.turn ((Turn.refl [] wr).drewN nq))
      have HT5 := hide (HT.out.drewN nq)
      generalize wr.drewN nq = w5 at *
      clear c0 c1 c2 fz
      obtain ⟨c0, c1, c2, -⟩ := HD5.out
      obtain ⟨r0, r1, r2, rz⟩ := HR5.out
      have rz0 := rz 0
      have rz1 := rz 1
      have rz2 := rz 2
      clear rz
      go_wp2_with fail
      have HF := hide (((HR5.out.set0 y).set1 m).set2 d)
      have HTF := hide (((HT5.out.setNew hgw 0 (.int .i64 y)).setNew hgw 1 (.int .i64 m)).setNew hgw 2 (.int .i64 d))
      generalize ((w5.setCell ⟨g, 0, none⟩ (.int .i64 y)).setCell ⟨g, 1, none⟩ (.int .i64 m)).setCell ⟨g, 2, none⟩ (.int .i64 d) = w6 at *
      obtain ⟨f0, f1, f2, -⟩ := HF.out
      exact bodyPost_ret (v := .tuple #[.agg #[.int .i64 y, .int .i64 m, .int .i64 d], .int .i64 0]) (by simp [results, Tryd.results30, go_sem, f0, f1, f2]) rfl ⟨y, m, d, rfl, hv, HNN.out, HTF.out⟩

end Go.Proofs.YtllbcbodfahidaaDoor
