/-
  The law's few, walked.
-/
import Derived.Test.YtghgkjollafeiaaAQ
namespace Go.Proofs.Ytghgkjollafeiaa
open Go.RowKit

/-- What few asks. -/
structure Few (d : AccD) : Prop where
  nm : d.nm.size ≤ 255
  key : d.key.size ≤ 255
  pn : d.pn.size ≤ 255
  lots : d.lots.length ≤ 40
  holds : d.holds.length ≤ 40
  win : d.win.length ≤ 40
  ps : ∀ (i : Nat) (h : i < d.holds.length), d.holds[i].ps.length ≤ 40
  en : ∀ (i : Nat) (h : i < d.win.length), d.win[i].nm.size ≤ 255 ∧ 0 ≤ d.win[i].er ∧ d.win[i].er ≤ 255

/-- What few answers. -/
def FewP (d : AccD) (w : World) (e : Ending) (w' : World) : Prop := ∃ r : Bool, e = .returned (.bool r) ∧ (r = true → Few d) ∧ Turn [] w w'

set_option maxRecDepth 100000 in
set_option maxHeartbeats 6400000 in
theorem few_any {w : World} {cs : List Value} {d : AccD} {v1 v2 v3 : Value} {hcs : List (List Value)} (hI : AcIn w cs d v1 v2 v3 hcs) (z1 : d.nm.size ≤ maxLen) (z2 : d.key.size ≤ maxLen) (z3 : d.pn.size ≤ maxLen) (z4 : ∀ x ∈ d.win, x.nm.size ≤ maxLen) :
    Calls Try.prog 8 #[.agg cs.toArray] w fun e w' => FewP d w e w' := by
  obtain ⟨a1, k1, hv1, hk1, hm1, hat1⟩ := hI.r1.at
  obtain ⟨a2, k2, hv2, hk2, hm2, hat2⟩ := hI.r2.at
  obtain ⟨a3, k3, hv3, hk3, hm3, hat3⟩ := hI.r3.at
  rw [List.length_map] at hv1 hk1 hat1 hv3 hk3 hat3
  rw [hI.hl] at hv2 hk2 hat2
  unfold maxLen at hm1 hm2 hm3 z1 z2 z3
  have hT0 : Turn [] w (w.alloc (.cells cs.toArray 28)) := (Turn.refl [] w).alloc _
  have hs0 : (w.alloc (.cells cs.toArray 28)).heap.size = w.heap.size + 1 := by simp
  have hr := rng_new w cs cs.toArray 28 rfl
  have hA : AccAt (w.alloc (.cells cs.toArray 28)) w.heap.size d.nm d.key d.pn d.px d.t v1 d.n v2 v3 := AccAt.of (by rw [← hI.e]; exact hr) hI.lp hI.lt hI.ln
  have c0 := hA.nm
  have c1 := hA.key
  have c2 := hA.pn
  have c15 := hA.v1
  have c18 := hA.v2
  have c19 := hA.v3
  rw [hv1] at c15
  rw [hv2] at c18
  rw [hv3] at c19
  have HT0 := hide hT0
  have HI := hide hI
  have HAt2 := hide hat2
  have HAt3 := hide hat3
  have HSz := hide z4
  clear z4
  have HZ1 := hide z1
  have HZ2 := hide z2
  have HZ3 := hide z3
  clear hA hr hT0 hI hat1 hat2 hat3 hv1 hv2 hv3
  generalize hrk : w.heap.size = rk at *
  go_enter Try.func8, Try.ntmps8
  go_upto_region 2 with fail
  have HHrk := hide hrk
  have HS0 := hide hs0
  clear hrk hs0
  generalize w.alloc (.cells cs.toArray 28) = w0 at *
  generalize hZ : (wrap64 (wrap64 ((d.nm.size : Int) + (d.key.size : Int)) + (d.pn.size : Int))) = Z at *
  have HZ := hide hZ
  clear hZ
  by_cases k1 : 40 < d.lots.length
  · go_wp2_with fail
    go_ret
    exact ⟨false, rfl, (fun h => by cases h), HT0.out⟩
  ·
    by_cases k2 : 40 < d.holds.length
    · go_wp2_with fail
      go_ret
      exact ⟨false, rfl, (fun h => by cases h), HT0.out⟩
    ·
      by_cases k3 : 40 < d.win.length
      · go_wp2_with fail
        go_ret
        exact ⟨false, rfl, (fun h => by cases h), HT0.out⟩
      ·
        by_cases k4 : 300 < Z
        · go_wp2_with fail
          go_ret
          exact ⟨false, rfl, (fun h => by cases h), HT0.out⟩
        ·
          by_cases k5 : 255 < d.nm.size
          · go_wp2_with fail
            go_ret
            exact ⟨false, rfl, (fun h => by cases h), HT0.out⟩
          ·
            by_cases k6 : 255 < d.key.size
            · go_wp2_with fail
              go_ret
              exact ⟨false, rfl, (fun h => by cases h), HT0.out⟩
            ·
              by_cases k7 : 255 < d.pn.size
              · go_wp2_with fail
                go_ret
                exact ⟨false, rfl, (fun h => by cases h), HT0.out⟩
              ·
                clear HZ
                go_upto_block 0 with fail
                go_cut [4] from 18 to 109 (fun _ wx => wx = w0 ∧ Hid (∀ (i : Nat) (h : i < d.holds.length), d.holds[i].ps.length ≤ 40))
                case first =>
                  go_wp2_with fail
                  go_loop [4] (fun u => ∃ j : Nat, j ≤ d.holds.length ∧ u = .int .i64 (j : Nat) ∧ Hid (∀ (i : Nat) (h : i < d.holds.length), i < j → d.holds[i].ps.length ≤ 40)) (fun u => d.holds.length - (intOf u).toNat)
                  case atStart => exact ⟨0, by omega, rfl, fun i h k => by omega⟩
                  case round =>
                    obtain ⟨j, hj, rfl, HP⟩ := hrel
                    by_cases hlt : j < d.holds.length
                    · obtain ⟨ab, ao, ea, hX⟩ := HAt2.out (by omega)
                      subst ea
                      have hlt' : j < hcs.length := by rw [HI.out.hl]; exact hlt
                      have hx := hX j _ (List.getElem?_eq_getElem hlt')
                      obtain ⟨pv, hpe, hpl, hp2, hpr⟩ := HI.out.hh j hlt' hlt
                      obtain ⟨pa, kp, hpv, hpk, hpm, _⟩ := hpr.at
                      rw [hpe] at hx
                      rw [List.length_map] at hpv hpk
                      subst hpv
                      unfold maxLen at hpm
                      have hab : ab < rk := by rw [← HHrk.out]; exact lt_of_cell (hx 0 _ rfl)
                      have e1 : w0.cell? ⟨ab, ao + j * 4 + 1, none⟩ = some (.slice pa d.holds[j].ps.length kp) := (World.cell?_of_block (a := ⟨ab, ao + j * 4 + 1, none⟩) (HT0.out.block ab (by rw [HHrk.out]; exact hab) (by simp))).trans (hx 1 _ rfl)
                      have HNext : Hid (d.holds[j].ps.length ≤ 40 → ∀ (i : Nat) (h : i < d.holds.length), i < j + 1 → d.holds[i].ps.length ≤ 40) := fun hn i h hi => by
                        by_cases hij : i = j
                        · subst hij
                          exact hn
                        · exact HP.out i h (by omega)
                      generalize d.holds[j].ps.length = n at *
                      clear hX hx hpe hpr hpl hp2
                      by_cases hn : 40 < n
                      · go_wp2_with fail
                        go_ret
                        exact ⟨false, rfl, (fun h => by cases h), HT0.out⟩
                      · have HN2 := hide (HNext.out (by omega))
                        go_wp2_with fail
                        go_round
                        case rel => exact ⟨j + 1, hlt, by go_num, HN2⟩
                        case measure => simp [intOf]; omega
                    · obtain rfl : j = d.holds.length := by omega
                      go_wp2_with fail
                      go_meet
                      case rel => exact ⟨rfl, fun i h => HP.out i h h⟩
                case rest =>
                  rename World => w9
                  obtain ⟨rfl, HPs⟩ := hcut
                  go_wp2_with fail
                  go_loop [5] (fun u => ∃ j : Nat, j ≤ d.win.length ∧ u = .int .i64 (j : Nat) ∧ Hid (∀ (i : Nat) (h : i < d.win.length), i < j → d.win[i].nm.size ≤ 255 ∧ 0 ≤ d.win[i].er ∧ d.win[i].er ≤ 255)) (fun u => d.win.length - (intOf u).toNat)
                  case atStart => exact ⟨0, by omega, rfl, fun i h k => by omega⟩
                  case round =>
                    obtain ⟨j, hj, rfl, HP⟩ := hrel
                    by_cases hlt : j < d.win.length
                    · obtain ⟨ab, ao, ea, hX⟩ := HAt3.out (by omega)
                      subst ea
                      have hx := hX j _ (map_at hlt)
                      have hwe := HI.out.we _ (List.getElem_mem hlt)
                      have hab : ab < rk := by rw [← HHrk.out]; exact lt_of_cell (hx 0 _ rfl)
                      have hbb : w9.heap[ab]? = w.heap[ab]? := HT0.out.block ab (by rw [HHrk.out]; exact hab) (by simp)
                      have HNext : Hid (d.win[j].nm.size ≤ 255 ∧ 0 ≤ d.win[j].er ∧ d.win[j].er ≤ 255 → ∀ (i : Nat) (h : i < d.win.length), i < j + 1 → d.win[i].nm.size ≤ 255 ∧ 0 ≤ d.win[i].er ∧ d.win[i].er ≤ 255) := fun hn i h hi => by
                        by_cases hij : i = j
                        · subst hij
                          exact hn
                        · exact HP.out i h (by omega)
                      have hsz := HSz.out _ (List.getElem_mem hlt)
                      generalize d.win[j] = e at *
                      obtain ⟨l1, l2, l3, hl3⟩ := list3 e.l hwe.1
                      obtain ⟨s1, s2, s3, s4, s5, s6, s7, s8, hs8⟩ := list8' e.xs hwe.2
                      have hec : entC e = [.int .i64 e.id, .int .i64 e.er, .int .i64 l1, .int .i64 l2, .int .i64 l3, .string e.nm, .int .i64 s1, .int .i64 s2, .int .i64 s3, .int .i64 s4, .int .i64 s5, .int .i64 s6, .int .i64 s7, .int .i64 s8] := by
                        unfold entC
                        rw [hl3, hs8]
                        rfl
                      rw [hec] at hx
                      have e1 : w9.cell? ⟨ab, ao + j * 14 + 1, none⟩ = some (.int .i64 e.er) := (World.cell?_of_block (a := ⟨ab, ao + j * 14 + 1, none⟩) hbb).trans (hx 1 _ rfl)
                      have e5 : w9.cell? ⟨ab, ao + j * 14 + 5, none⟩ = some (.string e.nm) := (World.cell?_of_block (a := ⟨ab, ao + j * 14 + 5, none⟩) hbb).trans (hx 5 _ rfl)
                      generalize e.er = er at *
                      generalize e.nm = nm at *
                      unfold maxLen at hsz
                      clear hX hx hbb hwe hl3 hs8 hec
                      by_cases h1 : 255 < nm.size
                      · go_wp2_with fail
                        go_ret
                        exact ⟨false, rfl, (fun h => by cases h), HT0.out⟩
                      · by_cases h2 : er < 0
                        · go_wp2_with fail
                          go_ret
                          exact ⟨false, rfl, (fun h => by cases h), HT0.out⟩
                        · by_cases h3 : 255 < er
                          · go_wp2_with fail
                            go_ret
                            exact ⟨false, rfl, (fun h => by cases h), HT0.out⟩
                          · have HN2 := hide (HNext.out ⟨by omega, by omega, by omega⟩)
                            go_wp2_with fail
                            go_round
                            case rel => exact ⟨j + 1, hlt, by go_num, HN2⟩
                            case measure => simp [intOf]; omega
                    · obtain rfl : j = d.win.length := by omega
                      go_wp2_with fail
                      go_ret
                      exact ⟨true, rfl, fun _ => ⟨by omega, by omega, by omega, by omega, by omega, by omega, HPs.out, fun i h => HP.out i h h⟩, HT0.out⟩
end Go.Proofs.Ytghgkjollafeiaa
