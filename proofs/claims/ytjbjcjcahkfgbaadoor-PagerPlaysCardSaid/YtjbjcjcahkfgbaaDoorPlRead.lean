/-
  The law PagerPlays, the arm that reads.
-/
import Derived.Test.YtjbjcjcahkfgbaaDoorPlFree
import Derived.Deep.QuietTactic
import Derived.BigQuiet
namespace Go.Proofs.YtjbjcjcahkfgbaaDoor.Pl
open Go.RowKit Go.Maps

set_option maxRecDepth 100000 in
set_option maxHeartbeats 3200000 in
theorem arm2_any (w0 w : World) (L : Array Value) (Q : Exit → Act → World → Prop) (N : Nat) (ca : Option Addr) (cn cc b m p sm rb j : Nat) (s : St) (q : Pg) (vA vD : Value) (all done : List (Nat × List Nat)) (news wrote cb : Nat) (kk : Int)
    (hj : j < 120) (hS : Slots L N ca cn cc b p vA vD (textOf q.root) q.c news wrote j) (hS2 : Slots2 L cb kk) (hP : P3 w0 w N b m p sm rb j s q vA vD all done news wrote)
    (hQ : ∀ (L' : Array Value) (w' : World) (r : Bool), Slots L' N ca cn cc b p vA vD (textOf q.root) q.c news wrote j → P3 w0 w' N b m p sm rb j s { q with rd := r } vA vD all done news wrote → Q .normal ⟨L', []⟩ w') :
    Code.wp Tryd.prog arm2 Q ⟨L, []⟩ w := by
  rw [lit L hS.size, hS.s0, hS.s1, hS.s5, hS.s7, hS.s9, hS.s10, hS.s11, hS.s12, hS.s13, hS.s14, hS.s15, hS2.s16, hS2.s17]
  generalize g L = u
  have HQ := hide hQ
  have HP := hide hP
  have hlA := hP.lenA
  have hlD := hP.lenD
  have huu := hP.u
  have hkk := hP.k
  obtain ⟨aA, cA, rfl, hPA, _⟩ := hP.rowA.slice
  obtain ⟨aD, cD, rfl, hPD, _⟩ := hP.rowD.slice
  have HPA := hide hPA
  have HPD := hide hPD
  clear hS hS2 hQ hP hPA hPD
  conv => arg 2; whnf
  by_cases ht : q.thereI s.n kk = true
  · obtain ⟨n, rfl, _, _, _⟩ := Pg.there_range ht
    have hm := (there_in HP.out n).1 ht
    have HT := hide ht
    have HM := hide hm
    obtain ⟨z, hz, hzn⟩ := List.mem_map.1 hm
    obtain ⟨hz1, hz2⟩ := HP.out.plain.af z hz
    rw [hzn] at hz2
    have HZ := hide hz2
    have HZA := hide hz
    have HZN := hide hzn
    clear ht hm hz2 hz hzn
    go_wp2_with fail
    refine (read_yes p b m sm rb s q HP.out.live HP.out.qlive n HT.out z.2 hz1 HZ.out w HP.out.pat).mono ?_
    rintro e w1 ⟨g1, o1, hg1, hg1', rfl, hB1, _, hA1, hT1⟩
    have HP1 := hide (HP.out.rd hA1 hT1)
    have HPA1 := hide (HPA.out.turn hT1 (fun x hl hx => by
      have := HP.out.offA x.block (by rw [hx]; rfl)
      simp; omega))
    have HB1 := hide hB1
    have Hnd := hide HP.out.plain.nd
    clear hA1 hT1 HP hB1
    go_wp2_with fail
    refine (at_any aA cA all n (by omega) w1 HPA1.out).mono ?_
    rintro e w2 ⟨v, rfl, hv, rfl⟩
    obtain ⟨_, _, i, hi, rfl, hin⟩ := place_yes hv n rfl HM.out
    obtain ⟨ga, rfl, _, hs3⟩ := HPA1.out.at hi
    have HE : Hid (all[i].2 = z.2) := by
      show _ = _
      obtain ⟨i', hi', e'⟩ := List.getElem_of_mem HZA.out
      have hnd : (all.map Prod.fst).Nodup := Hnd.out
      have : i = i' := by
        have h1 : (all.map Prod.fst)[i]'(by simpa using hi) = (all.map Prod.fst)[i']'(by simpa using hi') := by
          rw [List.getElem_map, List.getElem_map, hin, e', HZN.out]
        exact (List.getElem_inj hnd).1 h1
      subst this
      rw [e']
    rw [HE.out] at hs3
    have hcv3 := fun nn => text_at (HB1.out.turn ((Turn.refl [] w2).drewN nn) (by simp)) z.2.length z.2.length rfl
    clear hv hin HE HZA HZN Hnd HM HT HZ
    generalize textOf z.2 = tz at *
    generalize z.2.length = nz at *
    go_wp2_with fail
    go_quiet (fail)
    rename_i nq
    go_wp2_with fail
    exact HQ.out _ _ true ⟨rfl, rfl, rfl, rfl, rfl, rfl, rfl, rfl, rfl, rfl, rfl, rfl⟩ (HP1.out.turn0 ((Turn.refl [] w2).drewN nq))
  · have ht' : q.thereI s.n kk = false := by simpa using ht
    have HM : Hid (∀ k : Nat, kk = (k : Int) → k ∉ all.map Prod.fst) := fun k e hm => ht (by rw [e]; exact (there_in HP.out k).2 hm)
    have HT := hide ht'
    clear ht ht'
    go_wp2_with fail
    refine (read_no p b m sm rb s q HP.out.live HP.out.qlive kk HT.out w HP.out.pat).mono ?_
    rintro e w1 ⟨rfl, ⟨r, hA1⟩, hT1⟩
    have HP1 := hide (HP.out.rd hA1 hT1)
    have HPA1 := hide (HPA.out.turn hT1 (fun x hl hx => by
      have := HP.out.offA x.block (by rw [hx]; rfl)
      simp; omega))
    clear hA1 hT1 HP
    go_wp2_with fail
    refine (at_any aA cA all kk (by omega) w1 HPA1.out).mono ?_
    rintro e w2 ⟨v, rfl, hv, rfl⟩
    obtain rfl := place_no hv HM.out
    clear hv
    go_wp2_with fail
    go_quiet (fail)
    rename_i nq
    go_wp2_with fail
    exact HQ.out _ _ r ⟨rfl, rfl, rfl, rfl, rfl, rfl, rfl, rfl, rfl, rfl, rfl, rfl⟩ (HP1.out.turn0 ((Turn.refl [] w2).drewN nq))
end Go.Proofs.YtjbjcjcahkfgbaaDoor.Pl
