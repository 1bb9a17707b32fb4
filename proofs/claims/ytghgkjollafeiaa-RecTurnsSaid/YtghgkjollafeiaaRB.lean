/-
  The reference's Account, walked.
-/
import Derived.Test.YtghgkjollafeiaaRG
import Derived.Test.YtghgkjollafeiaaEA
import Derived.Deep.CutBlock
namespace Go.Proofs.Ytghgkjollafeiaa
open Go.RowKit

theorem list3 {α : Type} (l : List α) (h : l.length = 3) : ∃ y1 y2 y3, l = [y1, y2, y3] := by
  match l, h with
  | [y1, y2, y3], _ => exact ⟨y1, y2, y3, rfl⟩
theorem list2 {α : Type} (l : List α) (h : l.length = 2) : ∃ y1 y2, l = [y1, y2] := by
  match l, h with
  | [y1, y2], _ => exact ⟨y1, y2, rfl⟩
theorem tab_at {α β : Type} (f : α → β) (l : List α) (i : Nat) (hi : i < l.length) : (l.map f).getD i (f l[i]) = f l[i] := by simp [hi]

set_option maxRecDepth 100000 in
set_option maxHeartbeats 12800000 in
theorem raccount {w : World} (d : AccD) (cs : List Value) (v1 v2 v3 : Value) (hcs : List (List Value)) (hok : AccOk d) (hI : AcIn w cs d v1 v2 v3 hcs) :
    Calls Try.prog 11 #[.slice none 0 0, .agg cs.toArray] w fun e w' => ∃ v', e = .returned v' ∧ GrN w w' v' (accBy d) := by
  obtain ⟨a1, k1, hv1, hk1, _, hat1⟩ := hI.r1.at
  obtain ⟨a2, k2, hv2, hk2, _, hat2⟩ := hI.r2.at
  obtain ⟨a3, k3, hv3, hk3, _, hat3⟩ := hI.r3.at
  rw [List.length_map] at hv1 hk1 hat1 hv3 hk3 hat3
  rw [hI.hl] at hv2 hk2 hat2
  have hT0 : Turn [] w (w.alloc (.cells cs.toArray 28)) := (Turn.refl [] w).alloc _
  have hs0 : (w.alloc (.cells cs.toArray 28)).heap.size = w.heap.size + 1 := by simp
  have hr := rng_new w cs cs.toArray 28 rfl
  have hA : AccAt (w.alloc (.cells cs.toArray 28)) w.heap.size d.nm d.key d.pn d.px d.t v1 d.n v2 v3 := AccAt.of (by rw [← hI.e]; exact hr) hI.lp hI.lt hI.ln
  obtain ⟨x1, x2, x3, x4, x5, x6, x7, x8, x9, hpx⟩ := list9 d.px hI.lp
  obtain ⟨t1, t2, t3, ht⟩ := list3 d.t hI.lt
  obtain ⟨n1, n2, hn⟩ := list2 d.n hI.ln
  have px := hA.px
  have tt := hA.t
  have nn := hA.n
  rw [hpx] at px
  rw [ht] at tt
  rw [hn] at nn
  have c0 := hA.nm
  have c1 := hA.key
  have c2 := hA.pn
  have c3 := px 0 (by simp)
  have c4 := px 1 (by simp)
  have c5 := px 2 (by simp)
  have c6 := px 3 (by simp)
  have c7 := px 4 (by simp)
  have c8 := px 5 (by simp)
  have c9 := px 6 (by simp)
  have c10 := px 7 (by simp)
  have c11 := px 8 (by simp)
  have c12 := tt 0 (by simp)
  have c13 := tt 1 (by simp)
  have c14 := tt 2 (by simp)
  have c15 := hA.v1
  have c16 := nn 0 (by simp)
  have c17 := nn 1 (by simp)
  have c18 := hA.v2
  have c19 := hA.v3
  rw [hv1] at c15
  rw [hv2] at c18
  rw [hv3] at c19
  simp only [List.getElem_cons_zero, List.getElem_cons_succ, Nat.add_zero, Nat.reduceAdd] at c3 c4 c5 c6 c7 c8 c9 c10 c11 c12 c13 c14 c16 c17
  obtain ⟨A1, hA1⟩ : ∃ L, [] ++ [d.nm.size] ++ natBytes d.nm = L := ⟨_, rfl⟩
  obtain ⟨A2, hA2⟩ : ∃ L, A1 ++ [d.key.size] ++ natBytes d.key = L := ⟨_, rfl⟩
  obtain ⟨A3, hA3⟩ : ∃ L, A2 ++ tiB d.pn [x1, x2, x3, x4, x5, x6, x7, x8, x9] = L := ⟨_, rfl⟩
  obtain ⟨A4, hA4⟩ : ∃ L, A3 ++ be8 t1 = L := ⟨_, rfl⟩
  obtain ⟨A5, hA5⟩ : ∃ L, A4 ++ be8 t2 = L := ⟨_, rfl⟩
  obtain ⟨A6, hA6⟩ : ∃ L, A5 ++ be8 t3 = L := ⟨_, rfl⟩
  obtain ⟨A7, hA7⟩ : ∃ L, A6 ++ [d.lots.length] = L := ⟨_, rfl⟩
  obtain ⟨A8, hA8⟩ : ∃ L, A7 ++ d.lots.flatMap intsB = L := ⟨_, rfl⟩
  obtain ⟨A9, hA9⟩ : ∃ L, A8 ++ be8 n1 = L := ⟨_, rfl⟩
  obtain ⟨A10, hA10⟩ : ∃ L, A9 ++ be8 n2 = L := ⟨_, rfl⟩
  obtain ⟨A11, hA11⟩ : ∃ L, A10 ++ [d.holds.length] = L := ⟨_, rfl⟩
  obtain ⟨A12, hA12⟩ : ∃ L, A11 ++ d.holds.flatMap holdBy = L := ⟨_, rfl⟩
  obtain ⟨A13, hA13⟩ : ∃ L, A12 ++ [d.win.length] = L := ⟨_, rfl⟩
  obtain ⟨A14, hA14⟩ : ∃ L, A13 ++ d.win.flatMap entBy = L := ⟨_, rfl⟩
  have hfin : accBy d = A14 := by
    rw [← hA14, ← hA13, ← hA12, ← hA11, ← hA10, ← hA9, ← hA8, ← hA7, ← hA6, ← hA5, ← hA4, ← hA3, ← hA2, ← hA1]
    unfold accBy textB listB
    rw [hpx, ht, hn]
    simp [intsB, List.append_assoc]
  have hall := hok.all
  have HFin14 := hide hfin
  rw [hfin] at hall ⊢
  have HB : Hid (A1.length ≤ 500000000 ∧ A2.length ≤ 500000000 ∧ A3.length ≤ 500000000 ∧ A4.length ≤ 500000000 ∧ A5.length ≤ 500000000 ∧ A6.length ≤ 500000000 ∧ A7.length ≤ 500000000 ∧ A8.length ≤ 500000000 ∧ A9.length ≤ 500000000 ∧ A10.length ≤ 500000000 ∧ A11.length ≤ 500000000 ∧ A12.length ≤ 500000000 ∧ A13.length ≤ 500000000) := by
    have e2 := congrArg List.length hA2
    have e3 := congrArg List.length hA3
    have e4 := congrArg List.length hA4
    have e5 := congrArg List.length hA5
    have e6 := congrArg List.length hA6
    have e7 := congrArg List.length hA7
    have e8 := congrArg List.length hA8
    have e9 := congrArg List.length hA9
    have e10 := congrArg List.length hA10
    have e11 := congrArg List.length hA11
    have e12 := congrArg List.length hA12
    have e13 := congrArg List.length hA13
    have e14 := congrArg List.length hA14
    rw [List.length_append] at e2 e3 e4 e5 e6 e7 e8 e9 e10 e11 e12 e13 e14
    rw [List.length_append] at e2
    exact ⟨by omega, by omega, by omega, by omega, by omega, by omega, by omega, by omega, by omega, by omega, by omega, by omega, by omega⟩
  have HA1 := hide hA1
  have HA2 := hide hA2
  have HA3 := hide hA3
  have HA4 := hide hA4
  have HA5 := hide hA5
  have HA6 := hide hA6
  have HA7 := hide hA7
  have HA8 := hide hA8
  have HA9 := hide hA9
  have HA10 := hide hA10
  have HA11 := hide hA11
  have HA12 := hide hA12
  have HA13 := hide hA13
  have HA14 := hide hA14
  have HT0 := hide hT0
  have HOk := hide hok
  have HI := hide hI
  have HAt1 := hide hat1
  have HAt2 := hide hat2
  have HAt3 := hide hat3
  have HFz0 : Hid ((w.alloc (.cells cs.toArray 28)).ownsRow 0 5 1 (.slice none 0 0) ([] : List Nat).length (([] : List Nat).map byteCell)) := World.ownsRow_nil _ _ _ _
  clear hA1 hA2 hA3 hA4 hA5 hA6 hA7 hA8 hA9 hA10 hA11 hA12 hA13 hA14 hfin hall hA px tt nn hr hT0 hok hI hat1 hat2 hat3 hv1 hv2 hv3 hpx ht hn
  generalize hrk : w.heap.size = rk at *
  go_enter Try.func11, Try.ntmps11
  go_upto_region 1 with fail
  have HRk := hide hrk
  clear hrk
  generalize w.alloc (.cells cs.toArray 28) = w0 at *
  have HZ0 := hide hs0
  have hz0 : rk < w0.heap.size := by omega
  clear hs0
  have HAll : Hid (∀ w' : World, w'.heap[rk]? = w0.heap[rk]? → w'.cell? ⟨rk, 0, none⟩ = some (.string d.nm) ∧ w'.cell? ⟨rk, 1, none⟩ = some (.string d.key) ∧ w'.cell? ⟨rk, 2, none⟩ = some (.string d.pn) ∧ w'.cell? ⟨rk, 3, none⟩ = some (.int .i64 x1) ∧ w'.cell? ⟨rk, 4, none⟩ = some (.int .i64 x2) ∧ w'.cell? ⟨rk, 5, none⟩ = some (.int .i64 x3) ∧ w'.cell? ⟨rk, 6, none⟩ = some (.int .i64 x4) ∧ w'.cell? ⟨rk, 7, none⟩ = some (.int .i64 x5) ∧ w'.cell? ⟨rk, 8, none⟩ = some (.int .i64 x6) ∧ w'.cell? ⟨rk, 9, none⟩ = some (.int .i64 x7) ∧ w'.cell? ⟨rk, 10, none⟩ = some (.int .i64 x8) ∧ w'.cell? ⟨rk, 11, none⟩ = some (.int .i64 x9) ∧ w'.cell? ⟨rk, 12, none⟩ = some (.int .i64 t1) ∧ w'.cell? ⟨rk, 13, none⟩ = some (.int .i64 t2) ∧ w'.cell? ⟨rk, 14, none⟩ = some (.int .i64 t3) ∧ w'.cell? ⟨rk, 15, none⟩ = some (.slice a1 d.lots.length k1) ∧ w'.cell? ⟨rk, 16, none⟩ = some (.int .i64 n1) ∧ w'.cell? ⟨rk, 17, none⟩ = some (.int .i64 n2) ∧ w'.cell? ⟨rk, 18, none⟩ = some (.slice a2 d.holds.length k2) ∧ w'.cell? ⟨rk, 19, none⟩ = some (.slice a3 d.win.length k3)) := fun w' e => ⟨(World.cell?_of_block (a := ⟨rk, 0, none⟩) e).trans c0, (World.cell?_of_block (a := ⟨rk, 1, none⟩) e).trans c1, (World.cell?_of_block (a := ⟨rk, 2, none⟩) e).trans c2, (World.cell?_of_block (a := ⟨rk, 3, none⟩) e).trans c3, (World.cell?_of_block (a := ⟨rk, 4, none⟩) e).trans c4, (World.cell?_of_block (a := ⟨rk, 5, none⟩) e).trans c5, (World.cell?_of_block (a := ⟨rk, 6, none⟩) e).trans c6, (World.cell?_of_block (a := ⟨rk, 7, none⟩) e).trans c7, (World.cell?_of_block (a := ⟨rk, 8, none⟩) e).trans c8, (World.cell?_of_block (a := ⟨rk, 9, none⟩) e).trans c9, (World.cell?_of_block (a := ⟨rk, 10, none⟩) e).trans c10, (World.cell?_of_block (a := ⟨rk, 11, none⟩) e).trans c11, (World.cell?_of_block (a := ⟨rk, 12, none⟩) e).trans c12, (World.cell?_of_block (a := ⟨rk, 13, none⟩) e).trans c13, (World.cell?_of_block (a := ⟨rk, 14, none⟩) e).trans c14, (World.cell?_of_block (a := ⟨rk, 15, none⟩) e).trans c15, (World.cell?_of_block (a := ⟨rk, 16, none⟩) e).trans c16, (World.cell?_of_block (a := ⟨rk, 17, none⟩) e).trans c17, (World.cell?_of_block (a := ⟨rk, 18, none⟩) e).trans c18, (World.cell?_of_block (a := ⟨rk, 19, none⟩) e).trans c19⟩
  go_cut [0] from 13 to 178 (fun u wx => ∃ vb c, u = .slice vb A3.length c ∧ Hid (GrN w0 wx u A3))
  case first =>
    have HS : Hid (∀ w' : World, w'.heap[rk]? = w0.heap[rk]? → w'.cell? ⟨rk, 0, none⟩ = some (.string d.nm) ∧ w'.cell? ⟨rk, 1, none⟩ = some (.string d.key) ∧ w'.cell? ⟨rk, 2, none⟩ = some (.string d.pn) ∧ w'.cell? ⟨rk, 3, none⟩ = some (.int .i64 x1) ∧ w'.cell? ⟨rk, 4, none⟩ = some (.int .i64 x2) ∧ w'.cell? ⟨rk, 5, none⟩ = some (.int .i64 x3) ∧ w'.cell? ⟨rk, 6, none⟩ = some (.int .i64 x4) ∧ w'.cell? ⟨rk, 7, none⟩ = some (.int .i64 x5) ∧ w'.cell? ⟨rk, 8, none⟩ = some (.int .i64 x6) ∧ w'.cell? ⟨rk, 9, none⟩ = some (.int .i64 x7) ∧ w'.cell? ⟨rk, 10, none⟩ = some (.int .i64 x8) ∧ w'.cell? ⟨rk, 11, none⟩ = some (.int .i64 x9)) := fun w' e => by
      obtain ⟨h0, h1, h2, h3, h4, h5, h6, h7, h8, h9, h10, h11, _, _, _, _, _, _, _, _⟩ := HAll.out w' e
      exact ⟨h0, h1, h2, h3, h4, h5, h6, h7, h8, h9, h10, h11⟩
    go_region_held_law (fun w' => w'.cell? ⟨rk, 0, none⟩ = some (.string d.nm) ∧ w'.cell? ⟨rk, 1, none⟩ = some (.string d.key) ∧ w'.cell? ⟨rk, 2, none⟩ = some (.string d.pn) ∧ w'.cell? ⟨rk, 3, none⟩ = some (.int .i64 x1) ∧ w'.cell? ⟨rk, 4, none⟩ = some (.int .i64 x2) ∧ w'.cell? ⟨rk, 5, none⟩ = some (.int .i64 x3) ∧ w'.cell? ⟨rk, 6, none⟩ = some (.int .i64 x4) ∧ w'.cell? ⟨rk, 7, none⟩ = some (.int .i64 x5) ∧ w'.cell? ⟨rk, 8, none⟩ = some (.int .i64 x6) ∧ w'.cell? ⟨rk, 9, none⟩ = some (.int .i64 x7) ∧ w'.cell? ⟨rk, 10, none⟩ = some (.int .i64 x8) ∧ w'.cell? ⟨rk, 11, none⟩ = some (.int .i64 x9))
      (first | assumption | exact HS.out _ (HG3.out.blk hz0) | exact HS.out _ (HG2.out.blk hz0) | exact HS.out _ (HG1.out.blk hz0) | exact HS.out _ rfl)
      (first
      | (go_at_call 19; refine (rplan _ A2 d.pn x1 x2 x3 x4 x5 x6 x7 x8 x9 HOk.out.pn (Nat.le_trans HB.out.2.1 (by omega)) HG2.out.own).mono ?_; rintro e w3 ⟨u3, rfl, hG⟩; rw [HA3.out] at hG; obtain ⟨va3, vc3, rfl⟩ := own_form hG.own; have HG3 := hide (show GrN w0 w3 _ A3 from HG2.out.trans hG); clear hG)
      | (go_at_call 31; refine (rtext _ A1 d.key HOk.out.key (Nat.le_trans HB.out.1 (by omega)) HG1.out.own).mono ?_; rintro e w2 ⟨u2, rfl, hG⟩; rw [HA2.out] at hG; obtain ⟨va2, vc2, rfl⟩ := own_form hG.own; have HG2 := hide (show GrN w0 w2 _ A2 from HG1.out.trans hG); clear hG)
      | (go_at_call 31; refine (rtext (.slice none 0 0) [] d.nm HOk.out.nm (by simp) (World.ownsRow_nil _ _ _ _)).mono ?_; rintro e w1 ⟨u1, rfl, hG⟩; rw [HA1.out] at hG; obtain ⟨va1, vc1, rfl⟩ := own_form hG.own; have HG1 := hide (show GrN w0 w1 _ A1 from ⟨hG.own, ⟨hG.grown.os, hG.grown.tape, hG.grown.output, hG.grown.size, hG.grown.block⟩, hG.loc⟩); clear hG)
      | fail)
    all_goals
      go_wp2_with fail
      go_meet
      case rel => exact ⟨va3, vc3, rfl, HG3.out⟩
  case rest =>
    rename World => w1
    obtain ⟨b1, k4, rfl, HG1⟩ := hcut
    go_upto_region 2 with fail
    go_cut [0] from 13 to 178 (fun u wx => ∃ vb c, u = .slice vb A6.length c ∧ Hid (GrN w0 wx u A6))
    case first =>
      have HS : Hid (∀ w' : World, w'.heap[rk]? = w0.heap[rk]? → w'.cell? ⟨rk, 12, none⟩ = some (.int .i64 t1) ∧ w'.cell? ⟨rk, 13, none⟩ = some (.int .i64 t2) ∧ w'.cell? ⟨rk, 14, none⟩ = some (.int .i64 t3)) := fun w' e => by
        obtain ⟨_, _, _, _, _, _, _, _, _, _, _, _, h12, h13, h14, _, _, _, _, _⟩ := HAll.out w' e
        exact ⟨h12, h13, h14⟩
      have HD0 := hide HG1.out.drew
      go_region_held_law (fun w' => w'.cell? ⟨rk, 12, none⟩ = some (.int .i64 t1) ∧ w'.cell? ⟨rk, 13, none⟩ = some (.int .i64 t2) ∧ w'.cell? ⟨rk, 14, none⟩ = some (.int .i64 t3))
        (first | assumption | exact HS.out _ (HQ3.out.blk hz0) | exact HS.out _ (HQ2.out.blk hz0) | exact HS.out _ (HQ1.out.blk hz0) | exact HS.out _ (HG1.out.blk hz0))
        (first
        | (go_at_call 32; refine (rint _ A5 t3 (Nat.le_trans HB.out.2.2.2.2.1 (by omega)) HQ2.out.own).mono ?_; rintro e q3 ⟨u3, rfl, hG⟩; rw [HA6.out] at hG; obtain ⟨va3, vc3, rfl⟩ := own_form hG.own; have HQ3 := hide (show GrN w0 q3 _ A6 from HQ2.out.trans hG); clear hG)
        | (go_at_call 32; refine (rint _ A4 t2 (Nat.le_trans HB.out.2.2.2.1 (by omega)) HQ1.out.own).mono ?_; rintro e q2 ⟨u2, rfl, hG⟩; rw [HA5.out] at hG; obtain ⟨va2, vc2, rfl⟩ := own_form hG.own; have HQ2 := hide (show GrN w0 q2 _ A5 from HQ1.out.trans hG); clear hG)
        | (go_at_call 32; refine (rint _ A3 t1 (Nat.le_trans HB.out.2.2.1 (by omega)) HD0.out.own).mono ?_; rintro e q1 ⟨u1, rfl, hG⟩; rw [HA4.out] at hG; obtain ⟨va1, vc1, rfl⟩ := own_form hG.own; have HQ1 := hide (show GrN w0 q1 _ A4 from HD0.out.trans hG); clear hG)
        | fail)
      all_goals
        go_wp2_with fail
        go_meet
        case rel => exact ⟨va3, vc3, rfl, HQ3.out⟩
    case rest =>
      rename World => w2
      obtain ⟨b2, k5, rfl, HG2⟩ := hcut
      have c152 := (World.cell?_of_block (a := ⟨rk, 15, none⟩) (HG2.out.blk hz0)).trans c15
      have hlot := HOk.out.lots
      have hmod1 : (d.lots.length : Int) % 256 = (d.lots.length : Int) := by omega
      have hbA6 := HB.out.2.2.2.2.2.1
      go_upto_region 3 with fail
      go_cut [0] from 13 to 178 (fun u wx => ∃ vb c, u = .slice vb A7.length c ∧ Hid (GrN w0 wx u A7))
      case first =>
        have HL7 : Hid (A7.length = A6.length + 1) := by show _ = _; rw [← HA7.out, List.length_append]; rfl
        go_wp2_with (at_builtin; refine wpList_gr_append rfl _ _ rfl HG2.out.own rfl w2.heap.size 1 1 [d.lots.length] rfl rfl (by omega) (bytes_new w2 [d.lots.length] 5) (by omega) ((Keep.refl _ w2).alloc _) ?_; intro g3 cap3 w3 hG; rw [HA7.out] at hG; rw [← HL7.out] at hG ⊢; have HG3 := hide (show GrN w0 w3 _ A7 from HG2.out.trans hG); clear hG)
        go_meet
        case rel => exact ⟨_, _, rfl, HG3.out⟩
      case rest =>
        rename World => w3
        obtain ⟨b3, k6, rfl, HG3⟩ := hcut
        clear c152
        go_upto_block 0 with fail
        go_cut [0, 5, 6, 7, 8] from 13 to 178 (fun u _ _ _ _ wx => ∃ vb c, u = .slice vb A8.length c ∧ Hid (GrN w0 wx u A8))
        case first =>
          go_wp2_with fail
          go_loopw [0, 5, 6, 7, 8] (fun u i _ _ _ wr => ∃ (j : Nat) (L : List Nat) (vb : Option Addr) (c : Nat), j ≤ d.lots.length ∧ i = .int .i64 (j : Nat) ∧ u = .slice vb L.length c ∧ Hid (L = A7 ++ (d.lots.take j).flatMap intsB) ∧ Hid (GrN w0 wr u L)) (fun _ i _ _ _ _ => d.lots.length - (intOf i).toNat)
          case atStart => exact ⟨0, A7, b3, k6, by omega, rfl, rfl, show _ = _ by simp, HG3.out⟩
          case round =>
            obtain ⟨j, L, vb, c, hj, rfl, rfl, HL, HG⟩ := hrel
            have c15r := (World.cell?_of_block (a := ⟨rk, 15, none⟩) (HG.out.blk hz0)).trans c15
            by_cases hlt : j < d.lots.length
            · obtain ⟨ab, ao, ea, hX⟩ := HAt1.out (by omega)
              subst ea
              have hx := hX j _ (map_at hlt)
              obtain ⟨y1, y2, y3, y4, y5, y6, y7, y8, y9, hy⟩ := list9 d.lots[j] (HI.out.ll _ (List.getElem_mem hlt))
              rw [hy] at hx
              have hab : ab < rk := by rw [← HRk.out]; exact lt_of_cell (hx 0 _ rfl)
              have hbb : wr.heap[ab]? = w.heap[ab]? := (HG.out.blk (by omega)).trans (HT0.out.block ab (by rw [HRk.out]; exact hab) (by simp))
              have hcx : ∀ k u, (intC [y1, y2, y3, y4, y5, y6, y7, y8, y9])[k]? = some u → wr.cell? ⟨ab, ao + j * 9 + k, none⟩ = some u := fun k u hk => (World.cell?_of_block (a := ⟨ab, ao + j * 9 + k, none⟩) hbb).trans (hx k u hk)
              have e0 := hcx 0 _ rfl
              have e1 := hcx 1 _ rfl
              have e2 := hcx 2 _ rfl
              have e3 := hcx 3 _ rfl
              have e4 := hcx 4 _ rfl
              have e5 := hcx 5 _ rfl
              have e6 := hcx 6 _ rfl
              have e7 := hcx 7 _ rfl
              have e8 := hcx 8 _ rfl
              rw [Nat.add_zero] at e0
              have HY := hide hy
              clear hcx hx hX hy hbb
              have hLl : L.length ≤ 500000000 := by
                have h8 := HB.out.2.2.2.2.2.2.2.1
                rw [← HA8.out, ← List.take_append_drop j d.lots, List.flatMap_append, ← List.append_assoc, ← HL.out, List.length_append] at h8
                omega
              have HK2 : Hid (Keep (fun _ => True) wr ((wr.alloc (.cells #[Value.int .i64 y1, Value.int .i64 y2, Value.int .i64 y3, Value.int .i64 y4, Value.int .i64 y5, Value.int .i64 y6, Value.int .i64 y7, Value.int .i64 y8, Value.int .i64 y9] 82)).alloc (.cells #[Value.int .i64 y1, Value.int .i64 y2, Value.int .i64 y3, Value.int .i64 y4, Value.int .i64 y5, Value.int .i64 y6, Value.int .i64 y7, Value.int .i64 y8, Value.int .i64 y9] 3))) := ((Keep.refl _ wr).alloc _).alloc _
              have hrow0 : IntsAt ((wr.alloc (.cells #[Value.int .i64 y1, Value.int .i64 y2, Value.int .i64 y3, Value.int .i64 y4, Value.int .i64 y5, Value.int .i64 y6, Value.int .i64 y7, Value.int .i64 y8, Value.int .i64 y9] 82)).alloc (.cells #[Value.int .i64 y1, Value.int .i64 y2, Value.int .i64 y3, Value.int .i64 y4, Value.int .i64 y5, Value.int .i64 y6, Value.int .i64 y7, Value.int .i64 y8, Value.int .i64 y9] 3)) (wr.heap.size + 1) 0 [y1, y2, y3, y4, y5, y6, y7, y8, y9] := fun i hi => by
                have hs : (wr.alloc (.cells #[Value.int .i64 y1, Value.int .i64 y2, Value.int .i64 y3, Value.int .i64 y4, Value.int .i64 y5, Value.int .i64 y6, Value.int .i64 y7, Value.int .i64 y8, Value.int .i64 y9] 82)).heap.size = wr.heap.size + 1 := by simp
                rw [← hs, World.cell?_alloc_at _ _ _ _ rfl, ← Array.getElem?_toList, Nat.zero_add]
                show ([y1, y2, y3, y4, y5, y6, y7, y8, y9].map (Value.int .i64))[i]? = _
                rw [List.getElem?_map, List.getElem?_eq_getElem hi]
                rfl
              have hsz2 : ((wr.alloc (.cells #[Value.int .i64 y1, Value.int .i64 y2, Value.int .i64 y3, Value.int .i64 y4, Value.int .i64 y5, Value.int .i64 y6, Value.int .i64 y7, Value.int .i64 y8, Value.int .i64 y9] 82)).alloc (.cells #[Value.int .i64 y1, Value.int .i64 y2, Value.int .i64 y3, Value.int .i64 y4, Value.int .i64 y5, Value.int .i64 y6, Value.int .i64 y7, Value.int .i64 y8, Value.int .i64 y9] 3)).heap.size = wr.heap.size + 2 := by simp
              have HLt := hide HG.out.own.lt
              have HO2 := hide (own_kept HG.out.own (HK2.out.less (fun _ _ _ => trivial)))
              have HFinI : Hid (∀ wq u' M, Gr ((wr.alloc (.cells #[Value.int .i64 y1, Value.int .i64 y2, Value.int .i64 y3, Value.int .i64 y4, Value.int .i64 y5, Value.int .i64 y6, Value.int .i64 y7, Value.int .i64 y8, Value.int .i64 y9] 82)).alloc (.cells #[Value.int .i64 y1, Value.int .i64 y2, Value.int .i64 y3, Value.int .i64 y4, Value.int .i64 y5, Value.int .i64 y6, Value.int .i64 y7, Value.int .i64 y8, Value.int .i64 y9] 3)) wq (.slice vb L.length c) u' M → GrN w0 wq u' M) := fun wq u' M h => HG.out.trans (Gr.after HK2.out h (fun g e => (HLt.out g e).2))
              have HRow := hide hrow0
              have HSz2 := hide hsz2
              clear hrow0 hsz2
              go_upto_block 2 with fail
              generalize hys : [y1, y2, y3, y4, y5, y6, y7, y8, y9] = ys at HRow HY
              have HXl : Hid (ys.length = 9) := by show _ = _; rw [← hys]; rfl
              clear hys
              generalize (wr.alloc (.cells #[Value.int .i64 y1, Value.int .i64 y2, Value.int .i64 y3, Value.int .i64 y4, Value.int .i64 y5, Value.int .i64 y6, Value.int .i64 y7, Value.int .i64 y8, Value.int .i64 y9] 82)).alloc (.cells #[Value.int .i64 y1, Value.int .i64 y2, Value.int .i64 y3, Value.int .i64 y4, Value.int .i64 y5, Value.int .i64 y6, Value.int .i64 y7, Value.int .i64 y8, Value.int .i64 y9] 3) = w4 at *
              generalize hrp : wr.heap.size = rp at *
              have HRp := hide hrp
              clear hrp e0 e1 e2 e3 e4 e5 e6 e7 e8 c15r
              obtain ⟨L', hL'⟩ : ∃ M, L ++ ys.flatMap be8 = M := ⟨_, rfl⟩
              have HL' := hide hL'
              have HLn : Hid (L' = A7 ++ (d.lots.take (j + 1)).flatMap intsB) := by
                show _ = _
                rw [List.take_succ_eq_append_getElem hlt, List.flatMap_append, ← List.append_assoc, ← HL.out, ← hL', HY.out]
                simp [intsB]
              clear hL'
              go_wp2_with fail
              go_loopw [0, 8] (fun u i wq => ∃ m : Nat, m ≤ 9 ∧ i = .int .i64 (m : Nat) ∧ Hid (Gr w4 wq (.slice vb L.length c) u (L ++ (ys.take m).flatMap be8))) (fun _ i _ => 9 - (intOf i).toNat)
              case atStart => exact ⟨0, by omega, rfl, show Gr _ _ _ _ _ by simpa using Gr.refl HO2.out⟩
              case round =>
                rename World => wq
                obtain ⟨m, hm, rfl, HGm⟩ := hrel
                by_cases hlm : m < 9
                · have hml : m < ys.length := by rw [HXl.out]; exact hlm
                  have hcj : wq.cell? ⟨rp + 1, m, none⟩ = some (.int .i64 ys[m]) := by
                    have := HRow.out m hml
                    rw [Nat.zero_add] at this
                    exact (World.cell?_of_block (a := ⟨rp + 1, m, none⟩) (HGm.out.grown.block (rp + 1) (by rw [HSz2.out]; omega) (fun e => by have := (HLt.out _ e.symm).2; omega))).trans this
                  obtain ⟨M, hM⟩ : ∃ M, L ++ (ys.take m).flatMap be8 = M := ⟨_, rfl⟩
                  have hlj : M.length ≤ 500001000 := by
                    rw [← hM, List.length_append, flat8_length, List.length_take]; omega
                  have HT : Hid (L ++ (ys.take (m + 1)).flatMap be8 = M ++ be8 ys[m]) := by
                    show _ = _
                    rw [List.take_succ_eq_append_getElem hml, List.flatMap_append, ← List.append_assoc, hM]
                    simp
                  have hGm := HGm.out
                  rw [hM] at hGm
                  obtain ⟨ua, uc, rfl⟩ := own_form hGm.own
                  have HGn := hide hGm
                  generalize ys[m] = ym at *
                  clear hGm hM hml HGm
                  go_wp2_with fail
                  refine (rint _ M ym (by omega) HGn.out.own).mono ?_
                  rintro e w5 ⟨v5, rfl, hG5⟩
                  rw [← HT.out] at hG5
                  have HG5 := hide (HGn.out.trans hG5)
                  clear hG5
                  go_wp2_with fail
                  go_roundw
                  case rel => exact ⟨m + 1, hlm, by go_num, HG5.out⟩
                  case measure => simp [intOf]; omega
                · obtain rfl : m = 9 := by omega
                  have hGm := HGm.out
                  rw [List.take_of_length_le (by rw [HXl.out]; omega), HL'.out] at hGm
                  obtain ⟨ua, uc, rfl⟩ := own_form hGm.own
                  have HGn := hide (HFinI.out _ _ _ hGm)
                  clear hGm HGm
                  go_wp2_with fail
                  go_roundw
                  case rel => exact ⟨j + 1, L', ua, uc, hlt, by go_num, rfl, HLn, HGn⟩
                  case measure => simp [intOf]; omega
            · obtain rfl : j = d.lots.length := by omega
              have hLe : L = A8 := by rw [HL.out, List.take_of_length_le (Nat.le_refl _), HA8.out]
              subst hLe
              go_wp2_with fail
              go_meet
              case rel => exact ⟨vb, c, rfl, HG⟩
        case rest =>
          rename World => w6
          obtain ⟨b6, k7, rfl, HG6⟩ := hcut
          clear HG1 HG2 HG3 hmod1
          go_upto_region 13 with fail
          go_cut [0] from 13 to 178 (fun u wx => ∃ vb c, u = .slice vb A10.length c ∧ Hid (GrN w0 wx u A10))
          case first =>
            have HS : Hid (∀ w' : World, w'.heap[rk]? = w0.heap[rk]? → w'.cell? ⟨rk, 16, none⟩ = some (.int .i64 n1) ∧ w'.cell? ⟨rk, 17, none⟩ = some (.int .i64 n2)) := fun w' e => by
              obtain ⟨_, _, _, _, _, _, _, _, _, _, _, _, _, _, _, _, h16, h17, _, _⟩ := HAll.out w' e
              exact ⟨h16, h17⟩
            have HD0 := hide HG6.out.drew
            go_region_held_law (fun w' => w'.cell? ⟨rk, 16, none⟩ = some (.int .i64 n1) ∧ w'.cell? ⟨rk, 17, none⟩ = some (.int .i64 n2))
              (first | assumption | exact HS.out _ (HQ2.out.blk hz0) | exact HS.out _ (HQ1.out.blk hz0) | exact HS.out _ (HG6.out.blk hz0))
              (first
              | (go_at_call 32; refine (rint _ A9 n2 (Nat.le_trans HB.out.2.2.2.2.2.2.2.2.1 (by omega)) HQ1.out.own).mono ?_; rintro e q2 ⟨u2, rfl, hG⟩; rw [HA10.out] at hG; obtain ⟨va2, vc2, rfl⟩ := own_form hG.own; have HQ2 := hide (show GrN w0 q2 _ A10 from HQ1.out.trans hG); clear hG)
              | (go_at_call 32; refine (rint _ A8 n1 (Nat.le_trans HB.out.2.2.2.2.2.2.2.1 (by omega)) HD0.out.own).mono ?_; rintro e q1 ⟨u1, rfl, hG⟩; rw [HA9.out] at hG; obtain ⟨va1, vc1, rfl⟩ := own_form hG.own; have HQ1 := hide (show GrN w0 q1 _ A9 from HD0.out.trans hG); clear hG)
              | fail)
            all_goals
              go_wp2_with fail
              go_meet
              case rel => exact ⟨va2, vc2, rfl, HQ2.out⟩
          case rest =>
            rename World => w7
            obtain ⟨b7, k8, rfl, HG7⟩ := hcut
            have c187 := (World.cell?_of_block (a := ⟨rk, 18, none⟩) (HG7.out.blk hz0)).trans c18
            have hhol := HOk.out.holds
            have hmod2 : (d.holds.length : Int) % 256 = (d.holds.length : Int) := by omega
            have hbA10 := HB.out.2.2.2.2.2.2.2.2.2.1
            go_upto_region 14 with fail
            go_cut [0] from 13 to 178 (fun u wx => ∃ vb c, u = .slice vb A11.length c ∧ Hid (GrN w0 wx u A11))
            case first =>
              have HL11 : Hid (A11.length = A10.length + 1) := by show _ = _; rw [← HA11.out, List.length_append]; rfl
              go_wp2_with (at_builtin; refine wpList_gr_append rfl _ _ rfl HG7.out.own rfl w7.heap.size 1 1 [d.holds.length] rfl rfl (by omega) (bytes_new w7 [d.holds.length] 5) (by omega) ((Keep.refl _ w7).alloc _) ?_; intro g3 cap3 w8 hG; rw [HA11.out] at hG; rw [← HL11.out] at hG ⊢; have HG8 := hide (show GrN w0 w8 _ A11 from HG7.out.trans hG); clear hG)
              go_meet
              case rel => exact ⟨_, _, rfl, HG8.out⟩
            case rest =>
              rename World => w8
              obtain ⟨b8, k9, rfl, HG8⟩ := hcut
              clear c187 hmod2 HG6 HG7
              go_upto_block 4 with fail
              go_cut [0, 9, 10, 11] from 13 to 178 (fun u _ _ _ wx => ∃ vb c, u = .slice vb A12.length c ∧ Hid (GrN w0 wx u A12))
              case first =>
                go_wp2_with fail
                go_loopw [0, 9, 10, 11] (fun u i _ _ wr => ∃ (j : Nat) (L : List Nat) (vb : Option Addr) (c : Nat), j ≤ d.holds.length ∧ i = .int .i64 (j : Nat) ∧ u = .slice vb L.length c ∧ Hid (L = A11 ++ (d.holds.take j).flatMap holdBy) ∧ Hid (GrN w0 wr u L)) (fun _ i _ _ _ => d.holds.length - (intOf i).toNat)
                case atStart => exact ⟨0, A11, b8, k9, by omega, rfl, rfl, show _ = _ by simp, HG8.out⟩
                case round =>
                  obtain ⟨j, L, vb, c, hj, rfl, rfl, HL, HG⟩ := hrel
                  have c18r := (World.cell?_of_block (a := ⟨rk, 18, none⟩) (HG.out.blk hz0)).trans c18
                  by_cases hlt : j < d.holds.length
                  · obtain ⟨ab, ao, ea, hX⟩ := HAt2.out (by omega)
                    subst ea
                    have hlt' : j < hcs.length := by rw [HI.out.hl]; exact hlt
                    have hx := hX j _ (List.getElem?_eq_getElem hlt')
                    obtain ⟨pv, hpe, hpl, hp2, hpr⟩ := HI.out.hh j hlt' hlt
                    rw [hpe] at hx
                    have hpc := HOk.out.ps _ (List.getElem_mem hlt)
                    obtain ⟨L', hL'⟩ : ∃ M, A11 ++ (d.holds.take (j + 1)).flatMap holdBy = M := ⟨_, rfl⟩
                    have hLe : L ++ holdBy d.holds[j] = L' := by
                      rw [← hL', List.take_succ_eq_append_getElem hlt, List.flatMap_append, ← List.append_assoc, ← HL.out]
                      simp
                    have hLl : L'.length ≤ 500000000 := by
                      have h8 := HB.out.2.2.2.2.2.2.2.2.2.2.2.1
                      rw [← HA12.out, ← List.take_append_drop (j + 1) d.holds, List.flatMap_append, ← List.append_assoc, hL', List.length_append] at h8
                      omega
                    have HLn : Hid (L' = A11 ++ (d.holds.take (j + 1)).flatMap holdBy) := hL'.symm
                    generalize d.holds[j] = h at *
                    obtain ⟨q1, q2, hq⟩ := list2 h.t hpl
                    rw [hq] at hx
                    obtain ⟨pa, kp, hpv, hpk, hpm, hpat⟩ := hpr.at
                    rw [List.length_map] at hpv hpk hpat
                    subst hpv
                    have HPat := hide hpat
                    have hab : ab < rk := by rw [← HRk.out]; exact lt_of_cell (hx 0 _ rfl)
                    have hbb : wr.heap[ab]? = w.heap[ab]? := (HG.out.blk (by omega)).trans (HT0.out.block ab (by rw [HRk.out]; exact hab) (by simp))
                    have hcx : ∀ k u, (Value.int .i64 h.id :: Value.slice pa h.ps.length kp :: intC [q1, q2])[k]? = some u → wr.cell? ⟨ab, ao + j * 4 + k, none⟩ = some u := fun k u hk => (World.cell?_of_block (a := ⟨ab, ao + j * 4 + k, none⟩) hbb).trans (hx k u hk)
                    have e0 := hcx 0 _ rfl
                    have e1 := hcx 1 _ rfl
                    have e2 := hcx 2 _ rfl
                    have e3 := hcx 3 _ rfl
                    rw [Nat.add_zero] at e0
                    obtain ⟨M1, hM1⟩ : ∃ M, L ++ be8 h.id ++ [h.ps.length] = M := ⟨_, rfl⟩
                    obtain ⟨M2, hM2⟩ : ∃ M, M1 ++ h.ps.flatMap intsB = M := ⟨_, rfl⟩
                    have hM3 : M2 ++ be8 q1 ++ be8 q2 = L' := by
                      rw [← hLe, ← hM2, ← hM1]
                      unfold holdBy listB
                      rw [hq]
                      simp [intsB, List.append_assoc]
                    have hLL : L.length ≤ 500000000 := by rw [← hLe, List.length_append] at hLl; omega
                    have hM2l : M2.length ≤ 500000000 := by
                      have := congrArg List.length hM3
                      rw [List.length_append, List.length_append] at this
                      omega
                    have HM1 := hide hM1
                    have HM2 := hide hM2
                    have HM3 := hide hM3
                    have HP2 := hide hp2
                    have HLt := hide HG.out.own.lt
                    have HK2 : Hid (Keep (fun _ => True) wr (wr.alloc (.cells #[Value.int .i64 h.id, .slice pa h.ps.length kp, .int .i64 q1, .int .i64 q2] 65))) := (Keep.refl _ wr).alloc _
                    have hsz2 : (wr.alloc (.cells #[Value.int .i64 h.id, .slice pa h.ps.length kp, .int .i64 q1, .int .i64 q2] 65)).heap.size = wr.heap.size + 1 := by simp
                    have HO2 := hide (own_kept HG.out.own (HK2.out.less (fun _ _ _ => trivial)))
                    have HFinI : Hid (∀ wq u' M, Gr (wr.alloc (.cells #[Value.int .i64 h.id, .slice pa h.ps.length kp, .int .i64 q1, .int .i64 q2] 65)) wq (.slice vb L.length c) u' M → GrN w0 wq u' M) := fun wq u' M h => HG.out.trans (Gr.after HK2.out h (fun g e => (HLt.out g e).2))
                    have HC : Hid (∀ (k : Nat) (u : Value), (#[Value.int .i64 h.id, .slice pa h.ps.length kp, .int .i64 q1, .int .i64 q2] : Array Value)[k]? = some u → ∀ w' : World, w'.heap[wr.heap.size]? = (wr.alloc (.cells #[Value.int .i64 h.id, .slice pa h.ps.length kp, .int .i64 q1, .int .i64 q2] 65)).heap[wr.heap.size]? → w'.cell? ⟨wr.heap.size, k, none⟩ = some u) := fun k u hu w' e => by
                      rw [World.cell?_of_block (a := ⟨wr.heap.size, k, none⟩) e, World.cell?_alloc_at _ _ _ _ rfl]
                      exact hu
                    have HW : Hid (∀ x, x < rk → (wr.alloc (.cells #[Value.int .i64 h.id, .slice pa h.ps.length kp, .int .i64 q1, .int .i64 q2] 65)).heap[x]? = w.heap[x]?) := fun x hx => by
                      have h1 : x < w0.heap.size := by omega
                      exact (Below.heap_alloc wr _ x (Nat.lt_of_lt_of_le h1 HG.out.grown.size)).trans ((HG.out.blk h1).trans (HT0.out.block x (by rw [HRk.out]; exact hx) (by simp)))
                    have hrw : rk < wr.heap.size := Nat.lt_of_lt_of_le hz0 HG.out.grown.size
                    have hov : ∀ x, x < rk ∨ x = wr.heap.size → (Value.slice vb L.length c).ownBlock ≠ some x := fun x hx e => by
                      rcases hx with hx | rfl
                      · exact HG.out.off (x := x) (by omega) e
                      · exact absurd (HLt.out _ e).2 (Nat.lt_irrefl _)
                    have HOv := hide hov
                    clear hcx hx hX hbb hpr hpe hpat hov hp2 hM1 hM2 hM3 hL' hLe hq hpl
                    go_upto_region 19 with fail
                    have hSz2 := hsz2
                    generalize wr.alloc (.cells #[Value.int .i64 h.id, .slice pa h.ps.length kp, .int .i64 q1, .int .i64 q2] 65) = w4 at *
                    generalize hrp : wr.heap.size = hb at *
                    clear hrp e0 e1 e2 e3 c18r hsz2
                    refine reg19_any L M1 vb c hb h.ps.length kp pa h.id _ (by omega) (by omega) (HOv.out _ (.inr rfl)) HO2 (fun w' e => ⟨HC.out 0 _ rfl w' e, HC.out 1 _ rfl w' e⟩) HM1 hpc ?_
                    intro t109 t110 t111 t112 t113 t114 t115 t116 t117 t118 va5 vc5 w5 hG5
                    have HG5 := hide hG5
                    clear hG5
                    have hm1 : M1.length ≤ 500000000 := by
                      have := congrArg List.length HM2.out
                      rw [List.length_append] at this
                      omega
                    go_upto_block 6 with fail
                    go_cut [0, 11] from 119 to 141 (fun u _ wx => ∃ va vc, u = .slice va M2.length vc ∧ Hid (Gr w4 wx (.slice vb L.length c) u M2))
                    case first =>
                      go_wp2_with fail
                      go_loopw [0, 11] (fun u i wq => ∃ (k : Nat) (M : List Nat) (va : Option Addr) (vc : Nat), k ≤ h.ps.length ∧ i = .int .i64 (k : Nat) ∧ u = .slice va M.length vc ∧ Hid (M = M1 ++ (h.ps.take k).flatMap intsB) ∧ Hid (Gr w4 wq (.slice vb L.length c) u M)) (fun _ i _ => h.ps.length - (intOf i).toNat)
                      case atStart => exact ⟨0, M1, va5, vc5, by omega, rfl, rfl, show _ = _ by simp, HG5.out⟩
                      case round =>
                        obtain ⟨k, M, va, vc, hk, rfl, rfl, HM, HGk⟩ := hrel
                        have Hbk : Hid (wr.heap[hb]? = w4.heap[hb]?) := HGk.out.other (by omega) (HOv.out _ (.inr rfl))
                        have d1 := HC.out 1 _ rfl wr Hbk.out
                        by_cases hkl : k < h.ps.length
                        · obtain ⟨pb, po, ea, hX⟩ := HPat.out (by omega)
                          subst ea
                          have hx := hX k _ (map_at hkl)
                          have hy := HP2.out _ (List.getElem_mem hkl)
                          obtain ⟨M', hM'⟩ : ∃ X, M1 ++ (h.ps.take (k + 1)).flatMap intsB = X := ⟨_, rfl⟩
                          have hMe : M ++ intsB h.ps[k] = M' := by
                            rw [← hM', List.take_succ_eq_append_getElem hkl, List.flatMap_append, ← List.append_assoc, ← HM.out]
                            simp
                          have hMl : M.length ≤ 500000000 := by
                            have h8 := congrArg List.length HM2.out
                            rw [← List.take_append_drop k h.ps, List.flatMap_append, ← List.append_assoc, ← HM.out, List.length_append] at h8
                            omega
                          have HMn : Hid (M' = M1 ++ (h.ps.take (k + 1)).flatMap intsB) := hM'.symm
                          generalize h.ps[k] = pk at *
                          obtain ⟨y1, y2, hyy⟩ := list2 pk hy
                          subst hyy
                          have hpb : pb < rk := by rw [← HRk.out]; exact lt_of_cell (hx 0 _ rfl)
                          have HMe : Hid (M ++ be8 y1 ++ be8 y2 = M') := by
                            show _ = _
                            rw [← hMe]
                            simp [intsB, List.append_assoc]
                          have HX := hide hx
                          have Hbp : Hid (wr.heap[pb]? = w4.heap[pb]?) := HGk.out.other (by omega) (HOv.out _ (.inl hpb))
                          clear hX hx hy hMe hM'
                          go_upto_region 23 with fail
                          refine reg23_any M M' va vc hb pb po k h.ps.length kp y1 y2 _ (by omega) (Nat.lt_of_lt_of_le (by omega) HGk.out.grown.size) (HGk.out.apart (by omega) (HOv.out _ (.inr rfl))) (Nat.lt_of_lt_of_le (by omega) HGk.out.grown.size) (HGk.out.apart (by omega) (HOv.out _ (.inl hpb))) HGk.out.own (fun w' h1 h2 => ?_) HMe hkl ?_
                          · have h3 : w'.heap[pb]? = w.heap[pb]? := (h2.trans Hbp.out).trans (HW.out pb hpb)
                            exact ⟨HC.out 1 _ rfl w' (h1.trans Hbk.out), (World.cell?_of_block (a := ⟨pb, po + k * 2 + 0, none⟩) h3).trans (HX.out 0 _ rfl), (World.cell?_of_block (a := ⟨pb, po + k * 2 + 1, none⟩) h3).trans (HX.out 1 _ rfl)⟩
                          · intro t126 t127 t128 t129 t130 t131 t132 t133 t134 t135 t136 t137 t138 t139 t140 va6 vc6 w6 hG6
                            have HG6 := hide (HGk.out.trans hG6)
                            clear hG6
                            go_wp2_with fail
                            go_roundw
                            case rel => exact ⟨k + 1, M', va6, vc6, hkl, by go_num, rfl, HMn, HG6⟩
                            case measure => simp [intOf]; omega
                        · obtain rfl : k = h.ps.length := by omega
                          have hMe : M = M2 := by rw [HM.out, List.take_of_length_le (Nat.le_refl _), HM2.out]
                          subst hMe
                          go_wp2_with fail
                          go_meet
                          case rel => exact ⟨va, vc, rfl, HGk⟩
                    case rest =>
                      rename World => w7
                      obtain ⟨va7, vc7, rfl, HG7⟩ := hcut
                      have Hb7 : Hid (w7.heap[hb]? = w4.heap[hb]?) := HG7.out.other (by omega) (HOv.out _ (.inr rfl))
                      go_upto_region 24 with fail
                      refine reg24_any M2 L' va7 vc7 hb q1 q2 _ (by omega) (Nat.lt_of_lt_of_le (by omega) HG7.out.grown.size) (HG7.out.apart (by omega) (HOv.out _ (.inr rfl))) HG7.out.own (fun w' e => ⟨HC.out 2 _ rfl w' (e.trans Hb7.out), HC.out 3 _ rfl w' (e.trans Hb7.out)⟩) HM3 ?_
                      intro t141 t142 t143 t144 t145 t146 t147 va8 vc8 w8 hG8
                      have HG8n := hide (HFinI.out _ _ _ (HG7.out.trans hG8))
                      clear hG8
                      go_wp2_with fail
                      go_roundw
                      case rel => exact ⟨j + 1, L', va8, vc8, hlt, by go_num, rfl, HLn, HG8n⟩
                      case measure => simp [intOf]; omega
                  · obtain rfl : j = d.holds.length := by omega
                    have hLe : L = A12 := by rw [HL.out, List.take_of_length_le (Nat.le_refl _), HA12.out]
                    subst hLe
                    go_wp2_with fail
                    go_meet
                    case rel => exact ⟨vb, c, rfl, HG⟩
              case rest =>
                rename World => w9
                obtain ⟨b9, k10, rfl, HG9⟩ := hcut
                have c199 := (World.cell?_of_block (a := ⟨rk, 19, none⟩) (HG9.out.blk hz0)).trans c19
                have hwin := HOk.out.win
                have hmod3 : (d.win.length : Int) % 256 = (d.win.length : Int) := by omega
                have hbA12 := HB.out.2.2.2.2.2.2.2.2.2.2.2.1
                go_upto_region 25 with fail
                go_cut [0] from 13 to 178 (fun u wx => ∃ vb c, u = .slice vb A13.length c ∧ Hid (GrN w0 wx u A13))
                case first =>
                  have HL13 : Hid (A13.length = A12.length + 1) := by show _ = _; rw [← HA13.out, List.length_append]; rfl
                  go_wp2_with (at_builtin; refine wpList_gr_append rfl _ _ rfl HG9.out.own rfl w9.heap.size 1 1 [d.win.length] rfl rfl (by omega) (bytes_new w9 [d.win.length] 5) (by omega) ((Keep.refl _ w9).alloc _) ?_; intro g3 cap3 w10 hG; rw [HA13.out] at hG; rw [← HL13.out] at hG ⊢; have HG10 := hide (show GrN w0 w10 _ A13 from HG9.out.trans hG); clear hG)
                  go_meet
                  case rel => exact ⟨_, _, rfl, HG10.out⟩
                case rest =>
                  rename World => w10
                  obtain ⟨b10, k11, rfl, HG10⟩ := hcut
                  clear c199 hmod3 HG8 HG9
                  go_upto_block 8 with fail
                  go_cut [0, 12] from 13 to 178 (fun u _ wx => ∃ vb c, u = .slice vb A14.length c ∧ Hid (GrN w0 wx u A14))
                  case first =>
                    go_wp2_with fail
                    go_loopw [0, 12] (fun u i wr => ∃ (j : Nat) (L : List Nat) (vb : Option Addr) (c : Nat), j ≤ d.win.length ∧ i = .int .i64 (j : Nat) ∧ u = .slice vb L.length c ∧ Hid (L = A13 ++ (d.win.take j).flatMap entBy) ∧ Hid (GrN w0 wr u L)) (fun _ i _ => d.win.length - (intOf i).toNat)
                    case atStart => exact ⟨0, A13, b10, k11, by omega, rfl, rfl, show _ = _ by simp, HG10.out⟩
                    case round =>
                      obtain ⟨j, L, vb, c, hj, rfl, rfl, HL, HG⟩ := hrel
                      have c19r := (World.cell?_of_block (a := ⟨rk, 19, none⟩) (HG.out.blk hz0)).trans c19
                      by_cases hlt : j < d.win.length
                      · obtain ⟨ab, ao, ea, hX⟩ := HAt3.out (by omega)
                        subst ea
                        have hx := hX j _ (map_at hlt)
                        have hok := HOk.out.ent _ (List.getElem_mem hlt)
                        obtain ⟨L', hL'⟩ : ∃ M, A13 ++ (d.win.take (j + 1)).flatMap entBy = M := ⟨_, rfl⟩
                        have hLe : L ++ entBy d.win[j] = L' := by
                          rw [← hL', List.take_succ_eq_append_getElem hlt, List.flatMap_append, ← List.append_assoc, ← HL.out]
                          simp
                        have hLl : L.length ≤ 500000000 := by
                          have h8 := HOk.out.all
                          have : accBy d = A14 := HFin14.out
                          rw [this, ← HA14.out, ← List.take_append_drop j d.win, List.flatMap_append, ← List.append_assoc, ← HL.out, List.length_append] at h8
                          omega
                        generalize d.win[j] = e at *
                        obtain ⟨l1, l2, l3, hl3⟩ := list3 e.l hok.l
                        obtain ⟨s1, s2, s3, s4, s5, s6, s7, s8, hs8⟩ := list8 e.xs hok.xs
                        obtain ⟨n, hn⟩ := Int.eq_ofNat_of_zero_le hok.er.1
                        have hnl : n ≤ 255 := by have := hok.er.2; omega
                        have hnm := hok.nm
                        have hec : entC e = [.int .i64 e.id, .int .i64 (n : Nat), .int .i64 l1, .int .i64 l2, .int .i64 l3, .string e.nm, .int .i64 s1, .int .i64 s2, .int .i64 s3, .int .i64 s4, .int .i64 s5, .int .i64 s6, .int .i64 s7, .int .i64 s8] := by
                          unfold entC
                          rw [hl3, hs8, hn]
                          rfl
                        rw [hec] at hx
                        have hab : ab < rk := by rw [← HRk.out]; exact lt_of_cell (hx 0 _ rfl)
                        have HLa : Hid (L ++ be8 e.id ++ ansBy n [l1, l2, l3] e.nm [s1, s2, s3, s4, s5, s6, s7, s8] = L') := by
                          show _ = _
                          rw [← hLe]
                          unfold entBy ansBy
                          rw [hl3, hs8, hn]
                          simp [intsB, List.append_assoc]
                        have HLn : Hid (L' = A13 ++ (d.win.take (j + 1)).flatMap entBy) := hL'.symm
                        have HS : Hid (∀ w' : World, w'.heap[rk]? = w0.heap[rk]? → w'.heap[ab]? = w0.heap[ab]? → w'.cell? ⟨rk, 19, none⟩ = some (.slice (some ⟨ab, ao, none⟩) d.win.length k3) ∧ w'.cell? ⟨ab, ao + j * 14, none⟩ = some (.int .i64 e.id) ∧ w'.cell? ⟨ab, ao + j * 14 + 1, none⟩ = some (.int .i64 (n : Nat)) ∧ w'.cell? ⟨ab, ao + j * 14 + 2, none⟩ = some (.int .i64 l1) ∧ w'.cell? ⟨ab, ao + j * 14 + 3, none⟩ = some (.int .i64 l2) ∧ w'.cell? ⟨ab, ao + j * 14 + 4, none⟩ = some (.int .i64 l3) ∧ w'.cell? ⟨ab, ao + j * 14 + 5, none⟩ = some (.string e.nm) ∧ w'.cell? ⟨ab, ao + j * 14 + 6, none⟩ = some (.int .i64 s1) ∧ w'.cell? ⟨ab, ao + j * 14 + 7, none⟩ = some (.int .i64 s2) ∧ w'.cell? ⟨ab, ao + j * 14 + 8, none⟩ = some (.int .i64 s3) ∧ w'.cell? ⟨ab, ao + j * 14 + 9, none⟩ = some (.int .i64 s4) ∧ w'.cell? ⟨ab, ao + j * 14 + 10, none⟩ = some (.int .i64 s5) ∧ w'.cell? ⟨ab, ao + j * 14 + 11, none⟩ = some (.int .i64 s6) ∧ w'.cell? ⟨ab, ao + j * 14 + 12, none⟩ = some (.int .i64 s7) ∧ w'.cell? ⟨ab, ao + j * 14 + 13, none⟩ = some (.int .i64 s8)) := fun w' h1 h2 => by
                          have h3 : w'.heap[ab]? = w.heap[ab]? := h2.trans (HT0.out.block ab (by rw [HRk.out]; exact hab) (by simp))
                          have hc : ∀ k u, [Value.int .i64 e.id, .int .i64 (n : Nat), .int .i64 l1, .int .i64 l2, .int .i64 l3, .string e.nm, .int .i64 s1, .int .i64 s2, .int .i64 s3, .int .i64 s4, .int .i64 s5, .int .i64 s6, .int .i64 s7, .int .i64 s8][k]? = some u → w'.cell? ⟨ab, ao + j * 14 + k, none⟩ = some u := fun k u hk => (World.cell?_of_block (a := ⟨ab, ao + j * 14 + k, none⟩) h3).trans (hx k u hk)
                          exact ⟨(World.cell?_of_block (a := ⟨rk, 19, none⟩) h1).trans c19, hc 0 _ rfl, hc 1 _ rfl, hc 2 _ rfl, hc 3 _ rfl, hc 4 _ rfl, hc 5 _ rfl, hc 6 _ rfl, hc 7 _ rfl, hc 8 _ rfl, hc 9 _ rfl, hc 10 _ rfl, hc 11 _ rfl, hc 12 _ rfl, hc 13 _ rfl⟩
                        have hab0 : ab < w0.heap.size := by omega
                        clear hx hX hok hec hL' hLe hl3 hs8 hn
                        go_upto_region 29 with fail
                        refine reg29_any L L' vb c rk ab ao j n k3 d.win.length e.id l1 l2 l3 e.nm s1 s2 s3 s4 s5 s6 s7 s8 _ hlt hnl hnm hLl hz0 hab0 HG HS HLa ?_
                        intro t162 t163 t164 t165 t166 t167 t168 t169 t170 t171 t172 t173 t174 t175 t176 va vc wn hGn
                        have HGn := hide hGn
                        clear hGn
                        go_wp2_with fail
                        go_roundw
                        case rel => exact ⟨j + 1, L', va, vc, hlt, by go_num, rfl, HLn, HGn⟩
                        case measure => simp [intOf]; omega
                      · obtain rfl : j = d.win.length := by omega
                        have hLe : L = A14 := by rw [HL.out, List.take_of_length_le (Nat.le_refl _), HA14.out]
                        subst hLe
                        go_wp2_with fail
                        go_meet
                        case rel => exact ⟨vb, c, rfl, HG⟩
                  case rest =>
                    rename World => w11
                    obtain ⟨b11, k12, rfl, HG11⟩ := hcut
                    go_wp2_with fail
                    go_ret
                    exact ⟨_, rfl, Gr.after (Keep.of HT0.out) HG11.out (fun g e => by cases e)⟩
end Go.Proofs.Ytghgkjollafeiaa
