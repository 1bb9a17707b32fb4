/-
  Accounts, held against one another.
-/
import Derived.Test.YtghgkjollafeiaaSA
import Derived.Test.YtghgkjollafeiaaSB
import Derived.Test.YtghgkjollafeiaaSX
import Derived.Test.YtghgkjollafeiaaRB
namespace Go.Proofs.Ytghgkjollafeiaa
open Go.RowKit

theorem AcIn.turn {w w' : World} {cs : List Value} {d : AccD} {v1 v2 v3 : Value} {hcs : List (List Value)} (h : AcIn w cs d v1 v2 v3 hcs) (hT : Turn [] w w') : AcIn w' cs d v1 v2 v3 hcs := h.keep (fun x hx => hT.block x hx (by simp))
theorem Turn.drewN {S : List Nat} {u w : World} (h : Turn S u w) (n : Nat) : Turn S u (w.drewN n) := ⟨h.os, h.tape, h.output, h.size, h.block⟩

/-- An account's cells, written out. -/
structure Lit (w : World) (cs : List Value) (d : AccD) (hcs : List (List Value)) (x1 x2 x3 x4 x5 x6 x7 x8 x9 t1 t2 t3 n1 n2 : Int) (a1 a2 a3 : Option Addr) (k1 k2 k3 : Nat) : Prop where
  px : d.px = [x1, x2, x3, x4, x5, x6, x7, x8, x9]
  t : d.t = [t1, t2, t3]
  n : d.n = [n1, n2]
  e : cs.toArray = #[Value.string d.nm, .string d.key, .string d.pn, .int .i64 x1, .int .i64 x2, .int .i64 x3, .int .i64 x4, .int .i64 x5, .int .i64 x6, .int .i64 x7, .int .i64 x8, .int .i64 x9, .int .i64 t1, .int .i64 t2, .int .i64 t3, .slice a1 d.lots.length k1, .int .i64 n1, .int .i64 n2, .slice a2 d.holds.length k2, .slice a3 d.win.length k3]
  r1 : RowsN w a1 d.lots.length 9 (fun i => (d.lots.map intC).getD i [])
  r2 : RowsN w a2 d.holds.length 4 (fun i => hcs.getD i [])
  r3 : RowsN w a3 d.win.length 14 (fun i => (d.win.map entC).getD i [])
  hv : HoldsV w hcs d.holds

theorem AcIn.lit {w : World} {cs : List Value} {d : AccD} {v1 v2 v3 : Value} {hcs : List (List Value)} (h : AcIn w cs d v1 v2 v3 hcs) :
    ∃ x1 x2 x3 x4 x5 x6 x7 x8 x9 t1 t2 t3 n1 n2 a1 a2 a3 k1 k2 k3, Lit w cs d hcs x1 x2 x3 x4 x5 x6 x7 x8 x9 t1 t2 t3 n1 n2 a1 a2 a3 k1 k2 k3 := by
  obtain ⟨x1, x2, x3, x4, x5, x6, x7, x8, x9, hpx⟩ := list9 d.px h.lp
  obtain ⟨t1, t2, t3, ht⟩ := list3 d.t h.lt
  obtain ⟨n1, n2, hn⟩ := list2 d.n h.ln
  obtain ⟨a1, k1, e1, r1⟩ := h.r1.rowsN
  obtain ⟨a2, k2, e2, r2⟩ := h.r2.rowsN
  obtain ⟨a3, k3, e3, r3⟩ := h.r3.rowsN
  rw [List.length_map] at e1 r1 e3 r3
  rw [h.hl] at e2 r2
  refine ⟨x1, x2, x3, x4, x5, x6, x7, x8, x9, t1, t2, t3, n1, n2, a1, a2, a3, k1, k2, k3, hpx, ht, hn, ?_, r1, r2, r3, h.hl, fun i hi => ?_⟩
  · rw [h.e, hpx, ht, hn, e1, e2, e3]
    rfl
  · have hi' : i < hcs.length := by rw [h.hl]; exact hi
    have := h.hh i hi' hi
    rw [List.getD_eq_getElem?_getD, List.getElem?_eq_getElem hi', List.getD_eq_getElem?_getD, List.getElem?_eq_getElem hi]
    exact this

/-- Not too many of anything. -/
structure Small (d : AccD) : Prop where
  lots : d.lots.length ≤ 100000
  holds : d.holds.length ≤ 100000
  ps : ∀ x ∈ d.holds, x.ps.length ≤ 100000
  win : d.win.length ≤ 100000

theorem HoldsV.turn {w w' : World} {css : List (List Value)} {xs : List HoldD} (h : HoldsV w css xs) (hT : Turn [] w w') : HoldsV w' css xs := ⟨h.1, fun i hi => by
  obtain ⟨v, e, h1, h2, h3⟩ := h.2 i hi
  exact ⟨v, e, h1, h2, h3.keep (fun x _ hx => hT.block x hx (by simp))⟩⟩

set_option maxHeartbeats 1600000 in
/-- Both answer alike; of what is the same: yes. -/
theorem same_both {w : World} {ca cb : List Value} {a b : AccD} {va1 va2 va3 vb1 vb2 vb3 : Value} {ha hb : List (List Value)} (hA : AcIn w ca a va1 va2 va3 ha) (hB : AcIn w cb b vb1 vb2 vb3 hb) (hS : Small a) :
    ∃ r : Bool, (a = b → r = true) ∧ (∀ w', Turn [] w w' → Calls Try.prog 12 #[.agg ca.toArray, .agg cb.toArray] w' fun e w'' => e = .returned (.bool r) ∧ Turn [] w' w'') ∧
      (∀ w', Turn [] w w' → Calls Try.prog 14 #[.agg ca.toArray, .agg cb.toArray] w' fun e w'' => e = .returned (.bool r) ∧ Turn [] w' w'') := by
  obtain ⟨x1, x2, x3, x4, x5, x6, x7, x8, x9, t1, t2, t3, n1, n2, a1, a2, a3, k1, k2, k3, La⟩ := hA.lit
  obtain ⟨y1, y2, y3, y4, y5, y6, y7, y8, y9, s1, s2, s3, m1, m2, b1, b2, b3, j1, j2, j3, Lb⟩ := hB.lit
  have hP : ∃ rp, (a = b → rp = true) ∧ EqlS 23 #[Value.string a.pn, .int .i64 x1, .int .i64 x2, .int .i64 x3, .int .i64 x4, .int .i64 x5, .int .i64 x6, .int .i64 x7, .int .i64 x8, .int .i64 x9] #[Value.string b.pn, .int .i64 y1, .int .i64 y2, .int .i64 y3, .int .i64 y4, .int .i64 y5, .int .i64 y6, .int .i64 y7, .int .i64 y8, .int .i64 y9] rp := by
    by_cases hab : a = b
    · subst hab
      have hpx := La.px.symm.trans Lb.px
      simp only [List.cons.injEq, and_true] at hpx
      obtain ⟨rfl, rfl, rfl, rfl, rfl, rfl, rfl, rfl, rfl⟩ := hpx
      exact ⟨true, fun _ => rfl, eql_pp a.pn x1 x2 x3 x4 x5 x6 x7 x8 x9⟩
    · obtain ⟨r, hr⟩ := eql_pq a.pn b.pn x1 x2 x3 x4 x5 x6 x7 x8 x9 y1 y2 y3 y4 y5 y6 y7 y8 y9
      exact ⟨r, fun h => absurd h hab, hr⟩
  obtain ⟨rp, hrp, hP⟩ := hP
  refine ⟨decide (a.nm.toList = b.nm.toList) && (decide (a.key.toList = b.key.toList) && (rp && (decide (t1 = s1) && (decide (t2 = s2) && (decide (t3 = s3) && (decide (n1 = m1) && (decide (n2 = m2) && (lotsQ a.lots b.lots && (holdsQ a.holds b.holds && winQ a.win b.win))))))))), fun hab => ?_, fun w' hT => ?_, fun w' hT => ?_⟩
  · subst hab
    have ht := La.t.symm.trans Lb.t
    have hn := La.n.symm.trans Lb.n
    simp only [List.cons.injEq, and_true] at ht hn
    obtain ⟨rfl, rfl, rfl⟩ := ht
    obtain ⟨rfl, rfl⟩ := hn
    rw [hrp rfl, lotsQ_self, holdsQ_self, winQ_self]
    simp
  · rw [La.e, Lb.e]
    refine refSame w' _ _ _ _ _ _ _ _ _ _ _ _ _ _ _ _ _ _ _ _ _ _ _ _ _ _ _ _ _ _ _ _ _ _ _ _ _ _ _ _ _ _ _ _ _ _ _ _ _ _ _ _ rp _ _ _ hP (fun w2 hT2 => ?_) (fun w2 hT2 => ?_) (fun w2 hT2 => ?_)
    · exact (lots_both 34 (.inl rfl) w2 a1 b1 k1 j1 a.lots b.lots hS.lots (La.r1.turn (hT.trans hT2)) (Lb.r1.turn (hT.trans hT2)) hA.ll hB.ll).mono fun e w3 ⟨he, m, hm⟩ => ⟨he, by rw [hm]; exact (Turn.refl [] w2).drewN m⟩
    · exact (holds_ref w2 a2 b2 k2 j2 a.holds b.holds ha hb hS.holds hS.ps (La.r2.turn (hT.trans hT2)) (Lb.r2.turn (hT.trans hT2)) (La.hv.turn (hT.trans hT2)) (Lb.hv.turn (hT.trans hT2))).mono fun e w3 ⟨he, m, hm⟩ => ⟨he, by rw [hm]; exact (Turn.refl [] w2).drewN m⟩
    · exact (win_both 36 (.inl rfl) w2 a3 b3 k3 j3 a.win b.win hS.win (La.r3.turn (hT.trans hT2)) (Lb.r3.turn (hT.trans hT2)) hA.we hB.we).mono fun e w3 ⟨he, m, hm⟩ => ⟨he, by rw [hm]; exact (Turn.refl [] w2).drewN m⟩
  · rw [La.e, Lb.e]
    refine recSame w' _ _ _ _ _ _ _ _ _ _ _ _ _ _ _ _ _ _ _ _ _ _ _ _ _ _ _ _ _ _ _ _ _ _ _ _ _ _ _ _ _ _ _ _ _ _ _ _ _ _ _ _ rp _ _ _ hP (fun w2 hT2 => ?_) (fun w2 hT2 => ?_) (fun w2 hT2 => ?_)
    · exact (lots_both 37 (.inr rfl) w2 a1 b1 k1 j1 a.lots b.lots hS.lots (La.r1.turn (hT.trans hT2)) (Lb.r1.turn (hT.trans hT2)) hA.ll hB.ll).mono fun e w3 ⟨he, m, hm⟩ => ⟨he, by rw [hm]; exact (Turn.refl [] w2).drewN m⟩
    · exact holds_rec w2 a2 b2 k2 j2 a.holds b.holds ha hb hS.holds hS.ps (La.r2.turn (hT.trans hT2)) (Lb.r2.turn (hT.trans hT2)) (La.hv.turn (hT.trans hT2)) (Lb.hv.turn (hT.trans hT2))
    · exact (win_both 40 (.inr rfl) w2 a3 b3 k3 j3 a.win b.win hS.win (La.r3.turn (hT.trans hT2)) (Lb.r3.turn (hT.trans hT2)) hA.we hB.we).mono fun e w3 ⟨he, m, hm⟩ => ⟨he, by rw [hm]; exact (Turn.refl [] w2).drewN m⟩
end Go.Proofs.Ytghgkjollafeiaa
