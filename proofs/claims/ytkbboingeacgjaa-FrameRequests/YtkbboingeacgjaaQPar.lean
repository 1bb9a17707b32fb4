/-
  ParsePlan, ParseStatement, walked.
-/
import Derived.Test.YtkbboingeacgjaaQStm
namespace Go.Proofs.Ytkbboingeacgjaa
open Go.RowKit

def endS (s : Sx) : Nat := (if s.l = [] then s else refuseS s 9).e

def noText : ByteArray := { data := #[] }

/-- What is parsed of a text and n ints: the fault, and the values. -/
def parsedTi (n : Nat) (l : List Nat) : Nat × ByteArray × List Int :=
  if endS (tiS .pr ⟨l, 0⟩ noText (List.replicate n 0)).1 = 0 then (0, (tiS .pr ⟨l, 0⟩ noText (List.replicate n 0)).2) else (endS (tiS .pr ⟨l, 0⟩ noText (List.replicate n 0)).1, noText, List.replicate n 0)

theorem tiS_length (k : Kd) (s : Sx) (nm : ByteArray) (xs : List Int) : (tiS k s nm xs).2.2.length = xs.length := numsS_length _ _ _

/-- A new parser of these bytes. -/
theorem pr_new {w w1 : World} {O R : Nat → Prop} {a : Option Addr} {cap b g : Nat} {l : List Nat} (hb : b = w.heap.size) (hw : w1 = w.alloc (.cells #[.slice a l.length cap, .int .i64 0] 132)) (hB : BytesAt w a l) (hlc : l.length ≤ cap) (hcm : cap ≤ maxLen) (ha : a = none ∧ cap = 0 ∨ ∃ ab ao, a = some ⟨ab, ao, none⟩) (hg : ∀ x, l ≠ [] → a = some x → x.block = g) (hO : ∀ x, O x ∨ R x → x < w.heap.size) (hl : ∀ x ∈ l, x < 256) (hog : O g) : PrAt w1 O R b g ⟨l, 0⟩ := by
  subst hb
  subst hw
  refine ⟨⟨a, cap, World.cell?_alloc_at _ _ _ _ rfl, hlc, hcm, ha, ?_, hg⟩, World.cell?_alloc_at _ _ _ _ rfl, fun o => ?_, ⟨fun h => by have := hO _ (.inl h); omega, fun h => by have := hO _ (.inr h); omega⟩, hl, hog⟩
  · exact hB.keep (fun x hx ha => Below.heap_alloc w _ _ (hB.lt x hx ha))
  · unfold World.frozen?
    rw [show (w.alloc _).heap[(⟨w.heap.size, o, none⟩ : Addr).block]? = _ from heap_alloc_new w _]
    simp

/-- What is there when a parse begins. -/
theorem parse_start {w : World} (a : Option Addr) (cap n : Nat) (l : List Nat) (hn : l.length = n) (hB : BytesAt w a l) (hlc : n ≤ cap) (hcm : cap ≤ maxLen) (ha : a = none ∧ cap = 0 ∨ ∃ ab ao, a = some ⟨ab, ao, none⟩) (hl : ∀ x ∈ l, x < 256) (m : Nat) (Z : Array Value) (t : TypeId) (hZ : Z.toList = Value.string noText :: (List.replicate m 0).map (Value.int .i64)) :
    ∃ g, StAt .pr ((((w.alloc (.cells Z t)).alloc (.cells Z t)).alloc (.cells Z t)).alloc (.cells #[.slice a n cap, .int .i64 0] 132)) (fun x => x < w.heap.size + 1 ∨ x = w.heap.size + 2) (fun x => x = w.heap.size + 1) (w.heap.size + 3) g ⟨l, 0⟩ ∧
      ((((w.alloc (.cells Z t)).alloc (.cells Z t)).alloc (.cells Z t)).alloc (.cells #[.slice a n cap, .int .i64 0] 132)).cell? ⟨w.heap.size + 1, 0, none⟩ = some (.string noText) ∧ IntsAt ((((w.alloc (.cells Z t)).alloc (.cells Z t)).alloc (.cells Z t)).alloc (.cells #[.slice a n cap, .int .i64 0] 132)) (w.heap.size + 1) 1 (List.replicate m 0) ∧ Free .pr ((((w.alloc (.cells Z t)).alloc (.cells Z t)).alloc (.cells Z t)).alloc (.cells #[.slice a n cap, .int .i64 0] 132)) (w.heap.size + 1) ∧
      Keep (fun _ => True) w ((((w.alloc (.cells Z t)).alloc (.cells Z t)).alloc (.cells Z t)).alloc (.cells #[.slice a n cap, .int .i64 0] 132)) ∧
      ∀ q, q = w.heap.size ∨ q = w.heap.size + 2 → ((((w.alloc (.cells Z t)).alloc (.cells Z t)).alloc (.cells Z t)).alloc (.cells #[.slice a n cap, .int .i64 0] 132)).cell? ⟨q, 0, none⟩ = some (.string noText) ∧ IntsAt ((((w.alloc (.cells Z t)).alloc (.cells Z t)).alloc (.cells Z t)).alloc (.cells #[.slice a n cap, .int .i64 0] 132)) q 1 (List.replicate m 0) ∧ ∀ o, ((((w.alloc (.cells Z t)).alloc (.cells Z t)).alloc (.cells Z t)).alloc (.cells #[.slice a n cap, .int .i64 0] 132)).frozen? ⟨q, o, none⟩ = false := by
  obtain ⟨w1, hw1⟩ : ∃ w1, w.alloc (.cells Z t) = w1 := ⟨_, rfl⟩
  obtain ⟨w2, hw2⟩ : ∃ w2, w1.alloc (.cells Z t) = w2 := ⟨_, rfl⟩
  obtain ⟨w3, hw3⟩ : ∃ w3, w2.alloc (.cells Z t) = w3 := ⟨_, rfl⟩
  obtain ⟨w4, hw4⟩ : ∃ w4, w3.alloc (.cells #[.slice a n cap, .int .i64 0] 132) = w4 := ⟨_, rfl⟩
  have s1 : w1.heap.size = w.heap.size + 1 := by rw [← hw1]; simp
  have s2 : w2.heap.size = w.heap.size + 2 := by rw [← hw2]; simp [s1]
  have s3 : w3.heap.size = w.heap.size + 3 := by rw [← hw3]; simp [s2]
  have k1 : Keep (fun _ => True) w w1 := by rw [← hw1]; exact (Keep.refl _ _).alloc _
  have k2 : Keep (fun _ => True) w1 w2 := by rw [← hw2]; exact (Keep.refl _ _).alloc _
  have k3 : Keep (fun _ => True) w2 w3 := by rw [← hw3]; exact (Keep.refl _ _).alloc _
  have k4 : Keep (fun _ => True) w3 w4 := by rw [← hw4]; exact (Keep.refl _ _).alloc _
  have fz : ∀ (u : World) (o : Nat), (u.alloc (.cells Z t)).frozen? ⟨u.heap.size, o, none⟩ = false := fun u o => by
    unfold World.frozen?
    rw [show (u.alloc _).heap[(⟨u.heap.size, o, none⟩ : Addr).block]? = _ from heap_alloc_new u _]
    simp
  have r1 := rec_new w noText (List.replicate m 0) Z t hZ
  have r2 := rec_new w1 noText (List.replicate m 0) Z t hZ
  have r3 := rec_new w2 noText (List.replicate m 0) Z t hZ
  have f1 := fz w
  have f2 := fz w1
  have f3 := fz w2
  rw [hw1] at r1 f1
  rw [hw2, s1] at r2 f2
  rw [hw3, s2] at r3 f3
  have kb : Keep (fun _ => True) w w3 := (k1.trans k2).trans k3
  have hB3 : BytesAt w3 a l := kb.bytes hB (fun _ _ _ => trivial)
  have hex : ∃ g, (∀ x, l ≠ [] → a = some x → x.block = g) ∧ g < w.heap.size + 1 := by
    by_cases hnil : l = []
    · exact ⟨w.heap.size, fun x h => absurd hnil h, by omega⟩
    · rcases ha with ⟨rfl, _⟩ | ⟨ab, ao, rfl⟩
      · rcases hB with h | ⟨_, _, e, _⟩
        · exact absurd h hnil
        · cases e
      · have := hB.lt ⟨ab, ao, none⟩ hnil rfl
        exact ⟨ab, fun x _ e => by obtain rfl := Option.some.inj e; rfl, Nat.lt_succ_of_lt this⟩
  obtain ⟨g, hg, hgl⟩ := hex
  rw [hw1, hw2, hw3, hw4]
  have k14 := (k2.trans k3).trans k4
  have k24 := k3.trans k4
  refine ⟨g, ?_, (k24.cell (by omega) trivial).trans r2.1, fun i hi => (k24.cell (by omega) trivial).trans (r2.2 i hi), fun _ o => (k24.fz (by omega) trivial).trans (f2 o), kb.trans k4, fun q hq => ?_⟩
  · exact pr_new s3.symm (by rw [← hw4, hn]) hB3 (by omega) hcm ha hg (fun x hx => by omega) hl (.inl hgl)
  · rcases hq with rfl | rfl
    · exact ⟨(k14.cell (by omega) trivial).trans r1.1, fun i hi => (k14.cell (by omega) trivial).trans (r1.2 i hi), fun o => (k14.fz (by omega) trivial).trans (f1 o)⟩
    · exact ⟨(k4.cell (by omega) trivial).trans r3.1, fun i hi => (k4.cell (by omega) trivial).trans (r3.2 i hi), fun o => (k4.fz (by omega) trivial).trans (f3 o)⟩

/-- What is there when a parse ends. -/
structure ParEnd (w w2 : World) (m : Nat) (nm : ByteArray) (ys : List Int) : Prop where
  p0 : w2.cell? ⟨w.heap.size + 1, 0, none⟩ = some (.string nm)
  p1 : ∀ i (h : i < ys.length), w2.cell? ⟨w.heap.size + 1, i + 1, none⟩ = some (.int .i64 ys[i])
  p2 : w2.cell? ⟨w.heap.size + 1 + 1, 0, none⟩ = some (.string noText)
  p3 : ∀ i (h : i < (List.replicate m (0 : Int)).length), w2.cell? ⟨w.heap.size + 1 + 1, i + 1, none⟩ = some (.int .i64 (List.replicate m (0 : Int))[i])
  p4 : w2.cell? ⟨w.heap.size, 0, none⟩ = some (.string noText)
  p5 : ∀ i (h : i < (List.replicate m (0 : Int)).length), w2.cell? ⟨w.heap.size, i + 1, none⟩ = some (.int .i64 (List.replicate m (0 : Int))[i])
  p6 : ∀ o, w2.frozen? ⟨w.heap.size, o, none⟩ = false
  p7 : Turn [] w w2

theorem par_end {w w0 w1 w2 : World} {m n : Nat} {nm : ByteArray} {ys : List Int} (hK : Keep (fun _ => True) w w0)
    (hc : ∀ q, q = w.heap.size ∨ q = w.heap.size + 2 → w0.cell? ⟨q, 0, none⟩ = some (.string noText) ∧ IntsAt w0 q 1 (List.replicate m 0) ∧ ∀ o, w0.frozen? ⟨q, o, none⟩ = false)
    (hS : Step (fun x => (x < w.heap.size + 1 ∨ x = w.heap.size + 2) ∨ x = w.heap.size + 1) (w.heap.size + 1) 0 n w0 w1) (h0 : w1.cell? ⟨w.heap.size + 1, 0, none⟩ = some (.string nm)) (hI : IntsAt w1 (w.heap.size + 1) 1 ys)
    (hk : Keep (fun x => x ≠ w.heap.size + 3) w1 w2) (hs : w.heap.size + 3 < w1.heap.size) : ParEnd w w2 m nm ys := by
  have a := hc w.heap.size (.inl rfl)
  have b := hc (w.heap.size + 2) (.inr rfl)
  have la := lt_of_cell a.1
  have lb := lt_of_cell b.1
  have ka : ∀ o, w2.cell? ⟨w.heap.size, o, none⟩ = w0.cell? ⟨w.heap.size, o, none⟩ := fun o => (hk.cell (by omega) (by omega)).trans (hS.keep.cell la ⟨.inl (.inl (by omega)), by omega⟩)
  have kb : ∀ o, w2.cell? ⟨w.heap.size + 2, o, none⟩ = w0.cell? ⟨w.heap.size + 2, o, none⟩ := fun o => (hk.cell (by omega) (by omega)).trans (hS.keep.cell lb ⟨.inl (.inr rfl), by omega⟩)
  refine ⟨(hk.cell (by omega) (by omega)).trans h0, fun i hi => ?_, (kb 0).trans b.1, fun i hi => ?_, (ka 0).trans a.1, fun i hi => ?_, fun o => (hk.fz (by omega) (by omega)).trans ((hS.keep.fz la ⟨.inl (.inl (by omega)), by omega⟩).trans (a.2.2 o)), ?_⟩
  · rw [Nat.add_comm i 1]; exact (hk.cell (by omega) (by omega)).trans (hI i hi)
  · rw [Nat.add_comm i 1]; exact (kb (1 + i)).trans (b.2.1 i hi)
  · rw [Nat.add_comm i 1]; exact (ka (1 + i)).trans (a.2.1 i hi)
  · refine Keep.turn (O := fun x => x < w.heap.size) (((hK.less (fun _ _ _ => trivial)).trans (hS.keep.less (fun x _ hx => ⟨.inl (.inl (by omega)), by omega⟩))).trans (hk.less (fun x _ hx => by omega))) (fun x hx => hx)

theorem list9 {α : Type} (l : List α) (h : l.length = 9) : ∃ y1 y2 y3 y4 y5 y6 y7 y8 y9, l = [y1, y2, y3, y4, y5, y6, y7, y8, y9] := by
  match l, h with
  | [y1, y2, y3, y4, y5, y6, y7, y8, y9], _ => exact ⟨y1, y2, y3, y4, y5, y6, y7, y8, y9, rfl⟩

set_option maxRecDepth 100000 in
set_option maxHeartbeats 3200000 in
theorem parse_plan {w : World} (a : Option Addr) (cap n : Nat) (l : List Nat) (hn : l.length = n) (hB : BytesAt w a l) (hlc : n ≤ cap) (hcm : cap ≤ maxLen) (ha : a = none ∧ cap = 0 ∨ ∃ ab ao, a = some ⟨ab, ao, none⟩) (hl : ∀ x ∈ l, x < 256) :
    Calls Try.prog 90 #[.slice a n cap, .func (.func 85) #[] #[]] w fun r w' => ∃ f nm y1 y2 y3 y4 y5 y6 y7 y8 y9, parsedTi 9 l = (f, nm, [y1, y2, y3, y4, y5, y6, y7, y8, y9]) ∧ r = .returned (.tuple #[.agg #[.string nm, .int .i64 y1, .int .i64 y2, .int .i64 y3, .int .i64 y4, .int .i64 y5, .int .i64 y6, .int .i64 y7, .int .i64 y8, .int .i64 y9], .int .i64 (f : Nat)]) ∧ Turn [] w w' := by
  obtain ⟨g, hS, hr1, hi1, hf1, hK, hc2⟩ := parse_start a cap n l hn hB hlc hcm ha hl 9 #[Value.string { data := #[] }, Value.int .i64 0, Value.int .i64 0, Value.int .i64 0, Value.int .i64 0, Value.int .i64 0, Value.int .i64 0, Value.int .i64 0, Value.int .i64 0, Value.int .i64 0] 23 rfl
  have hC := cplan .pr (w.heap.size + 1) 0 noText (List.replicate 9 0) (by simp) (fun e => by cases e) hS rfl (by omega) hr1 hi1 hf1 (fun e => by cases e)
  obtain ⟨y1, y2, y3, y4, y5, y6, y7, y8, y9, hy⟩ := list9 (tiS .pr ⟨l, 0⟩ noText (List.replicate 9 0)).2.2 (by rw [tiS_length]; simp)
  have hpar : parsedTi 9 l = if endS (tiS .pr ⟨l, 0⟩ noText (List.replicate 9 0)).1 = 0 then (0, (tiS .pr ⟨l, 0⟩ noText (List.replicate 9 0)).2.1, [y1, y2, y3, y4, y5, y6, y7, y8, y9]) else (endS (tiS .pr ⟨l, 0⟩ noText (List.replicate 9 0)).1, noText, List.replicate 9 0) := by
    unfold parsedTi
    rw [← hy]
  rw [hy] at hC
  generalize parsedTi 9 l = pt at *
  generalize (tiS .pr ⟨l, 0⟩ noText (List.replicate 9 0)).1 = s1 at *
  generalize (tiS .pr ⟨l, 0⟩ noText (List.replicate 9 0)).2.1 = nm at *
  have HPar := hide hpar
  have HC := hide hC
  have HK := hide hK
  have HC2 := hide hc2
  clear hS hr1 hi1 hf1 hC hpar hy hB hlc hcm ha hl hn hK hc2
  go_enter Try.func90, Try.ntmps90
  go_wp2_with fail
  refine HC.out.mono ?_
  rintro e w1 ⟨rfl, hS1, hn1, hI1, hSt⟩
  have hs4 : w.heap.size + 3 < w1.heap.size := Nat.lt_of_lt_of_le (by simp) hSt.keep.size
  have hA : ∀ w2, Keep (fun x => x ≠ w.heap.size + 3) w1 w2 → ParEnd w w2 9 nm [y1, y2, y3, y4, y5, y6, y7, y8, y9] := fun w2 hk => par_end HK.out HC2.out hSt hn1 hI1 hk hs4
  have HA := hide hA
  have HS1 : Hid (PrAt w1 _ _ (w.heap.size + 3) g s1) := hS1
  clear hS1 hn1 hI1 hSt hA
  go_wp2_with fail
  refine (pend HS1.out).mono ?_
  rintro e w2 ⟨rfl, hk⟩
  have hP := HA.out w2 hk
  obtain ⟨p0, p1, p2, p3, p4, p5, p6, p7⟩ := hP
  have q1 := p1 0 (by simp)
  have z1 := p3 0 (by simp)
  have r1 := p5 0 (by simp)
  have q2 := p1 1 (by simp)
  have z2 := p3 1 (by simp)
  have r2 := p5 1 (by simp)
  have q3 := p1 2 (by simp)
  have z3 := p3 2 (by simp)
  have r3 := p5 2 (by simp)
  have q4 := p1 3 (by simp)
  have z4 := p3 3 (by simp)
  have r4 := p5 3 (by simp)
  have q5 := p1 4 (by simp)
  have z5 := p3 4 (by simp)
  have r5 := p5 4 (by simp)
  have q6 := p1 5 (by simp)
  have z6 := p3 5 (by simp)
  have r6 := p5 5 (by simp)
  have q7 := p1 6 (by simp)
  have z7 := p3 6 (by simp)
  have r7 := p5 6 (by simp)
  have q8 := p1 7 (by simp)
  have z8 := p3 7 (by simp)
  have r8 := p5 7 (by simp)
  have q9 := p1 8 (by simp)
  have z9 := p3 8 (by simp)
  have r9 := p5 8 (by simp)
  simp only [List.getElem_cons_zero, List.getElem_cons_succ, List.getElem_replicate] at q1 z1 r1 q2 z2 r2 q3 z3 r3 q4 z4 r4 q5 z5 r5 q6 z6 r6 q7 z7 r7 q8 z8 r8 q9 z9 r9
  have HT := hide p7
  clear p1 p3 p5 p7 hk
  by_cases hf : endS s1 = 0
  · have hf' : ((if s1.l = [] then s1 else refuseS s1 9).e : Int) = 0 := by have : (if s1.l = [] then s1 else refuseS s1 9).e = 0 := hf; omega
    have hpar := HPar.out
    rw [if_pos hf] at hpar
    have HP := hide hpar
    clear hpar hf HPar HC HK HC2 HA HS1
    go_wp2_with fail
    refine bodyPost_ret (v := .tuple #[.agg #[.string nm, .int .i64 y1, .int .i64 y2, .int .i64 y3, .int .i64 y4, .int .i64 y5, .int .i64 y6, .int .i64 y7, .int .i64 y8, .int .i64 y9], .int .i64 0]) ?_ rfl ?_
    · simp [results, Try.results90, go_sem, p4, r1, r2, r3, r4, r5, r6, r7, r8, r9]
    · refine ⟨0, nm, y1, y2, y3, y4, y5, y6, y7, y8, y9, HP.out, ?_, ?_⟩
      · rfl
      · exact ((((((((((HT.out.setNew (Nat.le_refl _) _ _).setNew (Nat.le_refl _) _ _).setNew (Nat.le_refl _) _ _).setNew (Nat.le_refl _) _ _).setNew (Nat.le_refl _) _ _).setNew (Nat.le_refl _) _ _).setNew (Nat.le_refl _) _ _).setNew (Nat.le_refl _) _ _).setNew (Nat.le_refl _) _ _).setNew (Nat.le_refl _) _ _)
  · have hf' : ¬ (((if s1.l = [] then s1 else refuseS s1 9).e : Int) = 0) := by have : ¬ (if s1.l = [] then s1 else refuseS s1 9).e = 0 := hf; omega
    have hpar := HPar.out
    rw [if_neg hf] at hpar
    have he : (if s1.l = [] then s1 else refuseS s1 9).e = endS s1 := rfl
    generalize (if s1.l = [] then s1 else refuseS s1 9).e = ee at *
    have HP : Hid (pt = (ee, noText, [0, 0, 0, 0, 0, 0, 0, 0, 0])) := by show _ = _; rw [hpar, ← he]; rfl
    clear hpar hf he HPar HC HK HC2 HA HS1 q1 q2 q3 q4 q5 q6 q7 q8 q9 p0
    go_wp2_with fail
    refine bodyPost_ret (v := .tuple #[.agg #[.string noText, .int .i64 0, .int .i64 0, .int .i64 0, .int .i64 0, .int .i64 0, .int .i64 0, .int .i64 0, .int .i64 0, .int .i64 0], .int .i64 (ee : Nat)]) ?_ rfl ?_
    · simp [results, Try.results90, go_sem, p4, r1, r2, r3, r4, r5, r6, r7, r8, r9]
    · refine ⟨ee, noText, 0, 0, 0, 0, 0, 0, 0, 0, 0, ?_, ?_, ?_⟩
      · exact HP.out
      · rfl
      · exact ((((((((((HT.out.setNew (Nat.le_refl _) _ _).setNew (Nat.le_refl _) _ _).setNew (Nat.le_refl _) _ _).setNew (Nat.le_refl _) _ _).setNew (Nat.le_refl _) _ _).setNew (Nat.le_refl _) _ _).setNew (Nat.le_refl _) _ _).setNew (Nat.le_refl _) _ _).setNew (Nat.le_refl _) _ _).setNew (Nat.le_refl _) _ _)

end Go.Proofs.Ytkbboingeacgjaa
