/-
  The law PagerPlays, its loop.
-/
import Derived.Test.YtjbjcjcahkfgbaaDoorPlKind
namespace Go.Proofs.YtjbjcjcahkfgbaaDoor.Pl
open Go.RowKit Go.Maps

noncomputable def head : Code := Cut.l body
noncomputable def r14 : Code := Cut.r (Cut.r body)
noncomputable def r15 : Code := Cut.l b1
noncomputable def r16 : Code := Cut.l (Cut.r b1)
noncomputable def pick : Code := Cut.l (Cut.r (Cut.r b1))

set_option maxRecDepth 100000 in
set_option maxHeartbeats 3200000 in
theorem head_any (_w0 w : World) (L : Array Value) (Q : Exit → Act → World → Prop) (N : Nat) (ca : Option Addr) (cn cc b _m p _sm _rb j : Nat) (_s : St) (q : Pg) (vA vD : Value) (_all _done : List (Nat × List Nat)) (news wrote : Nat)
    (hj : j ≤ 120) (_hcn : cn ≤ maxLen) (hS : Slots L N ca cn cc b p vA vD (textOf q.root) q.c news wrote j)
    (hQ : ∀ L' : Array Value, Slots L' N ca cn cc b p vA vD (textOf q.root) q.c news wrote j → (j < cn → j < 120 → Q .normal ⟨L', []⟩ w) ∧ Q (.exit 0) ⟨L', []⟩ w) :
    Code.wp Tryd.prog head Q ⟨L, []⟩ w := by
  have HQ := hide hQ
  unfold maxLen at _hcn
  rw [lit L hS.size, hS.s0, hS.s1, hS.s5, hS.s7, hS.s9, hS.s10, hS.s11, hS.s12, hS.s13, hS.s14, hS.s15]
  generalize g L = u
  clear hS hQ
  conv => arg 2; whnf
  by_cases h1 : j < cn
  · by_cases h2 : j < 120
    · go_wp2_with fail
      exact (HQ.out _ ⟨rfl, rfl, rfl, rfl, rfl, rfl, rfl, rfl, rfl, rfl, rfl, rfl⟩).1 h1 h2
    · go_wp2_with fail
      exact (HQ.out _ ⟨rfl, rfl, rfl, rfl, rfl, rfl, rfl, rfl, rfl, rfl, rfl, rfl⟩).2
  · go_wp2_with fail
    exact (HQ.out _ ⟨rfl, rfl, rfl, rfl, rfl, rfl, rfl, rfl, rfl, rfl, rfl, rfl⟩).2

set_option maxRecDepth 100000 in
set_option maxHeartbeats 3200000 in
theorem r15_any (w0 w : World) (L : Array Value) (Q : Exit → Act → World → Prop) (N : Nat) (ca : Option Addr) (cn cc b _m p _sm _rb j : Nat) (_s : St) (q : Pg) (vA vD : Value) (_all _done : List (Nat × List Nat)) (news wrote : Nat)
    (_hj : j < 120) (hjn : j < cn) (_hcn : cn ≤ maxLen) (hS : Slots L N ca cn cc b p vA vD (textOf q.root) q.c news wrote j) (hC : CallsAt w0 ca cn) (hT : Turn [] w0 w)
    (hQ : ∀ (L' : Array Value) (kd NN : Int) (ak : Option Addr) (ck : Nat) (lk : List Nat) (bb off : Nat), Slots L' N ca cn cc b p vA vD (textOf q.root) q.c news wrote j → g L' 16 = .pointer (some ⟨w.heap.size, 0, none⟩) → CallAt w0 bb off kd NN ak ck lk → Q .normal ⟨L', []⟩ (w.alloc (.cells #[.int .i64 kd, .int .i64 NN, .slice ak lk.length ck] 36))) :
    Code.wp Tryd.prog r15 Q ⟨L, []⟩ w := by
  have HQ := hide hQ
  unfold maxLen at _hcn
  obtain ⟨bb, off, kd, NN, ak, ck, lk, rfl, hcw⟩ := hC j hjn
  have HCA := hide hcw
  have hc := hcw.turn hT
  have h0 := hc.c0
  have h1 := hc.c1
  have h2 := hc.c2
  rw [lit L hS.size, hS.s0, hS.s1, hS.s5, hS.s7, hS.s9, hS.s10, hS.s11, hS.s12, hS.s13, hS.s14, hS.s15]
  generalize g L = u
  clear hS hQ hC hc hcw hT
  conv => arg 2; whnf
  go_wp2_with fail
  exact HQ.out _ kd NN ak ck lk bb (off + j * 3) ⟨rfl, rfl, rfl, rfl, rfl, rfl, rfl, rfl, rfl, rfl, rfl, rfl⟩ rfl HCA.out

set_option maxRecDepth 100000 in
set_option maxHeartbeats 3200000 in
theorem r16_any (w0 w : World) (L : Array Value) (Q : Exit → Act → World → Prop) (N : Nat) (ca : Option Addr) (cn cc b _m p _sm _rb j : Nat) (_s : St) (q : Pg) (vA vD : Value) (_all _done : List (Nat × List Nat)) (news wrote : Nat) (cb : Nat) (kd NN : Int) (ak : Option Addr) (ck : Nat) (lk : List Nat)
    (hS : Slots L N ca cn cc b p vA vD (textOf q.root) q.c news wrote j) (hs16 : g L 16 = .pointer (some ⟨cb, 0, none⟩)) (hC : CallIn w0 w cb kd NN ak ck lk)
    (hQ : ∀ (L' : Array Value), Slots L' N ca cn cc b p vA vD (textOf q.root) q.c news wrote j → Slots2 L' cb NN → Q .normal ⟨L', []⟩ w) :
    Code.wp Tryd.prog r16 Q ⟨L, []⟩ w := by
  have HQ := hide hQ
  have h1 := hC.c1
  rw [lit L hS.size, hS.s0, hS.s1, hS.s5, hS.s7, hS.s9, hS.s10, hS.s11, hS.s12, hS.s13, hS.s14, hS.s15, hs16]
  generalize g L = u
  clear hS hQ hC
  conv => arg 2; whnf
  go_wp2_with fail
  exact HQ.out _ ⟨rfl, rfl, rfl, rfl, rfl, rfl, rfl, rfl, rfl, rfl, rfl, rfl⟩ ⟨rfl, rfl⟩

set_option maxRecDepth 100000 in
set_option maxHeartbeats 3200000 in
theorem pick_any (w0 w : World) (L : Array Value) (Q : Exit → Act → World → Prop) (N : Nat) (ca : Option Addr) (cn cc b m p sm rb j : Nat) (s : St) (q : Pg) (vA vD : Value) (all done : List (Nat × List Nat)) (news wrote : Nat) (cb : Nat) (kd NN : Int) (ak : Option Addr) (ck : Nat) (lk : List Nat)
    (hj : j < 120) (hS : Slots L N ca cn cc b p vA vD (textOf q.root) q.c news wrote j) (hS2 : Slots2 L cb NN) (hP : P3 w0 w N b m p sm rb j s q vA vD all done news wrote) (hC : CallIn w0 w cb kd NN ak ck lk)
    (hQ : ∀ (L' : Array Value) (kk : Int), Slots L' N ca cn cc b p vA vD (textOf q.root) q.c news wrote j → Slots2 L' cb kk → Q .normal ⟨L', []⟩ w) :
    Code.wp Tryd.prog pick Q ⟨L, []⟩ w := by
  have HQ := hide hQ
  have h1 := hC.c1
  have hlA := hP.lenA
  obtain ⟨aA, cA, rfl, hPA, _⟩ := hP.rowA.slice
  have HPA := hide hPA
  rw [lit L hS.size, hS.s0, hS.s1, hS.s5, hS.s7, hS.s9, hS.s10, hS.s11, hS.s12, hS.s13, hS.s14, hS.s15, hS2.s16, hS2.s17]
  generalize g L = u
  clear hS hS2 hQ hC hP hPA
  conv => arg 2; whnf
  by_cases hl : 0 < all.length
  · by_cases hm : 0 < NN.tmod 4
    · go_wp2_with fail
      refine (within_any NN all.length (by omega) (by omega) w).mono ?_
      rintro e w1 ⟨⟨k, hk, rfl⟩, rfl⟩
      obtain ⟨ga, rfl, hc3, _⟩ := HPA.out.at hk
      go_wp2_with fail
      exact HQ.out _ _ ⟨rfl, rfl, rfl, rfl, rfl, rfl, rfl, rfl, rfl, rfl, rfl, rfl⟩ ⟨rfl, rfl⟩
    · go_wp2_with fail
      exact HQ.out _ _ ⟨rfl, rfl, rfl, rfl, rfl, rfl, rfl, rfl, rfl, rfl, rfl, rfl⟩ ⟨rfl, rfl⟩
  · go_wp2_with fail
    exact HQ.out _ _ ⟨rfl, rfl, rfl, rfl, rfl, rfl, rfl, rfl, rfl, rfl, rfl, rfl⟩ ⟨rfl, rfl⟩

set_option maxRecDepth 100000 in
set_option maxHeartbeats 3200000 in
theorem r14_any (_w0 w : World) (L : Array Value) (Q : Exit → Act → World → Prop) (N : Nat) (ca : Option Addr) (cn cc b _m p _sm _rb j : Nat) (_s : St) (q : Pg) (vA vD : Value) (_all _done : List (Nat × List Nat)) (news wrote : Nat)
    (hj : j < 120) (hS : Slots L N ca cn cc b p vA vD (textOf q.root) q.c news wrote j)
    (hQ : ∀ L' : Array Value, Slots L' N ca cn cc b p vA vD (textOf q.root) q.c news wrote (j + 1) → Q .normal ⟨L', []⟩ w) :
    Code.wp Tryd.prog r14 Q ⟨L, []⟩ w := by
  have HQ := hide hQ
  rw [lit L hS.size, hS.s0, hS.s1, hS.s5, hS.s7, hS.s9, hS.s10, hS.s11, hS.s12, hS.s13, hS.s14, hS.s15]
  generalize g L = u
  clear hS hQ
  conv => arg 2; whnf
  go_wp2_with fail
  exact HQ.out _ ⟨rfl, rfl, rfl, rfl, rfl, rfl, rfl, rfl, rfl, rfl, rfl, by go_num⟩

/-- The loop's invariant. -/
def I (w0 : World) (N : Nat) (ca : Option Addr) (cn cc b m : Nat) (a : Act) (w : World) : Prop :=
  ∃ (L : Array Value) (p sm rb j : Nat) (s : St) (q : Pg) (vA vD : Value) (all done : List (Nat × List Nat)) (news wrote : Nat), a = ⟨L, []⟩ ∧ j ≤ 120 ∧ Slots L N ca cn cc b p vA vD (textOf q.root) q.c news wrote j ∧ P3 w0 w N b m p sm rb j s q vA vD all done news wrote
def mu (a : Act) (_ : World) : Nat := 200 - (intOf (g a.tmps 15)).toNat

theorem mu_slots {w : World} {L : Array Value} {N : Nat} {ca : Option Addr} {cn cc b p : Nat} {vA vD : Value} {root : ByteArray} {sq news wrote j : Nat} (h : Slots L N ca cn cc b p vA vD root sq news wrote j) : mu ⟨L, []⟩ w = 200 - j := by
  unfold mu
  rw [show (⟨L, []⟩ : Act).tmps = L from rfl, h.s15]
  simp [intOf]

theorem round_any (w0 : World) (Q : Exit → Act → World → Prop) (N : Nat) (ca : Option Addr) (cn cc b m : Nat) (hw0 : 0 < w0.heap.size) (hN : 64 ≤ N ∧ N ≤ 163) (hcn : cn ≤ maxLen) (hC : CallsAt w0 ca cn)
    (hQ : ∀ (L : Array Value) (w : World) (p sm rb j : Nat) (s : St) (q : Pg) (vA vD : Value) (all done : List (Nat × List Nat)) (news wrote : Nat), j ≤ 120 → Slots L N ca cn cc b p vA vD (textOf q.root) q.c news wrote j → P3 w0 w N b m p sm rb j s q vA vD all done news wrote → Q (.exit 0) ⟨L, []⟩ w)
    (a : Act) (w : World) (hI : I w0 N ca cn cc b m a w) :
    Code.wp Tryd.prog body (Exit.then (fun a' w' => I w0 N ca cn cc b m a' w' ∧ mu a' w' < mu a w) Q) a w := by
  obtain ⟨L, p, sm, rb, j, s, q, vA, vD, all, done, news, wrote, rfl, hj, hS, hP⟩ := hI
  have hmu := mu_slots (w := w) hS
  show Code.wp Tryd.prog (.seq head (.seq (.block 1 (.seq r15 (.seq r16 (.seq pick rest)))) r14)) _ _ _
  refine wp_seq (head_any w0 w L _ N ca cn cc b m p sm rb j s q vA vD all done news wrote hj hcn hS fun L1 hS1 => ⟨fun hjn hj' => ?_, hQ L1 w p sm rb j s q vA vD all done news wrote hj hS1 hP⟩)
  show Code.wp Tryd.prog (.seq (.block 1 (.seq r15 (.seq r16 (.seq pick rest)))) r14) _ _ _
  refine wp_seq (wp_block (wp_seq (r15_any w0 w L1 _ N ca cn cc b m p sm rb j s q vA vD all done news wrote hj' hjn hcn hS1 hC hP.turn fun L2 kd NN ak ck lk bb off hS2 hs16 hCa => ?_)))
  show Code.wp Tryd.prog (.seq r16 (.seq pick rest)) _ _ _
  obtain ⟨w2, hw2⟩ : ∃ w2, w2 = w.alloc (.cells #[.int .i64 kd, .int .i64 NN, .slice ak lk.length ck] 36) := ⟨_, rfl⟩
  have hT2 : Turn [] w w2 := by rw [hw2]; exact (Turn.refl [] w).alloc _
  have hP2 := hP.turn0 hT2
  have hCI : CallIn w0 w2 w.heap.size kd NN ak ck lk := by
    rw [hw2]
    exact ⟨World.cell?_alloc_at _ _ _ _ rfl, World.cell?_alloc_at _ _ _ _ rfl, World.cell?_alloc_at _ _ _ _ rfl, hCa.bytes, hCa.nil, hCa.byte, hCa.len⟩
  rw [← hw2]
  have h1 := hP.pat.pg.lt
  have h2 := hP.pat.disk.lt
  have h3 := hP.pat.disk.ltm
  have h4 := hP.pat.pg.lts
  refine wp_seq (r16_any w0 w2 L2 _ N ca cn cc b m p sm rb j s q vA vD all done news wrote w.heap.size kd NN ak ck lk hS2 hs16 hCI fun L3 hS3 hS23 => ?_)
  show Code.wp Tryd.prog (.seq pick rest) _ _ _
  refine wp_seq (pick_any w0 w2 L3 _ N ca cn cc b m p sm rb j s q vA vD all done news wrote w.heap.size kd NN ak ck lk hj' hS3 hS23 hP2 hCI fun L4 kk hS4 hS24 => ?_)
  show Code.wp Tryd.prog rest _ _ _
  refine rest_any w0 w2 L4 _ N ca cn cc b m p sm rb j s q vA vD all done news wrote w.heap.size kk hw0 hj' hS4 hS24 hP2 kd NN ak ck lk hCI ⟨by omega, by omega, by omega, by omega⟩ (fun e => by have := hP.rowA.lt _ e; omega) hN ?_
  intro L5 w5 p5 sm5 rb5 s5 q5 vA5 vD5 all5 done5 news5 wrote5 ee he hS5 hP5
  have hlast : Code.wp Tryd.prog r14 (Exit.then (fun a' w' => I w0 N ca cn cc b m a' w' ∧ mu a' w' < mu ⟨L, []⟩ w) Q) ⟨L5, []⟩ w5 :=
    r14_any w0 w5 L5 _ N ca cn cc b m p5 sm5 rb5 j s5 q5 vA5 vD5 all5 done5 news5 wrote5 hj' hS5 fun L6 hS6 => ⟨⟨L6, p5, sm5, rb5, j + 1, s5, q5, vA5, vD5, all5, done5, news5, wrote5, rfl, by omega, hS6, hP5⟩, by rw [hmu, mu_slots hS6]; omega⟩
  rcases he with rfl | rfl
  · exact hlast
  · exact hlast
end Go.Proofs.YtjbjcjcahkfgbaaDoor.Pl
