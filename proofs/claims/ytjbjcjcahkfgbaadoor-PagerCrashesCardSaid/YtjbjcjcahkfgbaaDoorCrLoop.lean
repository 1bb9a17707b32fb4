/-
  The law PagerCrashes, its two loops.
-/
import Derived.Test.YtjbjcjcahkfgbaaDoorCrArms
import Derived.Test.YtjbjcjcahkfgbaaDoorCrCom
import Derived.Deep.CutRange
namespace Go.Proofs.YtjbjcjcahkfgbaaDoor.Cr
open Go.RowKit Go.Maps

set_option maxRecDepth 100000 in
set_option maxHeartbeats 3200000 in
theorem head_any (w0 w : World) (L : Array Value) (Q : Exit → Act → World → Prop) (ca : Option Addr) (cn cc : Nat) (va : Value) (b m p j : Nat) (vA vD : Value) (root : List Nat)
    (hj : j ≤ 60) (_hcn : cn ≤ maxLen) (hS : Slots L ca cn cc va b p vA vD (textOf root) j) (hP : Stands w0 w b m p j vA vD root)
    (hQ : ∀ L' : Array Value, Slots L' ca cn cc va b p vA vD (textOf root) j → (j < cn → j < 60 → (∃ sm rb s q all done, C3 w0 w b m p sm rb j s q vA vD all done ∧ root = q.root) → Q .normal ⟨L', []⟩ w) ∧ Q (.exit 0) ⟨L', []⟩ w) :
    Code.wp Tryd.prog head Q ⟨L, []⟩ w := by
  have HQ := hide hQ
  unfold maxLen at _hcn
  have HD : Hid (∃ s, DiskAt w b m s ∧ (s.dead = false → ∃ sm rb s q all done, C3 w0 w b m p sm rb j s q vA vD all done ∧ root = q.root)) := by
    rcases hP with ⟨sm, rb, s, q, all, done, h, e⟩ | ⟨s, done, h1, h2⟩
    · exact ⟨s, h.pat.disk, fun _ => ⟨sm, rb, s, q, all, done, h, e⟩⟩
    · exact ⟨s, h2.disk, fun e => by rw [h1] at e; cases e⟩
  rw [lit L hS.size, hS.s0, hS.s2, hS.s7, hS.s9, hS.s11, hS.s12, hS.s14, hS.s17]
  generalize g L = u
  clear hS hQ hP
  conv => arg 2; whnf
  by_cases h1 : j < cn
  · by_cases h2 : j < 60
    · go_wp2_with fail
      obtain ⟨s, hD, hA⟩ := HD.out
      have HA := hide hA
      refine (dead_any b m s w hD).mono ?_
      rintro e w1 ⟨rfl, rfl⟩
      clear hD hA
      cases hd : s.dead with
      | false =>
        go_wp2_with fail
        exact (HQ.out _ ⟨rfl, rfl, rfl, rfl, rfl, rfl, rfl, rfl, rfl⟩).1 h1 h2 (HA.out hd)
      | true =>
        go_wp2_with fail
        exact (HQ.out _ ⟨rfl, rfl, rfl, rfl, rfl, rfl, rfl, rfl, rfl⟩).2
    · go_wp2_with fail
      exact (HQ.out _ ⟨rfl, rfl, rfl, rfl, rfl, rfl, rfl, rfl, rfl⟩).2
  · go_wp2_with fail
    exact (HQ.out _ ⟨rfl, rfl, rfl, rfl, rfl, rfl, rfl, rfl, rfl⟩).2

set_option maxRecDepth 100000 in
set_option maxHeartbeats 3200000 in
theorem r14_any (w0 w : World) (L : Array Value) (Q : Exit → Act → World → Prop) (ca : Option Addr) (cn cc : Nat) (va : Value) (b p j : Nat) (vA vD : Value) (root : List Nat)
    (hjn : j < cn) (_hcn : cn ≤ maxLen) (hS : Slots L ca cn cc va b p vA vD (textOf root) j) (hC : CallsAt w0 ca cn) (hT : Turn [] w0 w)
    (hQ : ∀ (L' : Array Value) (kd NN : Int) (ak : Option Addr) (ck : Nat) (lk : List Nat) (bb off : Nat), Slots L' ca cn cc va b p vA vD (textOf root) j → g L' 18 = .pointer (some ⟨w.heap.size, 0, none⟩) → CallAt w0 bb off kd NN ak ck lk → Q .normal ⟨L', []⟩ (w.alloc (.cells #[.int .i64 kd, .int .i64 NN, .slice ak lk.length ck] 36))) :
    Code.wp Tryd.prog r14 Q ⟨L, []⟩ w := by
  have HQ := hide hQ
  unfold maxLen at _hcn
  obtain ⟨bb, off, kd, NN, ak, ck, lk, rfl, hcw⟩ := hC j hjn
  have HCA := hide hcw
  have hc := hcw.turn hT
  have h0 := hc.c0
  have h1 := hc.c1
  have h2 := hc.c2
  rw [lit L hS.size, hS.s0, hS.s2, hS.s7, hS.s9, hS.s11, hS.s12, hS.s14, hS.s17]
  generalize g L = u
  clear hS hQ hC hc hcw hT
  conv => arg 2; whnf
  go_wp2_with fail
  exact HQ.out _ kd NN ak ck lk bb (off + j * 3) ⟨rfl, rfl, rfl, rfl, rfl, rfl, rfl, rfl, rfl⟩ rfl HCA.out

set_option maxRecDepth 100000 in
set_option maxHeartbeats 3200000 in
theorem r15_any (w0 w : World) (L : Array Value) (Q : Exit → Act → World → Prop) (ca : Option Addr) (cn cc : Nat) (va : Value) (b p j : Nat) (vA vD : Value) (root : List Nat) (cb : Nat) (kd NN : Int) (ak : Option Addr) (ck : Nat) (lk : List Nat)
    (hS : Slots L ca cn cc va b p vA vD (textOf root) j) (h18 : g L 18 = .pointer (some ⟨cb, 0, none⟩)) (hC : CallIn w0 w cb kd NN ak ck lk)
    (hQ : ∀ (L' : Array Value) (k : Nat), k < 5 → Slots L' ca cn cc va b p vA vD (textOf root) j → g L' 18 = .pointer (some ⟨cb, 0, none⟩) → g L' 61 = .int .i64 (k : Nat) → Q .normal ⟨L', []⟩ w) :
    Code.wp Tryd.prog r15 Q ⟨L, []⟩ w := by
  have HQ := hide hQ
  have hc0 := hC.c0
  rw [lit L hS.size, hS.s0, hS.s2, hS.s7, hS.s9, hS.s11, hS.s12, hS.s14, hS.s17, h18]
  generalize g L = u
  clear hS hQ hC h18
  conv => arg 2; whnf
  go_wp2_with fail
  refine (within_any kd 5 (by omega) (by omega) w).mono ?_
  rintro e w1 ⟨⟨k, hk, rfl⟩, rfl⟩
  go_wp2_with fail
  exact HQ.out _ k hk ⟨rfl, rfl, rfl, rfl, rfl, rfl, rfl, rfl, rfl⟩ rfl rfl

set_option maxRecDepth 100000 in
set_option maxHeartbeats 3200000 in
theorem r13_any (w : World) (L : Array Value) (Q : Exit → Act → World → Prop) (ca : Option Addr) (cn cc : Nat) (va : Value) (b p j : Nat) (vA vD : Value) (root : List Nat)
    (hj : j < 60) (hS : Slots L ca cn cc va b p vA vD (textOf root) j)
    (hQ : ∀ (L' : Array Value), Slots L' ca cn cc va b p vA vD (textOf root) (j + 1) → Q .normal ⟨L', []⟩ w) :
    Code.wp Tryd.prog r13 Q ⟨L, []⟩ w := by
  have HQ := hide hQ
  rw [lit L hS.size, hS.s0, hS.s2, hS.s7, hS.s9, hS.s11, hS.s12, hS.s14, hS.s17]
  generalize g L = u
  clear hS hQ
  conv => arg 2; whnf
  go_wp2_with fail
  exact HQ.out _ ⟨rfl, rfl, rfl, rfl, rfl, rfl, rfl, rfl, by go_num⟩

set_option maxRecDepth 100000 in
set_option maxHeartbeats 3200000 in
theorem sw_any (w0 w : World) (L : Array Value) (Q : Exit → Act → World → Prop) (ca : Option Addr) (cn cc : Nat) (va : Value) (b m p sm rb j : Nat) (s : St) (q : Pg) (vA vD : Value) (all done : List (Nat × List Nat)) (cb : Nat)
    (kd NN : Int) (ak : Option Addr) (ck : Nat) (lk : List Nat)
    (hj : j < 60) (hS : Slots L ca cn cc va b p vA vD (textOf q.root) j) (h18 : g L 18 = .pointer (some ⟨cb, 0, none⟩)) (hP : C3 w0 w b m p sm rb j s q vA vD all done) (hC : CallIn w0 w cb kd NN ak ck lk) (hcb : cb ≠ p ∧ cb ≠ b ∧ cb ≠ m ∧ cb ≠ sm) (k : Nat) (hk : k < 5) (h61 : g L 61 = .int .i64 (k : Nat))
    (hQ : ∀ (L' : Array Value) (w' : World) (p' : Nat) (vA' vD' : Value) (root' : List Nat) (ee : Exit), (ee = .normal ∨ ee = .exit 1) → Slots L' ca cn cc va b p' vA' vD' (textOf root') j → Stands w0 w' b m p' (j + 1) vA' vD' root' → Q ee ⟨L', []⟩ w') :
    Code.wp Tryd.prog sw Q ⟨L, []⟩ w := by
  have HQ := hide hQ
  have HP := hide hP
  have HC := hide hC
  rw [lit L hS.size, hS.s0, hS.s2, hS.s7, hS.s9, hS.s11, hS.s12, hS.s14, hS.s17, h18, h61]
  generalize g L = u
  clear hS hQ hP hC h18 h61
  conv => arg 2; whnf
  obtain rfl | rfl | rfl | rfl | rfl : k = 0 ∨ k = 1 ∨ k = 2 ∨ k = 3 ∨ k = 4 := by omega
  · go_upto_if 62 with fail
    refine wp_cond (t := true) rfl ?_
    show Code.wp Tryd.prog arm0 Q _ w
    exact arm0_any w0 w _ Q ca cn cc va b m p sm rb j s q vA vD all done cb kd NN ak ck lk hj ⟨rfl, rfl, rfl, rfl, rfl, rfl, rfl, rfl, rfl⟩ rfl HP.out HC.out hcb HQ.out
  · go_upto_if 62 with fail
    refine wp_cond (t := false) rfl ?_
    conv => arg 2; whnf
    go_upto_if 85 with fail
    refine wp_cond (t := true) rfl ?_
    show Code.wp Tryd.prog arm1 Q _ w
    exact arm1_any w0 w _ Q ca cn cc va b m p sm rb j s q vA vD all done cb kd NN ak ck lk hj ⟨rfl, rfl, rfl, rfl, rfl, rfl, rfl, rfl, rfl⟩ rfl HP.out HC.out hcb HQ.out
  · go_upto_if 62 with fail
    refine wp_cond (t := false) rfl ?_
    conv => arg 2; whnf
    go_upto_if 85 with fail
    refine wp_cond (t := false) rfl ?_
    conv => arg 2; whnf
    go_upto_if 106 with fail
    refine wp_cond (t := true) rfl ?_
    conv => arg 2; whnf
    go_upto_if 106 with fail
    refine wp_cond (t := true) rfl ?_
    show Code.wp Tryd.prog arm2 Q _ w
    exact arm2_any w0 w _ Q ca cn cc va b m p sm rb j s q vA vD all done cb kd NN ak ck lk hj ⟨rfl, rfl, rfl, rfl, rfl, rfl, rfl, rfl, rfl⟩ rfl HP.out HC.out hcb HQ.out
  · go_upto_if 62 with fail
    refine wp_cond (t := false) rfl ?_
    conv => arg 2; whnf
    go_upto_if 85 with fail
    refine wp_cond (t := false) rfl ?_
    conv => arg 2; whnf
    go_upto_if 106 with fail
    refine wp_cond (t := false) rfl ?_
    conv => arg 2; whnf
    go_upto_if 106 with fail
    refine wp_cond (t := true) rfl ?_
    show Code.wp Tryd.prog arm2 Q _ w
    exact arm2_any w0 w _ Q ca cn cc va b m p sm rb j s q vA vD all done cb kd NN ak ck lk hj ⟨rfl, rfl, rfl, rfl, rfl, rfl, rfl, rfl, rfl⟩ rfl HP.out HC.out hcb HQ.out
  · go_upto_if 62 with fail
    refine wp_cond (t := false) rfl ?_
    conv => arg 2; whnf
    go_upto_if 85 with fail
    refine wp_cond (t := false) rfl ?_
    conv => arg 2; whnf
    go_upto_if 106 with fail
    refine wp_cond (t := false) rfl ?_
    conv => arg 2; whnf
    go_upto_if 106 with fail
    refine wp_cond (t := false) rfl ?_
    conv => arg 2; whnf
    go_upto_if 126 with fail
    refine wp_cond (t := true) rfl ?_
    show Code.wp Tryd.prog arm4 Q _ w
    exact arm4_any w0 w _ Q ca cn cc va b m p sm rb j s q vA vD all done cb kd NN ak ck lk hj ⟨rfl, rfl, rfl, rfl, rfl, rfl, rfl, rfl, rfl⟩ rfl HP.out HC.out hcb HQ.out

/-- The first loop's invariant. -/
def I (w0 : World) (ca : Option Addr) (cn cc : Nat) (va : Value) (b m : Nat) (a : Act) (w : World) : Prop :=
  ∃ (L : Array Value) (p j : Nat) (vA vD : Value) (root : List Nat), a = ⟨L, []⟩ ∧ j ≤ 60 ∧ Slots L ca cn cc va b p vA vD (textOf root) j ∧ Stands w0 w b m p j vA vD root
def mu (a : Act) (_ : World) : Nat := 200 - (intOf (g a.tmps 17)).toNat

theorem mu_slots {w : World} {L : Array Value} {ca : Option Addr} {cn cc : Nat} {va : Value} {b p : Nat} {vA vD : Value} {root : ByteArray} {j : Nat} (h : Slots L ca cn cc va b p vA vD root j) : mu ⟨L, []⟩ w = 200 - j := by
  unfold mu
  rw [show (⟨L, []⟩ : Act).tmps = L from rfl, h.s17]
  simp [intOf]

theorem round_any (w0 : World) (Q : Exit → Act → World → Prop) (ca : Option Addr) (cn cc : Nat) (va : Value) (b m : Nat) (hcn : cn ≤ maxLen) (hC : CallsAt w0 ca cn)
    (hQ : ∀ (L : Array Value) (w : World) (p j : Nat) (vA vD : Value) (root : List Nat), j ≤ 60 → Slots L ca cn cc va b p vA vD (textOf root) j → Stands w0 w b m p j vA vD root → Q (.exit 0) ⟨L, []⟩ w)
    (a : Act) (w : World) (hI : I w0 ca cn cc va b m a w) :
    Code.wp Tryd.prog body (Exit.then (fun a' w' => I w0 ca cn cc va b m a' w' ∧ mu a' w' < mu a w) Q) a w := by
  obtain ⟨L, p, j, vA, vD, root, rfl, hj, hS, hP⟩ := hI
  have hmu := mu_slots (w := w) hS
  show Code.wp Tryd.prog (.seq head (.seq (.block 1 (.seq r14 (.seq r15 (.block 2 sw)))) r13)) _ _ _
  refine wp_seq (head_any w0 w L _ ca cn cc va b m p j vA vD root hj hcn hS hP fun L1 hS1 => ⟨fun hjn hj' hA => ?_, hQ L1 w p j vA vD root hj hS1 hP⟩)
  clear hP
  obtain ⟨sm, rb, s, q, all, done, hP, rfl⟩ := hA
  show Code.wp Tryd.prog (.seq (.block 1 (.seq r14 (.seq r15 (.block 2 sw)))) r13) _ _ _
  refine wp_seq (wp_block (wp_seq (r14_any w0 w L1 _ ca cn cc va b p j vA vD q.root hjn hcn hS1 hC hP.turn fun L2 kd NN ak ck lk bb off hS2 h18 hCa => ?_)))
  show Code.wp Tryd.prog (.seq r15 (.block 2 sw)) _ _ _
  obtain ⟨w2, hw2⟩ : ∃ w2, w2 = w.alloc (.cells #[.int .i64 kd, .int .i64 NN, .slice ak lk.length ck] 36) := ⟨_, rfl⟩
  have hT2 : Turn [] w w2 := by rw [hw2]; exact (Turn.refl [] w).alloc _
  have hP2 := hP.turn0 hT2
  have hCI : CallIn w0 w2 w.heap.size kd NN ak ck lk := by
    rw [hw2]
    exact ⟨World.cell?_alloc_at _ _ _ _ rfl, World.cell?_alloc_at _ _ _ _ rfl, World.cell?_alloc_at _ _ _ _ rfl, hCa.bytes, hCa.nil, hCa.byte, hCa.len⟩
  rw [← hw2]
  have h1 := hP.pat.pg.lt
  have h2 := hP.pat.disk.lt
  have h3 := hP.pat.disk.ltm
  have h4 := hP.pat.pg.lts
  refine wp_seq (r15_any w0 w2 L2 _ ca cn cc va b p j vA vD q.root w.heap.size kd NN ak ck lk hS2 h18 hCI fun L3 k hk hS3 h183 h61 => ?_)
  show Code.wp Tryd.prog (.block 2 sw) _ _ _
  refine wp_block (sw_any w0 w2 L3 _ ca cn cc va b m p sm rb j s q vA vD all done w.heap.size kd NN ak ck lk hj' hS3 h183 hP2 hCI ⟨by omega, by omega, by omega, by omega⟩ k hk h61 ?_)
  intro L5 w5 p5 vA5 vD5 root5 ee he hS5 hP5
  have hlast : Code.wp Tryd.prog r13 (Exit.then (fun a' w' => I w0 ca cn cc va b m a' w' ∧ mu a' w' < mu ⟨L, []⟩ w) Q) ⟨L5, []⟩ w5 :=
    r13_any w5 L5 _ ca cn cc va b p5 j vA5 vD5 root5 hj' hS5 fun L6 hS6 => ⟨⟨L6, p5, j + 1, vA5, vD5, root5, rfl, by omega, hS6, hP5⟩, by rw [hmu, mu_slots hS6]; omega⟩
  rcases he with rfl | rfl
  · exact hlast
  · exact hlast

/- The second loop. -/
noncomputable def body2 : Code := (Tryd.f4.body.bind fun c => Cut.firstLoop (Cut.r (Cut.r (Cut.r (Cut.r (Cut.r (Cut.r (Cut.r (Cut.r (Cut.r (Cut.r c))))))))))).getD .skip

/-- The ints that came in. -/
def AgainAt (w : World) (a : Option Addr) (n : Nat) : Prop := ∀ k, k < n → ∃ bb off x, a = some ⟨bb, off, none⟩ ∧ w.cell? ⟨bb, off + k, none⟩ = some (.int .i64 x)

theorem G3.start {w0 w w' : World} {b m : Nat} {s : St} {root : List Nat} {vD : Value} {done : List (Nat × List Nat)} (h : G3 w0 w b m s root vD done) {s' : St} (hD : DiskAt w' b m s') (hL : ∀ c K, Laid s c root K → Laid s' c root K) (hf : s'.f = s.f) (hT : Turn [b] w w') : G3 w0 w' b m s' root vD done := by
  obtain ⟨c, K, hl, hk⟩ := h.laid
  have hp := h.pos
  have hge := h.ge
  exact ⟨hD, ⟨c, K, hL c K hl, hk⟩, by rw [hf]; exact h.df, h.rowD.turn hT (fun x hx => by have := h.offD x hx; simp; omega), h.lenD, h.offD, h.tab.turn hT (by simp; omega), hp, hge, h.turn.then hT (by simp; omega)⟩

theorem G3.turn0 {w0 w w' : World} {b m : Nat} {s : St} {root : List Nat} {vD : Value} {done : List (Nat × List Nat)} (h : G3 w0 w b m s root vD done) (hT : Turn [] w w') : G3 w0 w' b m s root vD done := by
  exact ⟨h.disk.turn hT (by simp) (by simp), h.laid, h.df, h.rowD.turn hT (by simp), h.lenD, h.offD, h.tab.turn hT (by simp), h.pos, h.ge, h.turn.then hT (by simp)⟩

set_option maxRecDepth 100000 in
set_option maxHeartbeats 3200000 in
theorem body2_any (w0 w : World) (L : Array Value) (Q : Exit → Act → World → Prop) (ca : Option Addr) (cn cc : Nat) (aa : Option Addr) (an ac : Nat) (b m p j : Nat) (s : St) (vA vD : Value) (root : List Nat) (done : List (Nat × List Nat)) (i : Nat)
    (hi : i ≤ 4) (_han : an ≤ maxLen) (hA : AgainAt w0 aa an) (hS : Slots L ca cn cc (.slice aa an ac) b p vA vD (textOf root) j) (h22 : g L 22 = .int .i64 (i : Nat)) (hP : G3 w0 w b m s root vD done)
    (hQ : ∀ (L' : Array Value) (w' : World) (s' : St), Slots L' ca cn cc (.slice aa an ac) b p vA vD (textOf root) j → G3 w0 w' b m s' root vD done → (i < 4 → g L' 22 = .int .i64 ((i + 1 : Nat) : Int) → Q .normal ⟨L', []⟩ w') ∧ Q (.exit 3) ⟨L', []⟩ w') :
    Code.wp Tryd.prog body2 Q ⟨L, []⟩ w := by
  have HQ := hide hQ
  have HP := hide hP
  unfold maxLen at _han
  rw [lit L hS.size, hS.s0, hS.s2, hS.s7, hS.s9, hS.s11, hS.s12, hS.s14, hS.s17, h22]
  generalize g L = u
  clear hS hQ hP h22
  conv => arg 2; whnf
  by_cases h1 : i < an
  · by_cases h2 : i < 4
    · obtain ⟨bb, off, x, rfl, hx⟩ := hA i h1
      have HX := hide hx
      clear hA hx
      go_wp2_with fail
      refine (start_any b m s w HP.out.disk).mono ?_
      rintro e w1 ⟨rfl, hD1, hT1⟩
      have HP1 := hide (G3.start HP.out hD1 (fun _ _ h => Laid.start h) rfl hT1)
      have hx1 := (HP1.out.turn.cell (p := ⟨bb, off + i, none⟩) (lt_of_cell HX.out) (by simp)).trans HX.out
      clear hD1 hT1
      go_wp2_with fail
      refine (within_any x 8 (by omega) (by omega) w1).mono ?_
      rintro e w2 ⟨⟨k, hk, rfl⟩, rfl⟩
      go_wp2_with fail
      refine (cut_any b m s.start k (by omega) w2 HP1.out.disk).mono ?_
      rintro e w3 ⟨rfl, hD3, hT3⟩
      have HP3 := hide (G3.start HP1.out hD3 (fun _ _ h => Laid.cut h (by omega)) rfl hT3)
      clear hD3 hT3
      go_wp2_with fail
      obtain ⟨c, K, hL, _⟩ := HP3.out.laid
      refine (open_any b m _ c root K hL rfl w3 HP3.out.disk HP3.out.tab HP3.out.pos).mono ?_
      rintro e w4 ⟨p4, sm4, rb4, _, _, _, _, rfl, _, hT4⟩
      have HP4 := hide (HP3.out.turn0 hT4)
      clear hT4 hL
      go_wp2_with fail
      exact (HQ.out _ _ _ ⟨rfl, rfl, rfl, rfl, rfl, rfl, rfl, rfl, rfl⟩ HP4.out).1 h2 (by show Value.int .i64 _ = _; go_num)
    · go_wp2_with fail
      exact (HQ.out _ _ _ ⟨rfl, rfl, rfl, rfl, rfl, rfl, rfl, rfl, rfl⟩ HP.out).2
  · go_wp2_with fail
    exact (HQ.out _ _ _ ⟨rfl, rfl, rfl, rfl, rfl, rfl, rfl, rfl, rfl⟩ HP.out).2
end Go.Proofs.YtjbjcjcahkfgbaaDoor.Cr
