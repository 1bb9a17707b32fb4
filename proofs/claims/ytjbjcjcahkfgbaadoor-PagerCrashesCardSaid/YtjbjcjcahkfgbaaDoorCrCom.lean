/-
  The law PagerCrashes, the arm that commits.
-/
import Derived.Test.YtjbjcjcahkfgbaaDoorCrCode
import Derived.Deep.RegionLaw
import Derived.Deep.RegionHeld3
namespace Go.Proofs.YtjbjcjcahkfgbaaDoor.Cr
open Go.RowKit Go.Maps

noncomputable def r29 : Code := Cut.l (Cut.r arm2)

/-- A copy of a row of pages: append to a row of the call's own that is empty. -/
theorem run_copy_pages (w : World) (base ty : Nat) (v u : Value) (l : List (Nat × List Nat)) (hown : w.ownsRow base 38 2 v 0 []) (hu : PagesOf w u l) (hb : l.length < 1000000) (hbase : base ≤ w.heap.size) :
    ∃ v' w', (Builtin.append_ #[32, 32] ty #[v, u]).run Tryd.prog w = .ok v' w' ∧ PagesOf w' v' l ∧ w.grownBy w' v.ownBlock ∧ ∀ x, v'.ownBlock = some x → base ≤ x := by
  obtain ⟨i0, hi, hz0, hz1, hz2⟩ := info_parts info38
  obtain ⟨ak, cap, rfl, hP, _⟩ := hu.slice
  cases ak with
  | none =>
    obtain ⟨_, ⟨e, h0⟩ | ⟨g, cap', cur, e, _⟩⟩ := hu
    · obtain rfl : l = [] := List.eq_nil_of_length_eq_zero h0
      obtain rfl : cap = 0 := by injection e
      obtain ⟨h1, h2⟩ := PagesOf.of_row (l := []) hown rfl
      exact ⟨v, w, run_append_owned_none (P := Tryd.prog) (w := w) base 32 ty 38 i0 2 Tryd.underlying32 hi v 0 [] hown, h1, grownBy_refl _ _, h2⟩
    · cases e
  | some ad =>
    obtain rfl | ⟨g, e, hc⟩ := id hP
    · obtain ⟨v', w', hr, h2, h3, _, _⟩ := run_append_own_at (P := Tryd.prog) w base 32 ty 38 i0 (.agg #[.int .i64 0, .string ByteArray.empty]) 2 24 Tryd.underlying32 hi hz0 hz1 hz2 rfl (by decide) v 0 [] hown ad 0 cap [] rfl (fun j u hj => by simp at hj) (by simp) (by unfold maxLen; omega) (by omega) hbase
      obtain ⟨h4, h5⟩ := PagesOf.of_row (l := []) h2 rfl
      exact ⟨v', w', hr, h4, h3, h5⟩
    · obtain rfl := Option.some.inj e
      obtain ⟨v', w', hr, h2, h3, _, _⟩ := run_append_own_at (P := Tryd.prog) w base 32 ty 38 i0 (.agg #[.int .i64 0, .string ByteArray.empty]) 2 24 Tryd.underlying32 hi hz0 hz1 hz2 rfl (by decide) v 0 [] hown ⟨g, 0, none⟩ l.length cap (l.flatMap pageCells) (pageCells_len l) hP.src (pageCells_one l) (by unfold maxLen; omega) (by omega) hbase
      obtain ⟨h4, h5⟩ := PagesOf.of_row (l := l) h2 (by omega)
      exact ⟨v', w', hr, h4, h3, h5⟩

theorem step_copy_pages {ops : Array Oper} {o : Oper} {a : Act} {w : World} {K : Act → World → Prop} {Q : Exit → Act → World → Prop} {E : Prop}
    (hg : o.guard = none) (s x : Operand) (hop : o.op = Op.call { callee := Callee.builtin Builtin.append, args := #[s, x], argTypes := #[32, 32] })
    (base : Nat) (v u : Value) (l : List (Nat × List Nat)) (hs : a.eval s = v) (hx : a.eval x = u) (hown : w.ownsRow base 38 2 v 0 []) (hu : PagesOf w u l) (hb : l.length < 1000000) (hbase : base ≤ w.heap.size)
    (hK : ∀ v' w', PagesOf w' v' l → w.grownBy w' v.ownBlock → (∀ x, v'.ownBlock = some x → base ≤ x) → K (a.put o.dst v') w') :
    if Region.wanted o (yielded ops a.tmps) = true then Oper.wp Tryd.prog o a w K Q else E := by
  have hw : Region.wanted o (yielded ops a.tmps) = true := by simp [Region.wanted, hg]
  rw [if_pos hw]
  obtain ⟨v', w', hrun, r1, r2, r3⟩ := run_copy_pages w base o.type v u l hown hu hb hbase
  unfold Oper.wp
  simp [execOp, hop, resolve, invoke, builtin, hs, hx, hrun, Result.andThen]
  exact hK v' w' r1 r2 r3

set_option maxRecDepth 100000 in
set_option maxHeartbeats 3200000 in
theorem r29_any (w0 w : World) (L : Array Value) (Q : Exit → Act → World → Prop) (ca : Option Addr) (cn cc : Nat) (va : Value) (b m p sm rb j : Nat) (s : St) (q : Pg) (vA vD : Value) (all done : List (Nat × List Nat)) (cb : Nat)
    (kd NN : Int) (ak : Option Addr) (ck : Nat) (lk : List Nat)
    (hj : j < 60) (hS : Slots L ca cn cc va b p vA vD (textOf q.root) j) (h18 : g L 18 = .pointer (some ⟨cb, 0, none⟩)) (hP : C3 w0 w b m p sm rb j s q vA vD all done) (hC : CallIn w0 w cb kd NN ak ck lk) (_hcb : cb ≠ p ∧ cb ≠ b ∧ cb ≠ m ∧ cb ≠ sm)
    (hQ : ∀ (L' : Array Value) (w' : World) (v : Value), Slots L' ca cn cc va b p vA vD (textOf q.root) j → g L' 18 = .pointer (some ⟨cb, 0, none⟩) → g L' 13 = v → g L' 15 = .string (textOf lk) → PagesOf w' v all → Turn [] w w' → (∀ x, v.ownBlock = some x → w.heap.size ≤ x) → Q .normal ⟨L', []⟩ w') :
    Code.wp Tryd.prog r29 Q ⟨L, []⟩ w := by
  have HQ := hide hQ
  have HP := hide hP
  have HC := hide hC
  have hlA := hP.lenA
  have hlD := hP.lenD
  have huu := hP.u
  have hkk := hP.k
  have hnil := hC.nil
  have hlen := hC.len
  have hxp : ∀ x, lk ≠ [] → ak = some x → x.block ≠ p := fun x hl hx => by
    have h1 := hC.bytes.lt x hl hx
    have h2 := hP.ge
    omega
  have HXP := hide hxp
  have HB := hide (hC.bytes.turn hP.turn (by simp))
  have hc2 := hC.c2
  have hcl := lt_of_cell hc2
  obtain ⟨aA, cA, rfl, hPA, _⟩ := hP.rowA.slice
  have HOWN := hide (show (w.alloc (.cells #[] 38)).ownsRow w.heap.size 38 2 (.slice (some ⟨w.heap.size, 0, none⟩) 0 0) 0 [] from World.ownsRow_made w #[] 0 (Nat.le_refl _) (Nat.zero_le _) rfl)
  have hT1 : Turn [] w (w.alloc (.cells #[] 38)) := (Turn.refl [] w).alloc _
  have HT1 := hide hT1
  have HRA := hide (hP.rowA.turn hT1 (by simp))
  have hv0 := text_at HB.out lk.length ck rfl
  have hv1 := text_at (HB.out.turn ((Turn.refl [] w).drew) (by simp)) lk.length ck rfl
  have hv2 := text_at (HB.out.turn hT1 (by simp)) lk.length ck rfl
  have hv3 := text_at (HB.out.turn hT1.drew (by simp)) lk.length ck rfl
  rw [lit L hS.size, hS.s0, hS.s2, hS.s7, hS.s9, hS.s11, hS.s12, hS.s14, hS.s17, h18]
  generalize g L = u
  clear hS h18 hQ hP hC hPA hxp hT1
  conv => arg 2; whnf
  go_wp2_with fail
  refine wp_region_noPanic ?_
  go_region_law (refine step_copy_pages rfl (.tmp 113) (.tmp 114) rfl w.heap.size (.slice (some ⟨w.heap.size, 0, none⟩) 0 0) (.slice aA all.length cA) all (by simp [Act.eval]) (by simp [Act.eval]) HOWN.out HRA.out (by omega) (by simp) ?_; intro v' w6 h1 h2 h3; have hT6 := HT1.out.drew.grown h2 (by intro k hk; right; simp [Value.ownBlock] at hk; omega); have hc6 := (HC.out.turn hT6 (by simp)).c2; have hv6 := text_at (HB.out.turn hT6 (by simp)) lk.length ck rfl; have HR6 := hide h1; have HT6 := hide hT6; have HF6 := hide h3; clear h1 h2 h3 hT6)
  all_goals
    refine NoPanic.normal ?_
    go_wp2_with fail
    exact HQ.out _ _ v' ⟨rfl, rfl, rfl, rfl, rfl, rfl, rfl, rfl, rfl⟩ rfl rfl rfl HR6.out HT6.out HF6.out

set_option maxRecDepth 100000 in
set_option maxHeartbeats 3200000 in
theorem test_any (w0 w : World) (L : Array Value) (Q : Exit → Act → World → Prop) (ca : Option Addr) (cn cc : Nat) (va : Value) (b m p sm rb j : Nat) (s : St) (q : Pg) (vA vD : Value) (all done : List (Nat × List Nat)) (cb : Nat)
    (kd NN : Int) (ak : Option Addr) (ck : Nat) (lk : List Nat)
    (_hj : j < 60) (hS : Slots L ca cn cc va b p vA vD (textOf q.root) j) (h18 : g L 18 = .pointer (some ⟨cb, 0, none⟩)) (hP : C3 w0 w b m p sm rb j s q vA vD all done) (hC : CallIn w0 w cb kd NN ak ck lk) (_hcb : cb ≠ p ∧ cb ≠ b ∧ cb ≠ m ∧ cb ≠ sm)
    (hQ : ∀ (L' : Array Value), Slots L' ca cn cc va b p vA vD (textOf q.root) j → g L' 18 = .pointer (some ⟨cb, 0, none⟩) → (lk.length ≤ 64 → Q .normal ⟨L', []⟩ w) ∧ Q (.exit 1) ⟨L', []⟩ w) :
    Code.wp Tryd.prog (Cut.l arm2) Q ⟨L, []⟩ w := by
  have HQ := hide hQ
  have HP := hide hP
  have HC := hide hC
  have hlA := hP.lenA
  have hlD := hP.lenD
  have huu := hP.u
  have hkk := hP.k
  have hnil := hC.nil
  have hlen := hC.len
  have hxp : ∀ x, lk ≠ [] → ak = some x → x.block ≠ p := fun x hl hx => by
    have h1 := hC.bytes.lt x hl hx
    have h2 := hP.ge
    omega
  have HXP := hide hxp
  have HB := hide (hC.bytes.turn hP.turn (by simp))
  have hc2 := hC.c2
  rw [lit L hS.size, hS.s0, hS.s2, hS.s7, hS.s9, hS.s11, hS.s12, hS.s14, hS.s17, h18]
  generalize g L = u
  clear hS h18 hQ hP hC hxp
  conv => arg 2; whnf
  by_cases h64 : 64 < lk.length
  · go_wp2_with fail
    exact (HQ.out _ ⟨rfl, rfl, rfl, rfl, rfl, rfl, rfl, rfl, rfl⟩ rfl).2
  · go_wp2_with fail
    exact (HQ.out _ ⟨rfl, rfl, rfl, rfl, rfl, rfl, rfl, rfl, rfl⟩ rfl).1 (by omega)

set_option maxRecDepth 100000 in
set_option maxHeartbeats 3200000 in
theorem r30_any (w0 w : World) (L : Array Value) (Q : Exit → Act → World → Prop) (ca : Option Addr) (cn cc : Nat) (va : Value) (b m p sm rb j : Nat) (s : St) (q : Pg) (vA vD : Value) (all done : List (Nat × List Nat)) (cb : Nat)
    (kd NN : Int) (ak : Option Addr) (ck : Nat) (lk : List Nat)
    (hj : j < 60) (hS : Slots L ca cn cc va b p vA vD (textOf q.root) j) (h18 : g L 18 = .pointer (some ⟨cb, 0, none⟩)) (hP : C3 w0 w b m p sm rb j s q vA vD all done) (hC : CallIn w0 w cb kd NN ak ck lk) (_hcb : cb ≠ p ∧ cb ≠ b ∧ cb ≠ m ∧ cb ≠ sm) (vN : Value) (h13 : g L 13 = vN) (h15 : g L 15 = .string (textOf lk)) (hl64 : lk.length ≤ 64) (hR : PagesOf w vN all) (hv : ∀ x, vN.ownBlock = some x → x ≠ p ∧ x ≠ b ∧ x ≠ m ∧ w0.heap.size ≤ x ∧ vA.ownBlock ≠ some x)
    (hQ : ∀ (L' : Array Value) (w' : World) (p' : Nat) (vA' vD' : Value) (root' : List Nat) (ee : Exit), (ee = .normal ∨ ee = .exit 1) → Slots L' ca cn cc va b p' vA' vD' (textOf root') j → Stands w0 w' b m p' (j + 1) vA' vD' root' → Q ee ⟨L', []⟩ w') :
    Code.wp Tryd.prog (Cut.r (Cut.r arm2)) Q ⟨L, []⟩ w := by
  have HQ := hide hQ
  have HP := hide hP
  have HC := hide hC
  have hlA := hP.lenA
  have hlD := hP.lenD
  have huu := hP.u
  have hkk := hP.k
  have hnil := hC.nil
  have hlen := hC.len
  have hxp : ∀ x, lk ≠ [] → ak = some x → x.block ≠ p := fun x hl hx => by
    have h1 := hC.bytes.lt x hl hx
    have h2 := hP.ge
    omega
  have HXP := hide hxp
  have HB := hide (hC.bytes.turn hP.turn (by simp))
  have hc2 := hC.c2
  have HR := hide hR
  have HV := hide hv
  rw [lit L hS.size, hS.s0, hS.s2, hS.s7, hS.s9, hS.s11, hS.s12, hS.s14, hS.s17, h18, h13, h15]
  generalize g L = u
  clear hS h18 hQ hP hC hxp h13 h15 hR hv
  conv => arg 2; whnf
  go_wp2_with fail
  refine (commit_any p b m sm rb s q HP.out.live HP.out.qlive (by omega) ak ck lk lk.length rfl hl64 HC.out.byte hnil w HP.out.pat HB.out HXP.out HP.out.rbl).mono ?_
  rintro e w2 hpost
  rcases hpost with ⟨rfl, _, _, ⟨s2, sm2, rb2, hd2, hn2, hk2, hl2, hf2, hsm2, hrb2, hrl2, hA2⟩, hT2⟩ | ⟨rfl, _, ⟨s2, hd2, hn2, hL2, hf2, hD2⟩, hT2⟩
  · have HR2 := hide (C3.committed HP.out hA2 hT2 hsm2 hrb2 hrl2 hl64 hd2 hk2 hf2 HR.out HV.out)
    clear hA2 hT2 hf2 hl2 hk2 hn2
    go_wp2_with fail
    exact HQ.out _ _ p vA vN lk _ (.inl rfl) ⟨rfl, rfl, rfl, rfl, rfl, rfl, rfl, rfl, rfl⟩ (.inl ⟨sm2, rb2, s2, q.committed lk, all, all, HR2.out, rfl⟩)
  · have HR2 := hide (C3.gone HP.out (by omega) hD2 hL2 hf2 hT2 (by simp))
    clear hD2 hT2 hf2 hL2 hn2
    go_wp2_with fail
    exact HQ.out _ _ p vA vD q.root _ (.inl rfl) ⟨rfl, rfl, rfl, rfl, rfl, rfl, rfl, rfl, rfl⟩ (.inr ⟨s2, done, hd2, HR2.out⟩)

theorem arm2_any (w0 w : World) (L : Array Value) (Q : Exit → Act → World → Prop) (ca : Option Addr) (cn cc : Nat) (va : Value) (b m p sm rb j : Nat) (s : St) (q : Pg) (vA vD : Value) (all done : List (Nat × List Nat)) (cb : Nat)
    (kd NN : Int) (ak : Option Addr) (ck : Nat) (lk : List Nat)
    (hj : j < 60) (hS : Slots L ca cn cc va b p vA vD (textOf q.root) j) (h18 : g L 18 = .pointer (some ⟨cb, 0, none⟩)) (hP : C3 w0 w b m p sm rb j s q vA vD all done) (hC : CallIn w0 w cb kd NN ak ck lk) (hcb : cb ≠ p ∧ cb ≠ b ∧ cb ≠ m ∧ cb ≠ sm)
    (hQ : ∀ (L' : Array Value) (w' : World) (p' : Nat) (vA' vD' : Value) (root' : List Nat) (ee : Exit), (ee = .normal ∨ ee = .exit 1) → Slots L' ca cn cc va b p' vA' vD' (textOf root') j → Stands w0 w' b m p' (j + 1) vA' vD' root' → Q ee ⟨L', []⟩ w') :
    Code.wp Tryd.prog arm2 Q ⟨L, []⟩ w := by
  show Code.wp Tryd.prog (.seq (Cut.l arm2) (.seq r29 (Cut.r (Cut.r arm2)))) Q _ _
  refine wp_seq (test_any w0 w L _ ca cn cc va b m p sm rb j s q vA vD all done cb kd NN ak ck lk hj hS h18 hP hC hcb fun L1 hS1 h181 => ⟨fun hl64 => ?_, hQ L1 w p vA vD q.root _ (.inr rfl) hS1 (.inl ⟨sm, rb, s, q, all, done, hP.next, rfl⟩)⟩)
  show Code.wp Tryd.prog (.seq r29 (Cut.r (Cut.r arm2))) Q _ _
  refine wp_seq (r29_any w0 w L1 _ ca cn cc va b m p sm rb j s q vA vD all done cb kd NN ak ck lk hj hS1 h181 hP hC hcb fun L2 w2 v hS2 h182 h13 h15 hR hT hv => ?_)
  show Code.wp Tryd.prog (Cut.r (Cut.r arm2)) Q _ _
  have h1 := hP.pat.pg.lt
  have h2 := hP.pat.disk.lt
  have h3 := hP.pat.disk.ltm
  have h0 := hP.turn.size
  exact r30_any w0 w2 L2 _ ca cn cc va b m p sm rb j s q vA vD all done cb kd NN ak ck lk hj hS2 h182 (hP.turn0 hT) (hC.turn hT (by simp)) hcb v h13 h15 hl64 hR (fun x hx => by
    have := hv x hx
    exact ⟨by omega, by omega, by omega, by omega, fun e => by have := hP.rowA.lt x e; omega⟩) hQ
end Go.Proofs.YtjbjcjcahkfgbaaDoor.Cr
