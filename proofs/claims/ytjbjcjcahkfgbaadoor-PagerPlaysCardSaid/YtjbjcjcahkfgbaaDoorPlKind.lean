/-
  The law PagerPlays, a round from where its kind is asked on.
-/
import Derived.Test.YtjbjcjcahkfgbaaDoorPlAlloc
import Derived.Test.YtjbjcjcahkfgbaaDoorPlRead
import Derived.Test.YtjbjcjcahkfgbaaDoorPlCommit
import Derived.Test.YtjbjcjcahkfgbaaDoorPlOpen
import Derived.Test.YtjbjcjcahkfgbaaDoorPlTail
import Derived.Deep.CutRange
namespace Go.Proofs.YtjbjcjcahkfgbaaDoor.Pl
open Go.RowKit Go.Maps

noncomputable def r19 : Code := Cut.l (Cut.l rest)

set_option maxRecDepth 100000 in
set_option maxHeartbeats 3200000 in
theorem r19_any (w0 w : World) (L : Array Value) (Q : Exit → Act → World → Prop) (N : Nat) (ca : Option Addr) (cn cc b m p sm rb j : Nat) (s : St) (q : Pg) (vA vD : Value) (all done : List (Nat × List Nat)) (news wrote cb : Nat) (kk : Int)
    (_hw0 : 0 < w0.heap.size) (_hj : j < 120) (hS : Slots L N ca cn cc b p vA vD (textOf q.root) q.c news wrote j) (hS2 : Slots2 L cb kk) (_hP : P3 w0 w N b m p sm rb j s q vA vD all done news wrote)
    (kd NN : Int) (ak : Option Addr) (ck : Nat) (lk : List Nat) (hC : CallIn w0 w cb kd NN ak ck lk) (_hcb : cb ≠ p ∧ cb ≠ b ∧ cb ≠ m ∧ cb ≠ sm) (_hcA : vA.ownBlock ≠ some cb)
    (hQ : ∀ (L' : Array Value) (k : Nat), k < 6 → g L' 83 = .int .i64 (k : Nat) → Slots L' N ca cn cc b p vA vD (textOf q.root) q.c news wrote j → Slots2 L' cb kk → Q .normal ⟨L', []⟩ w) :
    Code.wp Tryd.prog r19 Q ⟨L, []⟩ w := by
  have HQ := hide hQ
  have hc0 := hC.c0
  rw [lit L hS.size, hS.s0, hS.s1, hS.s5, hS.s7, hS.s9, hS.s10, hS.s11, hS.s12, hS.s13, hS.s14, hS.s15, hS2.s16, hS2.s17]
  generalize g L = u
  clear hS hS2 hQ _hP hC
  conv => arg 2; whnf
  go_wp2_with fail
  refine (within_any kd 6 (by omega) (by omega) w).mono ?_
  rintro e w1 ⟨⟨k, hk, rfl⟩, rfl⟩
  go_wp2_with fail
  exact HQ.out _ k hk rfl ⟨rfl, rfl, rfl, rfl, rfl, rfl, rfl, rfl, rfl, rfl, rfl, rfl⟩ ⟨rfl, rfl⟩

set_option maxRecDepth 100000 in
set_option maxHeartbeats 3200000 in
theorem sw_any (w0 w : World) (L : Array Value) (Q : Exit → Act → World → Prop) (N : Nat) (ca : Option Addr) (cn cc b m p sm rb j : Nat) (s : St) (q : Pg) (vA vD : Value) (all done : List (Nat × List Nat)) (news wrote cb : Nat) (kk : Int)
    (hw0 : 0 < w0.heap.size) (hj : j < 120) (hS : Slots L N ca cn cc b p vA vD (textOf q.root) q.c news wrote j) (hS2 : Slots2 L cb kk) (hP : P3 w0 w N b m p sm rb j s q vA vD all done news wrote)
    (kd NN : Int) (ak : Option Addr) (ck : Nat) (lk : List Nat) (hC : CallIn w0 w cb kd NN ak ck lk) (hcb : cb ≠ p ∧ cb ≠ b ∧ cb ≠ m ∧ cb ≠ sm) (hcA : vA.ownBlock ≠ some cb)
    (k : Nat) (hk : k < 6) (h83 : g L 83 = .int .i64 (k : Nat))
    (hQ : ∀ (L' : Array Value) (w' : World) (p' sm' rb' : Nat) (s' : St) (q' : Pg) (vA' vD' : Value) (all' done' : List (Nat × List Nat)) (news' wrote' : Nat) (ee : Exit), (ee = .normal ∨ ee = .exit 1) → Slots L' N ca cn cc b p' vA' vD' (textOf q'.root) q'.c news' wrote' j → P3 w0 w' N b m p' sm' rb' (j + 1) s' q' vA' vD' all' done' news' wrote' → Q ee ⟨L', []⟩ w') :
    Code.wp Tryd.prog sw Q ⟨L, []⟩ w := by
  have HQ := hide hQ
  have HP := hide hP
  have HC := hide hC
  rw [lit L hS.size, hS.s0, hS.s1, hS.s5, hS.s7, hS.s9, hS.s10, hS.s11, hS.s12, hS.s13, hS.s14, hS.s15, hS2.s16, hS2.s17, h83]
  generalize g L = u
  clear hS hS2 hQ hP hC h83
  conv => arg 2; whnf
  obtain rfl | rfl | rfl | rfl | rfl | rfl : k = 0 ∨ k = 1 ∨ k = 2 ∨ k = 3 ∨ k = 4 ∨ k = 5 := by omega
  · go_upto_if 84 with fail
    refine wp_cond (t := true) rfl ?_
    show Code.wp Tryd.prog arm0 Q _ w
    exact arm0_any w0 w _ Q N ca cn cc b m p sm rb j s q vA vD all done news wrote cb kk hw0 hj ⟨rfl, rfl, rfl, rfl, rfl, rfl, rfl, rfl, rfl, rfl, rfl, rfl⟩ ⟨rfl, rfl⟩ HP.out kd NN ak ck lk HC.out hcb hcA (fun L' w' s' q' vA' all' news' ee he h1 h2 => HQ.out L' w' p sm rb s' q' vA' vD all' done news' wrote ee he h1 h2)
  · go_upto_if 84 with fail
    refine wp_cond (t := false) rfl ?_
    conv => arg 2; whnf
    go_upto_if 146 with fail
    refine wp_cond (t := true) rfl ?_
    show Code.wp Tryd.prog arm1 Q _ w
    exact arm1_any w0 w _ Q N ca cn cc b m p sm rb j s q vA vD all done news wrote cb kk hj ⟨rfl, rfl, rfl, rfl, rfl, rfl, rfl, rfl, rfl, rfl, rfl, rfl⟩ ⟨rfl, rfl⟩ HP.out (fun L' w' q' vA' all' h1 h2 => HQ.out L' w' p sm rb s q' vA' vD all' done news wrote _ (.inl rfl) h1 h2)
  · go_upto_if 84 with fail
    refine wp_cond (t := false) rfl ?_
    conv => arg 2; whnf
    go_upto_if 146 with fail
    refine wp_cond (t := false) rfl ?_
    conv => arg 2; whnf
    go_upto_if 169 with fail
    refine wp_cond (t := true) rfl ?_
    show Code.wp Tryd.prog arm2 Q _ w
    exact arm2_any w0 w _ Q N ca cn cc b m p sm rb j s q vA vD all done news wrote cb kk hj ⟨rfl, rfl, rfl, rfl, rfl, rfl, rfl, rfl, rfl, rfl, rfl, rfl⟩ ⟨rfl, rfl⟩ HP.out (fun L' w' r h1 h2 => HQ.out L' w' p sm rb s { q with rd := r } vA vD all done news wrote _ (.inl rfl) h1 h2.next)
  · go_upto_if 84 with fail
    refine wp_cond (t := false) rfl ?_
    conv => arg 2; whnf
    go_upto_if 146 with fail
    refine wp_cond (t := false) rfl ?_
    conv => arg 2; whnf
    go_upto_if 169 with fail
    refine wp_cond (t := false) rfl ?_
    conv => arg 2; whnf
    go_upto_if 204 with fail
    refine wp_cond (t := true) rfl ?_
    show Code.wp Tryd.prog arm3 Q _ w
    exact arm3_any w0 w _ Q N ca cn cc b m p sm rb j s q vA vD all done news wrote cb kk hj ⟨rfl, rfl, rfl, rfl, rfl, rfl, rfl, rfl, rfl, rfl, rfl, rfl⟩ ⟨rfl, rfl⟩ HP.out kd NN ak ck lk HC.out hcb (fun L' w' sm' rb' s' q' vD' done' news' wrote' ee he h1 h2 => HQ.out L' w' p sm' rb' s' q' vA vD' all done' news' wrote' ee he h1 h2)
  · go_upto_if 84 with fail
    refine wp_cond (t := false) rfl ?_
    conv => arg 2; whnf
    go_upto_if 146 with fail
    refine wp_cond (t := false) rfl ?_
    conv => arg 2; whnf
    go_upto_if 169 with fail
    refine wp_cond (t := false) rfl ?_
    conv => arg 2; whnf
    go_upto_if 204 with fail
    refine wp_cond (t := false) rfl ?_
    conv => arg 2; whnf
    go_upto_if 239 with fail
    refine wp_cond (t := true) rfl ?_
    show Code.wp Tryd.prog arm4 Q _ w
    exact arm4_any w0 w _ Q N ca cn cc b m p sm rb j s q vA vD all done news wrote cb kk hj ⟨rfl, rfl, rfl, rfl, rfl, rfl, rfl, rfl, rfl, rfl, rfl, rfl⟩ ⟨rfl, rfl⟩ HP.out (fun L' w' sm' q' vA' h1 h2 => HQ.out L' w' p sm' rb s q' vA' vD done done news wrote _ (.inl rfl) h1 h2.next)
  · go_upto_if 84 with fail
    refine wp_cond (t := false) rfl ?_
    conv => arg 2; whnf
    go_upto_if 146 with fail
    refine wp_cond (t := false) rfl ?_
    conv => arg 2; whnf
    go_upto_if 169 with fail
    refine wp_cond (t := false) rfl ?_
    conv => arg 2; whnf
    go_upto_if 204 with fail
    refine wp_cond (t := false) rfl ?_
    conv => arg 2; whnf
    go_upto_if 239 with fail
    refine wp_cond (t := false) rfl ?_
    conv => arg 2; whnf
    go_upto_if 246 with fail
    refine wp_cond (t := true) rfl ?_
    show Code.wp Tryd.prog arm5 Q _ w
    exact arm5_any w0 w _ Q N ca cn cc b m p sm rb j s q vA vD all done news wrote cb kk hj ⟨rfl, rfl, rfl, rfl, rfl, rfl, rfl, rfl, rfl, rfl, rfl, rfl⟩ ⟨rfl, rfl⟩ HP.out (fun L' w' p' sm' rb' q' vA' wrote' h1 h2 => HQ.out L' w' p' sm' rb' s q' vA' vD done done 0 wrote' _ (.inl rfl) h1 h2.next)

theorem rest_any (w0 w : World) (L : Array Value) (Q : Exit → Act → World → Prop) (N : Nat) (ca : Option Addr) (cn cc b m p sm rb j : Nat) (s : St) (q : Pg) (vA vD : Value) (all done : List (Nat × List Nat)) (news wrote cb : Nat) (kk : Int)
    (hw0 : 0 < w0.heap.size) (hj : j < 120) (hS : Slots L N ca cn cc b p vA vD (textOf q.root) q.c news wrote j) (hS2 : Slots2 L cb kk) (hP : P3 w0 w N b m p sm rb j s q vA vD all done news wrote)
    (kd NN : Int) (ak : Option Addr) (ck : Nat) (lk : List Nat) (hC : CallIn w0 w cb kd NN ak ck lk) (hcb : cb ≠ p ∧ cb ≠ b ∧ cb ≠ m ∧ cb ≠ sm) (hcA : vA.ownBlock ≠ some cb) (hN : 64 ≤ N ∧ N ≤ 163)
    (hQ : ∀ (L' : Array Value) (w' : World) (p' sm' rb' : Nat) (s' : St) (q' : Pg) (vA' vD' : Value) (all' done' : List (Nat × List Nat)) (news' wrote' : Nat) (ee : Exit), (ee = .normal ∨ ee = .exit 1) → Slots L' N ca cn cc b p' vA' vD' (textOf q'.root) q'.c news' wrote' j → P3 w0 w' N b m p' sm' rb' (j + 1) s' q' vA' vD' all' done' news' wrote' → Q ee ⟨L', []⟩ w') :
    Code.wp Tryd.prog rest Q ⟨L, []⟩ w := by
  show Code.wp Tryd.prog (.seq (.seq r19 (.block 2 sw)) tail) Q _ _
  refine wp_seq (wp_seq (r19_any w0 w L _ N ca cn cc b m p sm rb j s q vA vD all done news wrote cb kk hw0 hj hS hS2 hP kd NN ak ck lk hC hcb hcA ?_))
  intro L1 k hk h83 hS1 hS21
  show Code.wp Tryd.prog (.block 2 sw) _ _ _
  refine wp_block (sw_any w0 w L1 _ N ca cn cc b m p sm rb j s q vA vD all done news wrote cb kk hw0 hj hS1 hS21 hP kd NN ak ck lk hC hcb hcA k hk h83 ?_)
  intro L2 w2 p2 sm2 rb2 s2 q2 vA2 vD2 all2 done2 news2 wrote2 ee he hS3 hP3
  rcases he with rfl | rfl
  · show Code.wp Tryd.prog tail Q _ _
    exact tail_any w0 w2 L2 Q N ca cn cc b m p2 sm2 rb2 (j + 1) s2 q2 vA2 vD2 all2 done2 news2 wrote2 (by omega) hN j hS3 hP3 (fun L4 w4 r h4 h5 => hQ L4 w4 p2 sm2 rb2 s2 { q2 with rd := r } vA2 vD2 all2 done2 news2 wrote2 _ (.inl rfl) h4 h5)
  · exact hQ L2 w2 p2 sm2 rb2 s2 q2 vA2 vD2 all2 done2 news2 wrote2 _ (.inr rfl) hS3 hP3
end Go.Proofs.YtjbjcjcahkfgbaaDoor.Pl
