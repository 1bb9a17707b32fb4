/-
  The law PagerCrashes, a call of each kind.
-/
import Derived.Test.YtjbjcjcahkfgbaaDoorCrCode
import Derived.Deep.RegionLaw
namespace Go.Proofs.YtjbjcjcahkfgbaaDoor.Cr
open Go.RowKit Go.Maps

set_option maxRecDepth 100000 in
set_option maxHeartbeats 3200000 in
theorem arm0_any (w0 w : World) (L : Array Value) (Q : Exit → Act → World → Prop) (ca : Option Addr) (cn cc : Nat) (va : Value) (b m p sm rb j : Nat) (s : St) (q : Pg) (vA vD : Value) (all done : List (Nat × List Nat)) (cb : Nat)
    (kd NN : Int) (ak : Option Addr) (ck : Nat) (lk : List Nat)
    (hj : j < 60) (hS : Slots L ca cn cc va b p vA vD (textOf q.root) j) (h18 : g L 18 = .pointer (some ⟨cb, 0, none⟩)) (hP : C3 w0 w b m p sm rb j s q vA vD all done) (hC : CallIn w0 w cb kd NN ak ck lk) (hcb : cb ≠ p ∧ cb ≠ b ∧ cb ≠ m ∧ cb ≠ sm)
    (hQ : ∀ (L' : Array Value) (w' : World) (p' : Nat) (vA' vD' : Value) (root' : List Nat) (ee : Exit), (ee = .normal ∨ ee = .exit 1) → Slots L' ca cn cc va b p' vA' vD' (textOf root') j → Stands w0 w' b m p' (j + 1) vA' vD' root' → Q ee ⟨L', []⟩ w') :
    Code.wp Tryd.prog arm0 Q ⟨L, []⟩ w := by
  have HQ := hide hQ
  have HP := hide hP
  have HC := hide hC
  have hlA := hP.lenA
  have hlD := hP.lenD
  have huu := hP.u
  have hkk := hP.k
  have hnil := hC.nil
  have hlen := hC.len
  have hxp : ∀ x, lk ≠ [] → ak = some x → x.block ≠ p := fun x hl hx => by
    have h1 := hC.bytes.lt x hl hx
    have h2 := hP.ge
    omega
  have HXP := hide hxp
  have HB := hide (hC.bytes.turn hP.turn (by simp))
  have hc2 := hC.c2
  obtain ⟨aA, cA, rfl, hPA, _⟩ := hP.rowA.slice
  rw [lit L hS.size, hS.s0, hS.s2, hS.s7, hS.s9, hS.s11, hS.s12, hS.s14, hS.s17, h18]
  generalize g L = u
  clear hS h18 hQ hP hC hPA hxp
  conv => arg 2; whnf
  by_cases h496 : 496 < lk.length
  · go_wp2_with fail
    exact HQ.out _ _ p _ vD q.root _ (.inr rfl) ⟨rfl, rfl, rfl, rfl, rfl, rfl, rfl, rfl, rfl⟩ (.inl ⟨sm, rb, s, q, all, done, HP.out.next, rfl⟩)
  · go_wp2_with fail
    refine (alloc_any p b m sm rb s q HP.out.live HP.out.qlive (by omega) (by omega) ak ck lk lk.length rfl (by omega) HC.out.byte w HB.out HXP.out HP.out.pat).mono ?_
    rintro e w3 hpost
    rcases hpost with ⟨rfl, hfull, hA3, hT3⟩ | ⟨k, rfl, hNx, _, hA3, hT3⟩ | ⟨k, rfl, _, _, hD3, hT3⟩
    · have HR := hide (C3.full HP.out hA3 hT3).next
      clear hA3 hT3 hfull
      go_wp2_with fail
      exact HQ.out _ _ p _ vD q.root _ (.inl rfl) ⟨rfl, rfl, rfl, rfl, rfl, rfl, rfl, rfl, rfl⟩ (.inl ⟨sm, rb, s, { q with rd := true }, all, done, HR.out, rfl⟩)
    · have hkr := hNx.range
      have hkN : k ≤ 4096 := by have := HP.out.pat.laid.n4096; omega
      have HC3 := hide (HC.out.turn hT3 (by simp; omega))
      have hc3 := HC3.out.c2
      have HPA3 := hide (((HP.out.rowA.turn hT3 (fun x hx => by have := HP.out.offA x hx; simp; omega))))
      have HA3 := hide hA3
      have HT3 := hide hT3
      have HNx := hide hNx
      have hT03 : Turn [] w0 w3 := HP.out.turn.then hT3 (by have := HP.out.ge; simp; omega)
      have hcv3 := text_at (HC3.out.bytes.turn hT03 (by simp)) lk.length ck rfl
      clear hA3 hT3 hNx hkr hc2
      go_wp2_with (at_builtin; refine append_page rfl _ _ rfl (.slice aA all.length cA) all (k, lk) rfl HPA3.out rfl (by omega) ?_; intro v' w6 h1 h2 h3; have H1 := hide h1; have H2 := hide h2; have H3 := hide h3; clear h1 h2 h3)
      have HR := hide (C3.alloced HP.out HNx.out (by omega) HA3.out HT3.out H1.out H2.out H3.out)
      exact HQ.out _ _ p v' vD q.root _ (.inl rfl) ⟨rfl, rfl, rfl, rfl, rfl, rfl, rfl, rfl, rfl⟩ (.inl ⟨sm, rb, _, q.alloced k, _, done, HR.out, rfl⟩)
    · have HR := hide (C3.gone HP.out (by omega) hD3 (Laid.dead HP.out.pat.laid) (fun _ _ => rfl) hT3 (by simp))
      clear hD3 hT3
      go_wp2_with fail
      exact HQ.out _ _ p _ vD q.root _ (.inl rfl) ⟨rfl, rfl, rfl, rfl, rfl, rfl, rfl, rfl, rfl⟩ (.inr ⟨{ s with dead := true }, done, rfl, HR.out⟩)

set_option maxRecDepth 100000 in
set_option maxHeartbeats 3200000 in
theorem arm1_any (w0 w : World) (L : Array Value) (Q : Exit → Act → World → Prop) (ca : Option Addr) (cn cc : Nat) (va : Value) (b m p sm rb j : Nat) (s : St) (q : Pg) (vA vD : Value) (all done : List (Nat × List Nat)) (cb : Nat)
    (kd NN : Int) (ak : Option Addr) (ck : Nat) (lk : List Nat)
    (hj : j < 60) (hS : Slots L ca cn cc va b p vA vD (textOf q.root) j) (h18 : g L 18 = .pointer (some ⟨cb, 0, none⟩)) (hP : C3 w0 w b m p sm rb j s q vA vD all done) (hC : CallIn w0 w cb kd NN ak ck lk) (_hcb : cb ≠ p ∧ cb ≠ b ∧ cb ≠ m ∧ cb ≠ sm)
    (hQ : ∀ (L' : Array Value) (w' : World) (p' : Nat) (vA' vD' : Value) (root' : List Nat) (ee : Exit), (ee = .normal ∨ ee = .exit 1) → Slots L' ca cn cc va b p' vA' vD' (textOf root') j → Stands w0 w' b m p' (j + 1) vA' vD' root' → Q ee ⟨L', []⟩ w') :
    Code.wp Tryd.prog arm1 Q ⟨L, []⟩ w := by
  have HQ := hide hQ
  have HP := hide hP
  have HC := hide hC
  have hlA := hP.lenA
  have hlD := hP.lenD
  have huu := hP.u
  have hkk := hP.k
  have hnil := hC.nil
  have hlen := hC.len
  have hxp : ∀ x, lk ≠ [] → ak = some x → x.block ≠ p := fun x hl hx => by
    have h1 := hC.bytes.lt x hl hx
    have h2 := hP.ge
    omega
  have HXP := hide hxp
  have HB := hide (hC.bytes.turn hP.turn (by simp))
  have hc1 := hC.c1
  obtain ⟨aA, cA, rfl, hPA, _⟩ := hP.rowA.slice
  have HPA := hide hPA
  rw [lit L hS.size, hS.s0, hS.s2, hS.s7, hS.s9, hS.s11, hS.s12, hS.s14, hS.s17, h18]
  generalize g L = u
  clear hS h18 hQ hP hC hPA hxp
  conv => arg 2; whnf
  by_cases hl : 0 < all.length
  · go_wp2_with fail
    refine (within_any NN all.length (by omega) (by omega) w).mono ?_
    rintro e w1 ⟨⟨k, hk, rfl⟩, rfl⟩
    obtain ⟨ga, rfl, hc3, _⟩ := HPA.out.at hk
    have HT := hide ((there_in HP.out all[k].1).2 (List.mem_map_of_mem (List.getElem_mem hk)))
    generalize all[k].1 = n at *
    go_wp2_with fail
    refine (free_yes p b m sm rb s q HP.out.live HP.out.qlive (by omega) n HT.out w1 HP.out.pat).mono ?_
    rintro e w2 ⟨rfl, hA1, hT1⟩
    have HA1 := hide hA1
    have HT1 := hide hT1
    have HPA1 := hide (HPA.out.turn hT1 (fun x hl hx => by
      have := HP.out.offA x.block (by rw [hx]; rfl)
      simp; omega))
    clear hA1 hT1 hc3 hc1
    go_wp2_with fail
    refine (without_any _ cA all n (by omega) w2 HPA1.out).mono ?_
    rintro e w3 ⟨v3, rfl, hR3, hT3, hf3⟩
    have HR := hide (C3.freed HP.out HA1.out HT1.out hR3 hT3 hf3)
    obtain ⟨e1, _, _, _⟩ := Pl.Pg.freed_root q n
    have E1 := hide e1
    clear hR3 hT3 hf3 e1
    go_wp2_with fail
    exact HQ.out _ _ p v3 vD q.root _ (.inl rfl) ⟨rfl, rfl, rfl, rfl, rfl, rfl, rfl, rfl, rfl⟩ (.inl ⟨sm, rb, s, q.freed n, _, done, HR.out, E1.out.symm⟩)
  · go_wp2_with fail
    exact HQ.out _ _ p _ vD q.root _ (.inl rfl) ⟨rfl, rfl, rfl, rfl, rfl, rfl, rfl, rfl, rfl⟩ (.inl ⟨sm, rb, s, q, all, done, HP.out.next, rfl⟩)

set_option maxRecDepth 100000 in
set_option maxHeartbeats 3200000 in
theorem arm4_any (w0 w : World) (L : Array Value) (Q : Exit → Act → World → Prop) (ca : Option Addr) (cn cc : Nat) (va : Value) (b m p sm rb j : Nat) (s : St) (q : Pg) (vA vD : Value) (all done : List (Nat × List Nat)) (cb : Nat)
    (kd NN : Int) (ak : Option Addr) (ck : Nat) (lk : List Nat)
    (hj : j < 60) (hS : Slots L ca cn cc va b p vA vD (textOf q.root) j) (h18 : g L 18 = .pointer (some ⟨cb, 0, none⟩)) (hP : C3 w0 w b m p sm rb j s q vA vD all done) (hC : CallIn w0 w cb kd NN ak ck lk) (_hcb : cb ≠ p ∧ cb ≠ b ∧ cb ≠ m ∧ cb ≠ sm)
    (hQ : ∀ (L' : Array Value) (w' : World) (p' : Nat) (vA' vD' : Value) (root' : List Nat) (ee : Exit), (ee = .normal ∨ ee = .exit 1) → Slots L' ca cn cc va b p' vA' vD' (textOf root') j → Stands w0 w' b m p' (j + 1) vA' vD' root' → Q ee ⟨L', []⟩ w') :
    Code.wp Tryd.prog arm4 Q ⟨L, []⟩ w := by
  have HQ := hide hQ
  have HP := hide hP
  have HC := hide hC
  have hlA := hP.lenA
  have hlD := hP.lenD
  have huu := hP.u
  have hkk := hP.k
  have hnil := hC.nil
  have hlen := hC.len
  have hxp : ∀ x, lk ≠ [] → ak = some x → x.block ≠ p := fun x hl hx => by
    have h1 := hC.bytes.lt x hl hx
    have h2 := hP.ge
    omega
  have HXP := hide hxp
  have HB := hide (hC.bytes.turn hP.turn (by simp))
  obtain ⟨aD, cD, rfl, hPD, _⟩ := hP.rowD.slice
  rw [lit L hS.size, hS.s0, hS.s2, hS.s7, hS.s9, hS.s11, hS.s12, hS.s14, hS.s17, h18]
  generalize g L = u
  clear hS h18 hQ hP hC hPD hxp
  conv => arg 2; whnf
  go_wp2_with fail
  refine (abort_any p b m sm rb s q w HP.out.pat HP.out.rbl).mono ?_
  rintro e w1 ⟨rfl, ⟨sm', hsm, hA1⟩, hT1⟩
  have HA1 := hide hA1
  have HT1 := hide hT1
  have HRD := hide (HP.out.rowD.turn hT1 (fun x hx => by have := HP.out.offD x hx; simp; omega))
  have HLv := hide HP.out.live
  clear hA1 hT1
  go_wp2_with fail
  refine (dead_any b m s w1 HA1.out.disk).mono ?_
  rintro e w2 ⟨rfl, rfl⟩
  rw [HLv.out]
  go_wp2_with (at_builtin; refine copy_pages rfl _ _ rfl (.slice aD done.length cD) done rfl rfl HRD.out (by omega) ?_; intro v' w2 h1 h2 h3; have H1 := hide h1; have H2 := hide h2; have H3 := hide h3; clear h1 h2 h3)
  have HR := hide (C3.back (q' := { q with si := fun _ => 0, u := 0 }) HP.out HA1.out HT1.out hsm HP.out.qlive (Nat.zero_le _) HP.out.rl rfl (fun _ => rfl) H1.out H2.out H3.out).next
  exact HQ.out _ _ p v' _ q.root _ (.inl rfl) ⟨rfl, rfl, rfl, rfl, rfl, rfl, rfl, rfl, rfl⟩ (.inl ⟨sm', rb, s, { q with si := fun _ => 0, u := 0 }, done, done, HR.out, rfl⟩)
end Go.Proofs.YtjbjcjcahkfgbaaDoor.Cr
