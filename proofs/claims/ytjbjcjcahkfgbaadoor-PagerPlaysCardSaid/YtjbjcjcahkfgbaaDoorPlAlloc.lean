/-
  The law PagerPlays, the arm that allocates.
-/
import Derived.Test.YtjbjcjcahkfgbaaDoorPlFree
namespace Go.Proofs.YtjbjcjcahkfgbaaDoor.Pl
open Go.RowKit Go.Maps

theorem P3.alloced {w0 w : World} {N b m p sm rb j : Nat} {s : St} {q : Pg} {vA vD : Value} {all done : List (Nat × List Nat)} {news wrote : Nat} (h : P3 w0 w N b m p sm rb j s q vA vD all done news wrote) {w1 w2 : World} {v : Value} {k : Nat} {lk : List Nat}
    (hw0 : 0 < w0.heap.size) (hk : q.Next s.n k) (hl : lk.length ≤ 496) (hA : PAt w1 p b m sm rb (s.did k (bytesOf 512 (pageB lk))) (q.alloced k)) (hT : Turn [p, b, m, sm] w w1)
    (hR : PagesOf w2 v (all ++ [(k, lk)])) (hT2 : Turn [] w1 w2 ∨ (∃ x, vA.ownBlock = some x ∧ Turn [x] w1 w2)) (hv : v.ownBlock = vA.ownBlock ∨ ∃ x, v.ownBlock = some x ∧ w1.heap.size ≤ x) :
    P3 w0 w2 N b m p sm rb (j + 1) (s.did k (bytesOf 512 (pageB lk))) (q.alloced k) v vD (all ++ [(k, lk)]) done (news + 1) wrote := by
  have h1 := hA.pg.lt
  have h2 := hA.disk.lt
  have h3 := hA.disk.ltm
  have h4 := hA.pg.lts
  have h5 := h.rbl
  have hsz := hT.size
  have h0 := h.turn.size
  have hge := h.ge
  have hp0 := hA.pos
  have hsz2 : w1.heap.size ≤ w2.heap.size := by
    rcases hT2 with h | ⟨_, _, h⟩ <;> exact h.size
  have hD1 := h.rowD.turn hT (fun x hx => by have := h.offD x hx; simp; omega)
  have hT02 : Turn [] w0 w1 := h.turn.then hT (by simp; omega)
  have hoff : ∀ x, v.ownBlock = some x → x ≠ p ∧ x ≠ b ∧ x ≠ m ∧ x ≠ sm ∧ x ≠ rb ∧ w0.heap.size ≤ x := fun x hx => by
    rcases hv with e | ⟨y, e, hy⟩
    · exact h.offA x (e ▸ hx)
    · obtain rfl : y = x := by rw [e] at hx; exact Option.some.inj hx
      omega
  have htwo : ∀ x, v.ownBlock = some x → vD.ownBlock ≠ some x := fun x hx hd => by
    rcases hv with e | ⟨y, e, hy⟩
    · exact h.two x (e ▸ hx) hd
    · obtain rfl : y = x := by rw [e] at hx; exact Option.some.inj hx
      have := h.rowD.lt y hd
      omega
  obtain ⟨hA2, hD2, hT3⟩ : PAt w2 p b m sm rb (s.did k (bytesOf 512 (pageB lk))) (q.alloced k) ∧ PagesOf w2 vD done ∧ Turn [] w0 w2 := by
    rcases hT2 with hh | ⟨x, hx, hh⟩
    · exact ⟨hA.turn0 hh, hD1.turn hh (by simp), hT02.then hh (by simp)⟩
    · have ho := h.offA x hx
      exact ⟨hA.turn hh (by simp; omega) (by simp; omega) (by simp; omega) (by simp; omega) (by simp; omega) (by simp; omega), hD1.turn hh (fun y hy => by simp; exact fun e => h.two x hx (e ▸ hy)), hT02.then hh (by simp; omega)⟩
  have hkr := hk.range
  refine ⟨hA2, h.live, h.qlive, h.n, by have := h.k; show s.k + 1 ≤ _; omega, ?_, by have := h.u; show q.u + 1 ≤ _; omega, h.rl, hR, hD2, by rw [List.length_append]; have := h.lenA; show all.length + 1 ≤ _; omega, by have := h.lenD; omega, hoff, h.offD, htwo, h.plain.alloced hk lk hl (fun n hn => by show put s.f k _ n = _; unfold put; rw [if_neg hn]) (St.did_f_same _ _ _), by have := h.wr; show s.k + 1 = _; omega, by omega, hge, hT3⟩
  show (if s.left < 0 then s.left else s.left - 1) < 0
  rw [if_pos h.left]
  exact h.left

theorem P3.full {w0 w : World} {N b m p sm rb j : Nat} {s : St} {q : Pg} {vA vD : Value} {all done : List (Nat × List Nat)} {news wrote : Nat} (h : P3 w0 w N b m p sm rb j s q vA vD all done news wrote)
    {w' : World} {r : Bool} (hA : PAt w' p b m sm rb s { q with rd := r }) (hT : Turn [p, b, m, sm] w w') : P3 w0 w' N b m p sm rb j s { q with rd := r } vA vD all done news wrote :=
  ⟨hA, h.live, h.qlive, h.n, h.k, h.left, h.u, h.rl, h.rowA.turn hT (fun x hx => by have := h.offA x hx; simp; omega), h.rowD.turn hT (fun x hx => by have := h.offD x hx; simp; omega), h.lenA, h.lenD, h.offA, h.offD, h.two, h.plain.rd r, h.wr, Nat.lt_of_lt_of_le h.rbl hT.size, h.ge, h.turn.then hT (by have := h.ge; simp; omega)⟩

set_option maxRecDepth 100000 in
set_option maxHeartbeats 3200000 in
theorem arm0_any (w0 w : World) (L : Array Value) (Q : Exit → Act → World → Prop) (N : Nat) (ca : Option Addr) (cn cc b m p sm rb j : Nat) (s : St) (q : Pg) (vA vD : Value) (all done : List (Nat × List Nat)) (news wrote cb : Nat) (kk : Int)
    (hw0 : 0 < w0.heap.size) (hj : j < 120) (hS : Slots L N ca cn cc b p vA vD (textOf q.root) q.c news wrote j) (hS2 : Slots2 L cb kk) (hP : P3 w0 w N b m p sm rb j s q vA vD all done news wrote)
    (kd NN : Int) (ak : Option Addr) (ck : Nat) (lk : List Nat) (hC : CallIn w0 w cb kd NN ak ck lk) (hcb : cb ≠ p ∧ cb ≠ b ∧ cb ≠ m ∧ cb ≠ sm) (hcA : vA.ownBlock ≠ some cb)
    (hQ : ∀ (L' : Array Value) (w' : World) (s' : St) (q' : Pg) (vA' : Value) (all' : List (Nat × List Nat)) (news' : Nat) (ee : Exit), (ee = .normal ∨ ee = .exit 1) → Slots L' N ca cn cc b p vA' vD (textOf q'.root) q'.c news' wrote j → P3 w0 w' N b m p sm rb (j + 1) s' q' vA' vD all' done news' wrote → Q ee ⟨L', []⟩ w') :
    Code.wp Tryd.prog arm0 Q ⟨L, []⟩ w := by
  rw [lit L hS.size, hS.s0, hS.s1, hS.s5, hS.s7, hS.s9, hS.s10, hS.s11, hS.s12, hS.s13, hS.s14, hS.s15, hS2.s16, hS2.s17]
  generalize g L = u
  have HQ := hide hQ
  have HP := hide hP
  have hlA := hP.lenA
  have hlD := hP.lenD
  have huu := hP.u
  have hkk := hP.k
  obtain ⟨aA, cA, rfl, hPA, _⟩ := hP.rowA.slice
  obtain ⟨aD, cD, rfl, hPD, _⟩ := hP.rowD.slice
  have HPA := hide hPA
  have HPD := hide hPD
  have HC := hide hC
  have hc2 := hC.c2
  have hnil := hC.nil
  have hlen := hC.len
  have hcl := lt_of_cell hc2
  clear hS hS2 hQ hP hPA hPD hC
  conv => arg 2; whnf
  by_cases h2000 : 2000 < lk.length
  · go_wp2_with fail
    exact HQ.out _ _ s q _ all news _ (.inr rfl) ⟨rfl, rfl, rfl, rfl, rfl, rfl, rfl, rfl, rfl, rfl, rfl, rfl⟩ HP.out.next
  · go_wp2_with fail
    obtain ⟨lf, hlf⟩ : ∃ lf, lf = q.left N := ⟨_, rfl⟩
    have hlle := left_le q N
    rw [← hlf] at hlle
    have HLf := hide (left_any p b m sm rb s q HP.out.live w HP.out.pat)
    rw [HP.out.n, ← hlf] at HLf
    have HlfE := hide hlf
    clear hlf
    refine HLf.out.mono ?_
    rintro e w1 ⟨rfl, hA1, hT1⟩
    have HP1 := hide (HP.out.rd hA1 hT1)
    have HC1 := hide (HC.out.turn hT1 (by simp; omega))
    have hc21 := HC1.out.c2
    have HOWN := hide (show (w1.alloc (.cells #[] 5)).ownsRow w1.heap.size 5 1 (.slice (some ⟨w1.heap.size, 0, none⟩) 0 0) 0 (([] : List Nat).map byteCell) from World.ownsRow_made w1 #[] 0 (Nat.le_refl _) (Nat.zero_le _) rfl)
    have HBA := hide ((HC1.out.bytes.turn HP1.out.turn (by simp)).turn ((Turn.refl [] w1).alloc (.cells #[] 5)) (by simp))
    have hcl1 := lt_of_cell hc21
    clear hA1 hT1 hc2 HC
    go_wp2_with (at_builtin; refine append_bytes rfl _ _ rfl w1.heap.size (.slice (some ⟨w1.heap.size, 0, none⟩) 0 0) 0 [] rfl HOWN.out ak lk.length ck lk rfl rfl hnil HBA.out (by omega) (by simp) ?_; intro v1 w2 hown1 hgrow1 hnil1)
    have hvn : v1 ≠ .slice none 0 0 := by
      intro e
      have := hnil1
      simp [e] at this
    obtain ⟨g1, cg, hv, hng, hg, hgl, hbg, hfg⟩ := own_some (l := lk) (by simpa using hown1) hvn
    have hT2 : Turn [] w1 w2 := ((Turn.refl [] w1).alloc _).grown hgrow1 (by intro k hk; right; simp [Value.ownBlock] at hk; omega)
    have HP2 := hide (HP1.out.turn0 hT2)
    have HC2 := hide (HC1.out.turn hT2 (by simp))
    have HBG := hide hbg
    have hpl := HP1.out.pat.pg.lt
    rw [hv]
    clear hv hown1 hgrow1 hbg hfg hnil1 hvn hng HOWN HBA hT2 hc21 HP1 HC1
    by_cases h496 : 496 < lk.length
    · refine (alloc_long p b m sm rb s _ HP2.out.live HP2.out.qlive _ cg lk.length h496 (by unfold maxLen; omega) w2 HP2.out.pat).mono ?_
      rintro e w3 ⟨rfl, hA3, hT3⟩
      have HP3 := hide (HP2.out.rd (r := true) hA3 hT3)
      have hc3 := (HC2.out.turn hT3 (by simp; omega)).c2
      clear hA3 hT3
      go_wp2_with fail
      exact HQ.out _ _ s { q with rd := true } _ all news _ (.inr rfl) ⟨rfl, rfl, rfl, rfl, rfl, rfl, rfl, rfl, rfl, rfl, rfl, rfl⟩ HP3.out.next
    · refine (alloc_any p b m sm rb s { q with rd := true } HP2.out.live HP2.out.qlive (by show q.u < 1000000000; omega) (by omega) _ cg lk lk.length rfl (by omega) HC2.out.byte w2 HBG.out (fun x _ hx => by obtain rfl := Option.some.inj hx; show g1 ≠ p; omega) HP2.out.pat).mono ?_
      rintro e w3 hpost
      rcases hpost with ⟨rfl, hfull, hA3, hT3⟩ | ⟨k, rfl, hNx, _, hA3, hT3⟩ | ⟨k, _, _, h, _⟩
      · -- full
        have hl0 : lf = 0 := by
          rw [HlfE.out]
          exact (Pg.left_zero _ _).2 fun k hk => by have := hfull k hk; rw [HP.out.n] at this; exact this
        subst hl0
        have hc3 := (HC2.out.turn hT3 (by simp; omega)).c2
        have HR := hide (P3.full HP2.out hA3 hT3)
        clear hA3 hT3 hfull
        go_wp2_with fail
        exact HQ.out _ _ s { q with rd := true } _ all news _ (.inl rfl) ⟨rfl, rfl, rfl, rfl, rfl, rfl, rfl, rfl, rfl, rfl, rfl, rfl⟩ HR.out.next
      · -- a page
        have hl1 : (({ q with rd := true } : Pg).alloced k).left N + 1 = lf := by
          rw [HlfE.out]
          have := Pg.left_alloced (q := { q with rd := true }) (N := N) (k := k) (by rw [← HP.out.n]; exact hNx)
          exact this
        have hl2 : 0 < lf := by omega
        have hkr := hNx.range
        have hk1 : 1 ≤ k := by omega
        have hnl : news ≤ 1000 := by have := HP.out.wr; omega
        have hkN : k ≤ 4096 := by have := HP.out.pat.laid.n4096; omega
        have HNA : Hid (∀ x : Nat, ((k : Nat) : Int) = (x : Int) → x ∉ all.map Prod.fst) := fun x e hm => by
          obtain rfl : k = x := Int.ofNat.inj e
          have := (HP2.out.plain.a k).2 hm
          unfold Pg.there at this
          have h9 := hkr.2.2.1
          have h8 := hkr.2.2.2
          simp at this
          rcases this.1 with h7 | h7
          · rw [h7] at h9; cases h9
          · exact h8 h7
        have HND : Hid (∀ x : Nat, ((k : Nat) : Int) = (x : Int) → x ∉ done.map Prod.fst) := fun x e hm => by
          obtain rfl : k = x := Int.ofNat.inj e
          have h7 := (HP2.out.plain.d k).2 hm
          have h9 := hkr.2.2.1
          rw [h7] at h9
          cases h9
        have HC3 := hide (HC2.out.turn hT3 (by simp; omega))
        have hc3 := HC3.out.c2
        have HPA3 := hide (((HP2.out.rowA.turn hT3 (fun x hx => by have := HP2.out.offA x hx; simp; omega))))
        have HPD3 := hide (((HP2.out.rowD.turn hT3 (fun x hx => by have := HP2.out.offD x hx; simp; omega))))
        have HA3 := hide hA3
        have HT3 := hide hT3
        have HNx := hide hNx
        have hT03 : Turn [] w0 w3 := HP2.out.turn.then hT3 (by have := HP2.out.ge; simp; omega)
        have hcv3 := text_at (HC3.out.bytes.turn hT03 (by simp)) lk.length ck rfl
        obtain ⟨_, _, eA, hPA3, _⟩ := HPA3.out.slice
        obtain ⟨_, _, eD, hPD3, _⟩ := HPD3.out.slice
        injection eA with eA1 _ eA2
        injection eD with eD1 _ eD2
        subst eA1 eA2 eD1 eD2
        have HPa := hide hPA3
        have HPd := hide hPD3
        clear hA3 hT3 hNx hl1 hkr hPA3 hPD3
        go_wp2_with fail
        refine (at_any aA cA all k (by omega) w3 HPa.out).mono ?_
        rintro e w4 ⟨v, rfl, hv, rfl⟩
        obtain rfl := place_no hv HNA.out
        clear hv
        go_wp2_with fail
        refine (at_any aD cD done k (by omega) w4 HPd.out).mono ?_
        rintro e w5 ⟨v, rfl, hv, rfl⟩
        obtain rfl := place_no hv HND.out
        clear hv
        go_wp2_with (at_builtin; refine append_page rfl _ _ rfl (.slice aA all.length cA) all (k, lk) rfl HPA3.out rfl (by omega) ?_; intro v' w6 h1 h2 h3; have H1 := hide h1; have H2 := hide h2; have H3 := hide h3; clear h1 h2 h3)
        have HR := hide (P3.alloced HP2.out hw0 HNx.out (by omega) HA3.out HT3.out H1.out H2.out H3.out)
        exact HQ.out _ _ _ (({ q with rd := true } : Pg).alloced k) v' (all ++ [(k, lk)]) (news + 1) _ (.inl rfl) ⟨rfl, rfl, rfl, rfl, rfl, rfl, rfl, rfl, rfl, by go_num, rfl, rfl⟩ HR.out
      · exact absurd h (by have := HP.out.left; omega)
end Go.Proofs.YtjbjcjcahkfgbaaDoor.Pl
