/-
  The law PagerPlays, the arm that commits.
-/
import Derived.Test.YtjbjcjcahkfgbaaDoorPlFree
namespace Go.Proofs.YtjbjcjcahkfgbaaDoor.Pl
open Go.RowKit Go.Maps

theorem P3.committed {w0 w : World} {N b m p sm rb j : Nat} {s : St} {q : Pg} {vA vD : Value} {all done : List (Nat × List Nat)} {news wrote : Nat} (h : P3 w0 w N b m p sm rb j s q vA vD all done news wrote) {w1 w2 w3 : World} {v : Value} {sm' rb' : Nat} {s' : St} {root : List Nat}
    (hT0 : Turn [] w w1) (hA : PAt w2 p b m sm' rb' s' (q.committed root)) (hT : Turn [p, b, m] w1 w2) (hsm : w1.heap.size ≤ sm') (hrb : w1.heap.size ≤ rb') (hrl : rb' < w2.heap.size) (hr : root.length ≤ 64) (hd : s'.dead = false) (hn : s'.n = s.n) (hk : s'.k = s.k + 2) (hl : s.left < 0 → s'.left < 0) (hf : ∀ k, 4 ≤ k → s'.f k = s.f k)
    (hR : PagesOf w3 v all) (hT2 : Turn [] w2 w3) (hv : ∀ x, v.ownBlock = some x → w2.heap.size ≤ x) : P3 w0 w3 N b m p sm' rb' (j + 1) s' (q.committed root) vA v all all 0 s'.k := by
  have h1 := hA.pg.lt
  have h2 := hA.disk.lt
  have h3 := hA.disk.ltm
  have h4 := hA.pg.lts
  have hsz := hT.size
  have hsz0 := hT0.size
  have h0 := h.turn.size
  have hge := h.ge
  have hAl : ∀ x, vA.ownBlock = some x → x < w.heap.size := fun x hx => h.rowA.lt x hx
  refine ⟨hA.turn0 hT2, hd, h.qlive, hn.trans h.n, by have := h.k; omega, hl h.left, Nat.zero_le _, hr, ((h.rowA.turn hT0 (by simp)).turn hT (fun x hx => by have := h.offA x hx; simp; omega)).turn hT2 (by simp), hR, by have := h.lenA; omega, by have := h.lenA; omega, fun x hx => ?_, fun x hx => ?_, fun x hx hd => ?_, h.plain.committed root (fun x hx => hf _ ?_), rfl, Nat.lt_of_lt_of_le hrl hT2.size, ⟨hge.1, hge.2.1, hge.2.2.1, by omega⟩, ((h.turn.then hT0 (by simp)).then hT (by simp; omega)).then hT2 (by simp)⟩
  · have := h.offA x hx
    have := hAl x hx
    omega
  · have := hv x hx
    omega
  · have := hv x hd
    have := hAl x hx
    omega
  · obtain ⟨_, e, h4, _⟩ := Pg.there_range ((there_in h x.1).2 (List.mem_map_of_mem hx))
    omega

set_option maxRecDepth 100000 in
set_option maxHeartbeats 3200000 in
theorem arm3_any (w0 w : World) (L : Array Value) (Q : Exit → Act → World → Prop) (N : Nat) (ca : Option Addr) (cn cc b m p sm rb j : Nat) (s : St) (q : Pg) (vA vD : Value) (all done : List (Nat × List Nat)) (news wrote cb : Nat) (kk : Int)
    (hj : j < 120) (hS : Slots L N ca cn cc b p vA vD (textOf q.root) q.c news wrote j) (hS2 : Slots2 L cb kk) (hP : P3 w0 w N b m p sm rb j s q vA vD all done news wrote)
    (kd NN : Int) (ak : Option Addr) (ck : Nat) (lk : List Nat) (hC : CallIn w0 w cb kd NN ak ck lk) (hcb : cb ≠ p ∧ cb ≠ b ∧ cb ≠ m ∧ cb ≠ sm)
    (hQ : ∀ (L' : Array Value) (w' : World) (sm' rb' : Nat) (s' : St) (q' : Pg) (vD' : Value) (done' : List (Nat × List Nat)) (news' wrote' : Nat) (ee : Exit), (ee = .normal ∨ ee = .exit 1) → Slots L' N ca cn cc b p vA vD' (textOf q'.root) q'.c news' wrote' j → P3 w0 w' N b m p sm' rb' (j + 1) s' q' vA vD' all done' news' wrote' → Q ee ⟨L', []⟩ w') :
    Code.wp Tryd.prog arm3 Q ⟨L, []⟩ w := by
  rw [lit L hS.size, hS.s0, hS.s1, hS.s5, hS.s7, hS.s9, hS.s10, hS.s11, hS.s12, hS.s13, hS.s14, hS.s15, hS2.s16, hS2.s17]
  generalize g L = u
  have HQ := hide hQ
  have HP := hide hP
  have hlA := hP.lenA
  have hlD := hP.lenD
  have huu := hP.u
  have hkk := hP.k
  obtain ⟨aA, cA, rfl, hPA, _⟩ := hP.rowA.slice
  obtain ⟨aD, cD, rfl, hPD, _⟩ := hP.rowD.slice
  have HPA := hide hPA
  have HPD := hide hPD
  have HC := hide hC
  have hc2 := hC.c2
  have hnil := hC.nil
  have hlen := hC.len
  have HOWN := hide (show (w.alloc (.cells #[] 5)).ownsRow w.heap.size 5 1 (.slice (some ⟨w.heap.size, 0, none⟩) 0 0) 0 (([] : List Nat).map byteCell) from World.ownsRow_made w #[] 0 (Nat.le_refl _) (Nat.zero_le _) rfl)
  have HBA := hide ((hC.bytes.turn hP.turn (by simp)).turn ((Turn.refl [] w).alloc (.cells #[] 5)) (by simp))
  have hcl := lt_of_cell hc2
  clear hS hS2 hQ hP hPA hPD hC
  conv => arg 2; whnf
  go_wp2_with (at_builtin; refine append_bytes rfl _ _ rfl w.heap.size (.slice (some ⟨w.heap.size, 0, none⟩) 0 0) 0 [] rfl HOWN.out ak lk.length ck lk rfl rfl hnil HBA.out (by omega) (by simp) ?_; intro v1 w1 hown1 hgrow1 hnil1)
  have hvn : v1 ≠ .slice none 0 0 := by
    intro e
    have := hnil1
    simp [e] at this
  obtain ⟨g1, cg, hv, hng, hg, hgl, hbg, hfg⟩ := own_some (l := lk) (by simpa using hown1) hvn
  have hT1 : Turn [] w w1 := ((Turn.refl [] w).alloc _).grown hgrow1 (by intro k hk; right; simp [Value.ownBlock] at hk; omega)
  have HT1 := hide hT1
  have HP1 := hide (HP.out.turn0 hT1)
  have HC1 := hide (HC.out.turn hT1 (by simp))
  have HBG := hide hbg
  rw [hv]
  clear hv hown1 hgrow1 hbg hfg hnil1 hvn hng HOWN HBA hT1 hc2
  by_cases h64 : 64 < lk.length
  · refine (commit_long p b m sm rb s q HP.out.live HP.out.qlive _ cg lk.length h64 (by unfold maxLen; omega) w1 HP1.out.pat).mono ?_
    rintro e w2 ⟨rfl, hA2, hT2⟩
    have HP2 := hide (show P3 w0 w2 N b m p sm rb j s q _ _ all done news wrote from HP1.out.rd (r := q.rd) hA2 hT2)
    have hc2 := (HC1.out.turn hT2 (by simp; omega)).c2
    clear hA2 hT2
    go_wp2_with fail
    exact HQ.out _ _ sm rb s q _ done news wrote _ (.inr rfl) ⟨rfl, rfl, rfl, rfl, rfl, rfl, rfl, rfl, rfl, rfl, rfl, rfl⟩ HP2.out.next
  · refine (commit_any p b m sm rb s q HP.out.live HP.out.qlive (by omega) _ cg lk lk.length rfl (by omega) HC.out.byte (by simp) w1 HP1.out.pat HBG.out (fun x _ hx => by obtain rfl := Option.some.inj hx; show g1 ≠ p; have := HP.out.pat.pg.lt; omega) HP1.out.rbl).mono ?_
    rintro e w2 hpost
    rcases hpost with ⟨rfl, _, _, ⟨s2, sm2, rb2, hd2, hn2, hk2, hl2, hf2, hsm2, hrb2, hrl2, hA2⟩, hT2⟩ | ⟨_, h, _⟩
    · have HA2 := hide hA2
      have HT2 := hide hT2
      have hc2 := (HC1.out.turn hT2 (by simp; omega)).c2
      have HC2 := hide (HC1.out.turn hT2 (by simp; omega))
      have hwr := HP.out.wr
      have hle : (s2.k : Int) - (wrote : Int) ≤ (news : Int) + 12 := by omega
      have hk2' : s2.k ≤ 1000 := by omega
      have hwl : wrote ≤ 1000 := by omega
      have hnl : news ≤ 1000 := by omega
      have hqc : q.c ≤ 1000 := by have := HP.out.pat.laid.ck; omega
      have HK2 := hide hk2
      have HN2 := hide hn2
      have HL2 := hide hl2
      have HF2 := hide hf2
      have HRA := hide (HP1.out.rowA.turn hT2 (fun x hx => by have := HP.out.offA x hx; simp; omega))
      have HT02 := hide ((HP1.out.turn.then hT2 (by have := HP.out.ge; simp; omega)))
      clear hA2 hT2 hl2 hf2 hwr hk2 hn2
      go_wp2_with fail
      refine (writes_any b m s2 w2 HA2.out.disk).mono ?_
      rintro e w3 ⟨rfl, rfl⟩
      go_wp2_with (at_builtin; refine copy_pages rfl _ _ rfl (.slice aA all.length cA) all rfl rfl HRA.out (by omega) ?_; intro v' w4 h1 h2 h3; have hc4 := (HC2.out.turn h2 (by simp)).c2; have hcv4 := text_at ((HC2.out.bytes.turn HT02.out (by simp)).turn h2 (by simp)) lk.length ck rfl; have H1 := hide h1; have H2 := hide h2; have H3 := hide h3; clear h1 h2 h3)
      have HR := hide (P3.committed HP.out HT1.out HA2.out HT2.out hsm2 hrb2 hrl2 (by omega) hd2 HN2.out HK2.out HL2.out HF2.out H1.out H2.out H3.out)
      refine (writes_any b m s2 w4 HR.out.pat.disk).mono ?_
      rintro e w5 ⟨rfl, rfl⟩
      go_wp2_with fail
      exact HQ.out _ _ sm2 rb2 s2 (q.committed lk) v' all 0 s2.k _ (.inl rfl) ⟨rfl, rfl, rfl, rfl, rfl, rfl, rfl, rfl, rfl, rfl, rfl, rfl⟩ HR.out
    · exact absurd h (by have := HP.out.left; omega)
end Go.Proofs.YtjbjcjcahkfgbaaDoor.Pl
