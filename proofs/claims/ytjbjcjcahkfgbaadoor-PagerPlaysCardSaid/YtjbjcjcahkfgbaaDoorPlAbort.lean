/-
  The law PagerPlays, the arm that forgets.
-/
import Derived.Test.YtjbjcjcahkfgbaaDoorPlFree
namespace Go.Proofs.YtjbjcjcahkfgbaaDoor.Pl
open Go.RowKit Go.Maps

theorem P3.back {w0 w : World} {N b m p sm rb j : Nat} {s : St} {q : Pg} {vA vD : Value} {all done : List (Nat × List Nat)} {news wrote : Nat} (h : P3 w0 w N b m p sm rb j s q vA vD all done news wrote) {w1 w2 : World} {v : Value} {p' sm' rb' : Nat} {q' : Pg} {news' wrote' : Nat}
    (hA : PAt w1 p' b m sm' rb' s q') (hT : Turn [p] w w1) (hp : p' = p ∨ w.heap.size ≤ p') (hsm : w.heap.size ≤ sm') (hrb : rb' = rb ∨ w.heap.size ≤ rb') (hrl : rb' < w1.heap.size) (hqd : q'.dead = false) (hqu : q'.u ≤ j) (hqr : q'.root.length ≤ 64) (hK : q'.K = q.K) (hsi : ∀ n, q'.si n = 0) (hw : s.k = wrote' + news')
    (hR : PagesOf w2 v done) (hT2 : Turn [] w1 w2) (hv : ∀ x, v.ownBlock = some x → w1.heap.size ≤ x) : P3 w0 w2 N b m p' sm' rb' j s q' v vD done done news' wrote' := by
  have h1 := hA.pg.lt
  have h2 := hA.disk.lt
  have h3 := hA.disk.ltm
  have h4 := hA.pg.lts
  have hsz := hT.size
  have h0 := h.turn.size
  have hge := h.ge
  have hpl := h.pat.pg.lt
  have hofD : ∀ x, vD.ownBlock = some x → x ≠ p' ∧ x ≠ b ∧ x ≠ m ∧ x ≠ sm' ∧ x ≠ rb' ∧ w0.heap.size ≤ x := fun x hx => by
    have := h.offD x hx
    have := h.rowD.lt x hx
    omega
  refine ⟨hA.turn0 hT2, h.live, hqd, h.n, h.k, h.left, hqu, hqr, hR, (h.rowD.turn hT (fun x hx => by have := h.offD x hx; simp; omega)).turn hT2 (by simp), h.lenD, h.lenD, fun x hx => ?_, hofD, fun x hx hd => ?_, h.plain.back q' hK hsi, hw, Nat.lt_of_lt_of_le hrl hT2.size, ⟨by omega, hge.2.1, hge.2.2.1, by omega⟩, (h.turn.then hT (by simp; omega)).then hT2 (by simp)⟩
  · have := hv x hx
    omega
  · have := hv x hx
    have := h.rowD.lt x hd
    omega

set_option maxRecDepth 100000 in
set_option maxHeartbeats 3200000 in
theorem arm4_any (w0 w : World) (L : Array Value) (Q : Exit → Act → World → Prop) (N : Nat) (ca : Option Addr) (cn cc b m p sm rb j : Nat) (s : St) (q : Pg) (vA vD : Value) (all done : List (Nat × List Nat)) (news wrote cb : Nat) (kk : Int)
    (hj : j < 120) (hS : Slots L N ca cn cc b p vA vD (textOf q.root) q.c news wrote j) (hS2 : Slots2 L cb kk) (hP : P3 w0 w N b m p sm rb j s q vA vD all done news wrote)
    (hQ : ∀ (L' : Array Value) (w' : World) (sm' : Nat) (q' : Pg) (vA' : Value), Slots L' N ca cn cc b p vA' vD (textOf q'.root) q'.c news wrote j → P3 w0 w' N b m p sm' rb j s q' vA' vD done done news wrote → Q .normal ⟨L', []⟩ w') :
    Code.wp Tryd.prog arm4 Q ⟨L, []⟩ w := by
  rw [lit L hS.size, hS.s0, hS.s1, hS.s5, hS.s7, hS.s9, hS.s10, hS.s11, hS.s12, hS.s13, hS.s14, hS.s15, hS2.s16, hS2.s17]
  generalize g L = u
  have HQ := hide hQ
  have HP := hide hP
  have hlA := hP.lenA
  have hlD := hP.lenD
  have huu := hP.u
  have hkk := hP.k
  obtain ⟨aA, cA, rfl, hPA, _⟩ := hP.rowA.slice
  obtain ⟨aD, cD, rfl, hPD, _⟩ := hP.rowD.slice
  have HPA := hide hPA
  have HPD := hide hPD
  clear hS hS2 hQ hP hPA hPD
  conv => arg 2; whnf
  go_wp2_with fail
  refine (abort_any p b m sm rb s q w HP.out.pat HP.out.rbl).mono ?_
  rintro e w1 ⟨rfl, ⟨sm', hsm, hA1⟩, hT1⟩
  have HA1 := hide hA1
  have HT1 := hide hT1
  have HRD := hide (HP.out.rowD.turn hT1 (fun x hx => by have := HP.out.offD x hx; simp; omega))
  have hrb1 : rb < w1.heap.size := Nat.lt_of_lt_of_le HP.out.rbl hT1.size
  clear hA1 hT1
  go_wp2_with (at_builtin; refine copy_pages rfl _ _ rfl (.slice aD done.length cD) done rfl rfl HRD.out (by omega) ?_; intro v' w2 h1 h2 h3; have H1 := hide h1; have H2 := hide h2; have H3 := hide h3; clear h1 h2 h3)
  exact HQ.out _ _ sm' { q with si := fun _ => 0, u := 0 } v' ⟨rfl, rfl, rfl, rfl, rfl, rfl, rfl, rfl, rfl, rfl, rfl, rfl⟩ (P3.back (q' := { q with si := fun _ => 0, u := 0 }) HP.out HA1.out HT1.out (.inl rfl) hsm (.inl rfl) hrb1 HP.out.qlive (Nat.zero_le _) HP.out.rl rfl (fun _ => rfl) HP.out.wr H1.out H2.out H3.out)
end Go.Proofs.YtjbjcjcahkfgbaaDoor.Pl
