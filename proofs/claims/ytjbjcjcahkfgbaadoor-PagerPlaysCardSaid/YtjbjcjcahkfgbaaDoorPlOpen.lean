/-
  The law PagerPlays, the arm that opens anew.
-/
import Derived.Test.YtjbjcjcahkfgbaaDoorPlAbort
namespace Go.Proofs.YtjbjcjcahkfgbaaDoor.Pl
open Go.RowKit Go.Maps

set_option maxRecDepth 100000 in
set_option maxHeartbeats 3200000 in
theorem arm5_any (w0 w : World) (L : Array Value) (Q : Exit → Act → World → Prop) (N : Nat) (ca : Option Addr) (cn cc b m p sm rb j : Nat) (s : St) (q : Pg) (vA vD : Value) (all done : List (Nat × List Nat)) (news wrote cb : Nat) (kk : Int)
    (hj : j < 120) (hS : Slots L N ca cn cc b p vA vD (textOf q.root) q.c news wrote j) (hS2 : Slots2 L cb kk) (hP : P3 w0 w N b m p sm rb j s q vA vD all done news wrote)
    (hQ : ∀ (L' : Array Value) (w' : World) (p' sm' rb' : Nat) (q' : Pg) (vA' : Value) (wrote' : Nat), Slots L' N ca cn cc b p' vA' vD (textOf q'.root) q'.c 0 wrote' j → P3 w0 w' N b m p' sm' rb' j s q' vA' vD done done 0 wrote' → Q .normal ⟨L', []⟩ w') :
    Code.wp Tryd.prog arm5 Q ⟨L, []⟩ w := by
  rw [lit L hS.size, hS.s0, hS.s1, hS.s5, hS.s7, hS.s9, hS.s10, hS.s11, hS.s12, hS.s13, hS.s14, hS.s15, hS2.s16, hS2.s17]
  generalize g L = u
  have HQ := hide hQ
  have HP := hide hP
  have hlA := hP.lenA
  have hlD := hP.lenD
  have huu := hP.u
  have hkk := hP.k
  obtain ⟨aA, cA, rfl, hPA, _⟩ := hP.rowA.slice
  obtain ⟨aD, cD, rfl, hPD, _⟩ := hP.rowD.slice
  have HPA := hide hPA
  have HPD := hide hPD
  clear hS hS2 hQ hP hPA hPD
  conv => arg 2; whnf
  go_wp2_with fail
  refine (open_any b m s q.c q.root q.K HP.out.pat.laid HP.out.live w HP.out.pat.disk HP.out.pat.tab ⟨HP.out.pat.pos.2.1, HP.out.pat.pos.2.2.1⟩).mono ?_
  rintro e w1 ⟨p', sm', rb', hp1, hp2, hp3, hp4, rfl, hA1, hT1⟩
  have HA1 := hide hA1
  have HT1 := hide (show Turn [p] w w1 from ⟨hT1.os, hT1.tape, hT1.output, hT1.size, fun i hi _ => hT1.block i hi (by simp)⟩)
  have HRD := hide (HP.out.rowD.turn hT1 (by simp))
  clear hA1 hT1
  go_wp2_with (at_builtin; refine copy_pages rfl _ _ rfl (.slice aD done.length cD) done rfl rfl HRD.out (by omega) ?_; intro v' w2 h1 h2 h3; have H1 := hide h1; have H2 := hide h2; have H3 := hide h3; clear h1 h2 h3)
  have HR := hide (P3.back (news' := 0) (wrote' := s.k) HP.out HA1.out HT1.out (.inr hp1) hp2 (.inr hp3) hp4 rfl (Nat.zero_le _) HP.out.rl rfl (fun _ => rfl) rfl H1.out H2.out H3.out)
  clear HA1 HT1 HRD H1 H2 H3
  refine (writes_any b m s w2 HR.out.pat.disk).mono ?_
  rintro e w3 ⟨rfl, rfl⟩
  go_wp2_with fail
  exact HQ.out _ _ p' sm' rb' ⟨false, q.c, q.root, q.K, fun _ => 0, false, 0⟩ v' s.k ⟨rfl, rfl, rfl, rfl, rfl, rfl, rfl, rfl, rfl, rfl, rfl, rfl⟩ HR.out
end Go.Proofs.YtjbjcjcahkfgbaaDoor.Pl
