/-
  The law PagerPlays, walked.
-/
import Derived.Test.YtjbjcjcahkfgbaaDoorPlLoop
import Derived.Deep.CutBlock
namespace Go.Proofs.YtjbjcjcahkfgbaaDoor
open Go.RowKit Go.Maps

theorem has_all {w0 w : World} {N b m p sm rb j : Nat} {s : St} {q : Pg} {vA vD : Value} {all done : List (Nat × List Nat)} {news wrote : Nat} (h : P3 w0 w N b m p sm rb j s q vA vD all done news wrote) : Has s q all := by
  intro i hi
  have hm : all[i] ∈ all := List.getElem_mem hi
  exact ⟨(Pl.there_in h _).2 (List.mem_map_of_mem hm), h.plain.af _ hm⟩

set_option maxRecDepth 100000 in
set_option maxHeartbeats 3200000 in
theorem plays_any (x : Int) (ca : Option Addr) (cn cc : Nat) (hcn : cn ≤ maxLen) (w : World) (hTab : Tab w) (hC : CallsAt w ca cn) : Calls Tryd.prog 3 #[.int .i64 x, .slice ca cn cc] w fun e w' => e = .returned (.bool true) ∧ Turn [] w w' := by
  have HTab := hide hTab
  have HC := hide hC
  clear hTab hC
  go_enter Tryd.func3, Tryd.ntmps3
  go_wp2_with fail
  refine (known_any w HTab.out).mono ?_
  rintro e w1 ⟨rfl, hT1⟩
  have HTab1 := hide (HTab.out.turn hT1 (by simp))
  go_wp2_with fail
  refine (within_any x 100 (by omega) (by omega) w1).mono ?_
  rintro e w2 ⟨⟨k, hk, rfl⟩, rfl⟩
  obtain ⟨N, hN⟩ : ∃ N, N = 64 + k := ⟨_, rfl⟩
  have hNI : (64 : Int) + (k : Int) = (N : Int) := by omega
  have hN1 : 64 ≤ N := by omega
  have hN2 : N ≤ 163 := by omega
  clear hN
  go_wp2_with fail
  refine (new_any N (by omega) (by omega) w2).mono ?_
  rintro e w3 ⟨rfl, hD3, hT3, hs3⟩
  have HD3 := hide hD3
  have HTab3 := hide (HTab1.out.turn hT3 (by simp))
  have hs3' : w2.heap.size + 1 < w3.heap.size := by omega
  have hs0 : 0 < w2.heap.size := lt_of_cell (HTab1.out 0 (by omega))
  have hs00 : 0 < w.heap.size := lt_of_cell (HTab.out 0 (by omega))
  have hT03 : Turn [] w w3 := hT1.then hT3 (by simp)
  have h1s := hT1.size
  clear hD3 hs3 hT3 hT1
  generalize hm : w2.heap.size = m at *
  clear hm
  go_wp2_with fail
  refine (open_any (m + 1) m (St.new N) 0 [] (fun _ => false) (Laid.new (by omega) (by omega)) rfl w3 HD3.out HTab3.out ⟨by omega, hs0⟩).mono ?_
  rintro e w4 ⟨p, sm, rb, hp1, hp2, hp3, hp4, rfl, hA4, hT4⟩
  have hF0 : P3 w w4 N (m + 1) m p sm rb 0 (St.new N) ⟨false, 0, [], fun _ => false, fun _ => 0, false, 0⟩ (.slice none 0 0) (.slice none 0 0) [] [] 0 0 :=
    ⟨hA4, rfl, rfl, rfl, Nat.le_refl _, by show (-1 : Int) < 0; omega, Nat.le_refl _, by simp, PagesOf.nil _, PagesOf.nil _, Nat.le_refl _, Nat.le_refl _, by simp [Value.ownBlock], by simp [Value.ownBlock], by simp [Value.ownBlock],
      ⟨by simp, fun n => by simp [Pg.there], by simp, by simp, fun n => by simp, by simp⟩, rfl, hp4, ⟨by omega, by omega, by omega, by omega⟩, hT03.then hT4 (by simp)⟩
  have HF0 := hide hF0
  clear hF0 hA4 hT4 hT03
  go_wp2_with fail
  refine (writes_any (m + 1) m (St.new N) w4 HF0.out.pat.disk).mono ?_
  rintro e w5 ⟨rfl, rfl⟩
  go_upto_block 0 with fail
  refine wp_block (wp_loop (Pl.I w N ca cn cc (m + 1) m) Pl.mu ⟨_, p, sm, rb, 0, St.new N, ⟨false, 0, [], fun _ => false, fun _ => 0, false, 0⟩, .slice none 0 0, .slice none 0 0, [], [], 0, 0, rfl, Nat.zero_le _, ⟨rfl, rfl, rfl, rfl, rfl, rfl, rfl, rfl, rfl, rfl, rfl, rfl⟩, HF0.out⟩ ?_)
  refine fun a w' hI => Pl.round_any w _ N ca cn cc (m + 1) m hs00 ⟨hN1, hN2⟩ hcn HC.out ?_ a w' hI
  clear HF0 HTab HTab1 HTab3 HD3
  intro L w6 p6 sm6 rb6 j6 s6 q6 vA6 vD6 all6 done6 news6 wrote6 hj6 hS6 hP6
  have HP6 := hide hP6
  have hlA := hP6.lenA
  obtain ⟨aA, cA, rfl, hPA, _⟩ := hP6.rowA.slice
  have HPA := hide hPA
  rw [Pl.lit L hS6.size, hS6.s0, hS6.s1, hS6.s5, hS6.s7, hS6.s9, hS6.s10, hS6.s11, hS6.s12, hS6.s13, hS6.s14, hS6.s15]
  generalize g L = u
  clear hS6 hP6 hPA
  simp only [Exit.inBlock, ↓reduceIte]
  go_wp2_with fail
  refine (holds_yes p6 (m + 1) m sm6 rb6 s6 q6 HP6.out.live HP6.out.qlive HP6.out.rl aA cA all6 (by omega) (has_all HP6.out) w6 HP6.out.pat HPA.out (fun x _ hx => (HP6.out.offA x.block (by rw [hx]; rfl)).1)).mono ?_
  rintro e w7 ⟨rfl, hT7⟩
  have hT07 : Turn [] w w7 := HP6.out.turn.then hT7 (by have := HP6.out.ge; simp; omega)
  clear hT7
  go_wp2_with fail
  go_ret
  exact ⟨rfl, hT07⟩
end Go.Proofs.YtjbjcjcahkfgbaaDoor
