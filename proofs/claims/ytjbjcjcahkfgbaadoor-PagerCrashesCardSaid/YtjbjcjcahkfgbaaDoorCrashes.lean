/-
  The law PagerCrashes, walked.
-/
import Derived.Test.YtjbjcjcahkfgbaaDoorCrLoop
import Derived.Test.YtjbjcjcahkfgbaaDoorHolds
import Derived.Deep.CutBlock
namespace Go.Proofs.YtjbjcjcahkfgbaaDoor
open Go.RowKit Go.Maps

namespace Cr
def I2 (w0 : World) (ca : Option Addr) (cn cc : Nat) (va : Value) (b m p j : Nat) (vA vD : Value) (root : List Nat) (done : List (Nat × List Nat)) (a : Act) (w : World) : Prop :=
  ∃ (L : Array Value) (s : St) (i : Nat), a = ⟨L, []⟩ ∧ i ≤ 4 ∧ Slots L ca cn cc va b p vA vD (textOf root) j ∧ g L 22 = .int .i64 (i : Nat) ∧ G3 w0 w b m s root vD done
def mu2 (a : Act) (_ : World) : Nat := 10 - (intOf (g a.tmps 22)).toNat

theorem Stands.on {w0 w : World} {b m p j : Nat} {vA vD : Value} {root : List Nat} (h : Stands w0 w b m p j vA vD root) (hj : j ≤ 60) : ∃ s done, G3 w0 w b m s root vD done := by
  rcases h with ⟨sm, rb, s, q, all, done, h, rfl⟩ | ⟨s, done, _, h⟩
  · exact ⟨s, done, h.gone hj h.pat.disk h.pat.laid (fun _ _ => rfl) (Turn.refl [] w) (by simp)⟩
  · exact ⟨s, done, h⟩
end Cr

set_option maxRecDepth 100000 in
set_option maxHeartbeats 3200000 in
theorem crashes_any (ca : Option Addr) (cn cc : Nat) (x : Int) (aa : Option Addr) (an ac : Nat) (hcn : cn ≤ maxLen) (han : an ≤ maxLen) (w : World) (hTab : Tab w) (hC : CallsAt w ca cn) (hA : Cr.AgainAt w aa an) :
    Calls Tryd.prog 4 #[.slice ca cn cc, .int .i64 x, .slice aa an ac] w fun e w' => e = .returned (.bool true) ∧ Turn [] w w' := by
  have HTab := hide hTab
  have HC := hide hC
  have HAg := hide hA
  clear hTab hC hA
  go_enter Tryd.func4, Tryd.ntmps4
  go_wp2_with fail
  refine (known_any w HTab.out).mono ?_
  rintro e w1 ⟨rfl, hT1⟩
  have HTab1 := hide (HTab.out.turn hT1 (by simp))
  go_wp2_with fail
  refine (new_any 160 (by omega) (by omega) w1).mono ?_
  rintro e w3 ⟨rfl, hD3, hT3, hs3⟩
  have HD3 := hide hD3
  have HTab3 := hide (HTab1.out.turn hT3 (by simp))
  have hs3' : w1.heap.size + 1 < w3.heap.size := by omega
  have hs0 : 0 < w1.heap.size := lt_of_cell (HTab1.out 0 (by omega))
  have hs00 : 0 < w.heap.size := lt_of_cell (HTab.out 0 (by omega))
  have hT03 : Turn [] w w3 := hT1.then hT3 (by simp)
  have h1s := hT1.size
  clear hD3 hs3 hT3 hT1
  generalize hm : w1.heap.size = m at *
  clear hm
  go_wp2_with fail
  refine (open_any (m + 1) m (St.new 160) 0 [] (fun _ => false) (Laid.new (by omega) (by omega)) rfl w3 HD3.out HTab3.out ⟨by omega, hs0⟩).mono ?_
  rintro e w4 ⟨p, sm, rb, hp1, hp2, hp3, hp4, rfl, hA4, hT4⟩
  have HA4 := hide hA4
  have hT04 : Turn [] w w4 := hT03.then hT4 (by simp)
  clear hA4 hT4 hT03
  go_wp2_with fail
  refine (within_any x 60 (by omega) (by omega) w4).mono ?_
  rintro e w5 ⟨⟨k, hk, rfl⟩, rfl⟩
  go_wp2_with fail
  refine (cut_any (m + 1) m (St.new 160) k (by omega) w5 HA4.out.disk).mono ?_
  rintro e w6 ⟨rfl, hD6, hT6⟩
  have hpl := HA4.out.pg.lt
  have hpb := HA4.out.apart
  have hF0 : Cr.C3 w w6 (m + 1) m p sm rb 0 ((St.new 160).cut k) ⟨false, 0, [], fun _ => false, fun _ => 0, false, 0⟩ (.slice none 0 0) (.slice none 0 0) [] [] := by
    refine ⟨⟨hD6, HA4.out.pg.turn hT6 (by simp; omega) (by simp; omega) (by simp; omega), Cr.Laid.cut HA4.out.laid (by omega), HA4.out.apart, HA4.out.s1, HA4.out.s2, HA4.out.s3, HA4.out.s0, HA4.out.tab.turn hT6 (by simp), HA4.out.pos⟩, rfl, rfl, Nat.le_refl _, Nat.le_refl _, by simp, PagesOf.nil _, PagesOf.nil _, Nat.le_refl _, Nat.le_refl _, by simp [Value.ownBlock], by simp [Value.ownBlock], by simp [Value.ownBlock],
      ⟨by simp, fun n => by simp [Pg.there], by simp, by simp, fun n => by simp, by simp⟩, Nat.lt_of_lt_of_le hp4 hT6.size, ⟨by omega, by omega, by omega, by omega⟩, hs00, hT04.then hT6 (by simp; omega)⟩
  have HF0 := hide hF0
  clear hF0 hD6 hT6 HA4 hT04 hpb
  go_upto_block 0 with fail
  refine wp_block (wp_loop (Cr.I w ca cn cc (.slice aa an ac) (m + 1) m) Cr.mu ⟨_, p, 0, .slice none 0 0, .slice none 0 0, [], rfl, Nat.zero_le _, ⟨rfl, rfl, rfl, rfl, rfl, rfl, rfl, rfl, rfl⟩, .inl ⟨sm, rb, _, _, [], [], HF0.out, rfl⟩⟩ ?_)
  refine fun a w' hI => Cr.round_any w _ ca cn cc (.slice aa an ac) (m + 1) m hcn HC.out ?_ a w' hI
  clear HF0 HTab HTab1 HTab3 HD3
  intro L w6 p6 j6 vA6 vD6 root6 hj6 hS6 hP6
  obtain ⟨s6, done6, hG6⟩ := Cr.Stands.on hP6 hj6
  have HG6 := hide hG6
  rw [Cr.lit L hS6.size, hS6.s0, hS6.s2, hS6.s7, hS6.s9, hS6.s11, hS6.s12, hS6.s14, hS6.s17]
  generalize g L = u
  clear hS6 hP6 hG6
  simp only [Exit.inBlock, ↓reduceIte]
  go_upto_block 3 with fail
  refine wp_block (wp_loop (Cr.I2 w ca cn cc (.slice aa an ac) (m + 1) m p6 j6 vA6 vD6 root6 done6) Cr.mu2 ⟨_, s6, 0, rfl, Nat.zero_le _, ⟨rfl, rfl, rfl, rfl, rfl, rfl, rfl, rfl, rfl⟩, rfl, HG6.out⟩ ?_)
  rintro a w7 ⟨L7, s7, i7, rfl, hi7, hS7, h22, hG7⟩
  refine Cr.body2_any w w7 L7 _ ca cn cc aa an ac (m + 1) m p6 j6 s7 vA6 vD6 root6 done6 i7 hi7 han HAg.out hS7 h22 hG7 ?_
  intro L8 w8 s8 hS8 hG8
  refine ⟨fun hi8 h228 => ⟨⟨L8, s8, i7 + 1, rfl, by omega, hS8, h228, hG8⟩, ?_⟩, ?_⟩
  · unfold Cr.mu2
    rw [show (⟨L8, []⟩ : Act).tmps = L8 from rfl, show (⟨L7, []⟩ : Act).tmps = L7 from rfl, h22, h228]
    simp [intOf]
    omega
  have HG8 := hide hG8
  have hlD := hG8.lenD
  obtain ⟨aD, cD, rfl, hPD, _⟩ := hG8.rowD.slice
  have HPD := hide hPD
  rw [Cr.lit L8 hS8.size, hS8.s0, hS8.s2, hS8.s7, hS8.s9, hS8.s11, hS8.s12, hS8.s14, hS8.s17]
  generalize g L8 = u8
  clear hS8 hG8 hPD hS7 h22 hG7 HG6
  simp only [Exit.then, Exit.inBlock, ↓reduceIte]
  go_wp2_with fail
  refine (start_any (m + 1) m s8 w8 HG8.out.disk).mono ?_
  rintro e w9 ⟨rfl, hD9, hT9⟩
  have HG9 := hide (Cr.G3.start HG8.out hD9 (fun _ _ h => Cr.Laid.start h) rfl hT9)
  clear hD9 hT9 HG8
  go_wp2_with fail
  obtain ⟨c, K, hL, hK⟩ := HG9.out.laid
  refine (open_any (m + 1) m _ c root6 K hL rfl w9 HG9.out.disk HG9.out.tab HG9.out.pos).mono ?_
  rintro e w10 ⟨p10, sm10, rb10, hp1, hp2, hp3, hp4, rfl, hA10, hT10⟩
  have HA10 := hide hA10
  have hwp := HG9.out.turn.size
  have HPD10 := hide (HG9.out.rowD.turn hT10 (by simp))
  have HHas : Hid (Has s8.start ⟨false, c, root6, K, fun _ => 0, false, 0⟩ done6) := fun i hi => by
    have hm : done6[i] ∈ done6 := List.getElem_mem hi
    have h1 := (hK _).2 (List.mem_map_of_mem hm)
    have h2 := hL.kr _ h1
    exact ⟨Pg.thereI_nat h2.1 h2.2 (by simp [Pg.there, h1]), HG9.out.df _ hm⟩
  have hlt : ∀ x, done6 ≠ [] → aD = some x → x.block ≠ p10 := fun x _ hx => by
    have := HG9.out.rowD.lt x.block (by rw [hx]; rfl)
    omega
  have HLt := hide hlt
  have hT010 : Turn [] w w10 := HG9.out.turn.then hT10 (by simp)
  have hr64 : root6.length ≤ 64 := hL.rl
  clear hA10 hT10 hL hK hlt
  go_wp2_with fail
  obtain ⟨_, _, eD, hPD11, _⟩ := HPD10.out.slice
  injection eD with eD1 _ eD2
  subst eD1 eD2
  refine (holds_yes p10 (m + 1) m sm10 rb10 s8.start ⟨false, c, root6, K, fun _ => 0, false, 0⟩ rfl rfl hr64 aD cD done6 (by omega) HHas.out w10 HA10.out hPD11 HLt.out).mono ?_
  rintro e w11 ⟨rfl, hT11⟩
  have hT011 : Turn [] w w11 := hT010.then hT11 (by simp; omega)
  clear hT11
  go_wp2_with fail
  go_ret
  exact ⟨rfl, hT011⟩
end Go.Proofs.YtjbjcjcahkfgbaaDoor
