/-
  How ints read as arguments.
  Scan of all, as the laws ask it; two trees on one disk.
-/
import Derived.Test.YthehkckdecckhaaGreatDoorQ48
import Derived.ProofKit
import Derived.OpenShut
import Derived.SizedLaws
import Derived.Deep.Strs
import Derived.Deep.Slices

namespace Go.Proofs.YthehkckdecckhaaGreatDoor
open Go.ChangeShapes Go.WideShapes Go.ChangeAt Go.RowKit
open Go.Deep

/-- Ints that a slice leads to. -/
def NumsAt (w : World) (a : Option Addr) (l : List Int) : Prop := l = [] ∨ ∃ b off, a = some ⟨b, off, none⟩ ∧ ∀ i, i < l.length → w.cell? ⟨b, off + i, none⟩ = some (.int .i64 (l.getD i 0))
theorem NumsAt.at {w : World} {a : Option Addr} {l : List Int} (h : NumsAt w a l) {i : Nat} (hi : i < l.length) : ∃ b off, a = some ⟨b, off, none⟩ ∧ w.cell? ⟨b, off + i, none⟩ = some (.int .i64 (l.getD i 0)) := by
  rcases h with rfl | ⟨b, off, rfl, h⟩
  · simp at hi
  · exact ⟨b, off, rfl, h i hi⟩
theorem NumsAt.turn0 {w w' : World} {a : Option Addr} {l : List Int} (h : NumsAt w a l) (hT : Turn [] w w') : NumsAt w' a l := by
  rcases h with rfl | ⟨b, off, rfl, h⟩
  · exact .inl rfl
  · exact .inr ⟨b, off, rfl, fun i hi => (hT.cell (p := ⟨b, off + i, none⟩) (lt_of_cell (h i hi)) (by simp)).trans (h i hi)⟩
/-- The ints that came in, out of how they are read. -/
theorem nums_of {H : Type} {enc : TypeId × Value → H} {W : World} {fuel : Nat} {a : Option Addr} {n c : Nat} {y : DataW H × List MemPlace} (h : DataW.trod enc Tryz.prog W 0 (fun _ => true) true fuel 54 [.slice a n c] = some y) :
    ∃ l : List Int, n = l.length ∧ NumsAt W a l ∧ l.length ≤ 9223372036854775807 := by
  rcases open_ints Tryz.underlying54 Tryz.underlying3 (by kernel_rfl) h with ⟨hcs, _⟩ | ⟨x, l, c', zs, hcs, _, hl, hm, hz, hx, hcell, hwz⟩
  · have e := List.singleton_inj.1 hcs
    injection e with e1 e2 e3
    subst e1 e2 e3
    exact ⟨[], rfl, .inl rfl, by simp⟩
  · have e := List.singleton_inj.1 hcs
    injection e with e1 e2 e3
    subst e1 e2 e3
    have hz' : zs.length = c := by simpa using hz
    unfold maxLen at hm
    refine ⟨zs.take n, by rw [List.length_take]; omega, ?_, by rw [List.length_take]; omega⟩
    by_cases hn : n = 0
    · subst hn; exact .inl (by simp)
    have hc0 := hcell 0 (by omega)
    rw [show x.add 0 = x from rfl] at hc0
    obtain ⟨_, _, _, _, hsp⟩ := World.shape?_of_cell? hc0
    obtain ⟨b, off, sp⟩ := x
    obtain rfl : sp = none := hsp
    refine .inr ⟨b, off, rfl, fun i hi => ?_⟩
    rw [List.length_take] at hi
    have hc := hcell i (by omega)
    rw [Addr.add_mid] at hc
    rw [hc, List.getD_eq_getElem?_getD, List.getD_eq_getElem?_getD, List.getElem?_take, if_pos (by omega)]

end Go.Proofs.YthehkckdecckhaaGreatDoor

namespace Go.Proofs.YthehkckdecckhaaGreatDoor
open Go.RowKit Go.Maps

theorem tg_scan {w : World} {O : Nat → Prop} {t p b m sm rb : Nat} {s : St} {q : Pg} {Dn S : Stt} {D : Dk} {G : Gh} {Rw : Nat → Prop} {ds : List Nat} {rd rt : Root?} (h : TG w O t p b m sm rb s q Dn S D G Rw ds rd rt) (lo hi : ByteArray) (lim : Int) (hn : (flatR rt).length ≤ 100000) :
    Calls Tryz.prog 21 #[.pointer (some ⟨t, 0, none⟩), .string lo, .string hi, .int .i64 lim] w fun e w' => ∃ a c, e = .returned (.slice a (scanL lo hi lim (flatR rt)).length c) ∧ KVsAt w' a (scanL lo hi lim (flatR rt)) ∧ ((scanL lo hi lim (flatR rt)).length ≤ c ∧ (a = none → c = 0)) ∧ (∀ x, a = some x → w.heap.size ≤ x.block ∧ x.block < w'.heap.size) ∧ ∃ G' Rw' r, TG w' O t p b m sm rb s { q with rd := r } Dn S D G' Rw' ds rd rt ∧ TStep p w w' G G' Rw Rw' ∧ ∀ x, a = some x → G' x.block = none ∧ ¬ Rw' x.block := by
  refine (tm_scan h.td h.now h.ok lo hi lim (by omega)).mono ?_
  rintro e w' ⟨r, rfl, hO, G', Rw', r', hTD, hG, hS, hout⟩
  obtain ⟨a, c, hv, hn2, hl, hnil, hp, hb⟩ := own_room hO
  have hlen : (kvCells (scanL lo hi lim (flatR rt))).length = (scanL lo hi lim (flatR rt)).length := kvCells_length _
  refine ⟨a, c, by rw [hv], hp.kvs, ⟨hl, hnil⟩, hb, G', Rw', r', h.seen r' hTD hG, hS, fun x hx => hout x.block ?_⟩
  rw [hv, hx]
  have := hb x hx
  have hsp : x = ⟨x.block, x.off, x.spot⟩ := rfl
  rfl

/-- Another tree's calls leave this one alone. -/
theorem TG.beside {w w' : World} {O : Nat → Prop} {t p b m sm rb : Nat} {s : St} {q : Pg} {Dn S : Stt} {D : Dk} {G : Gh} {Rw : Nat → Prop} {ds : List Nat} {rd rt : Root?} (h : TG w O t p b m sm rb s q Dn S D G Rw ds rd rt) {O1 : Nat → Prop} {t1 p1 sm1 rb1 : Nat} {s1 : St} {q1 : Pg} {Dn1 S1 : Stt} {D1 : Dk} {G1 G1' : Gh} {Rw1 Rw1' : Nat → Prop} {ds1 : List Nat} {rd1 rt1 : Root?} (h1 : TG w O1 t1 p1 b m sm1 rb1 s1 q1 Dn1 S1 D1 G1 Rw1 ds1 rd1 rt1) (hS : TStep p1 w w' G1 G1' Rw1 Rw1') (hn : ∀ x, (x = p1 ∨ G1 x ≠ none) → x ∉ [t, p, sm, rb] ∧ G x = none ∧ ¬ Rw x ∧ S.dropped.ownBlock ≠ some x) : TG w' O t p b m sm rb s q Dn S D G Rw ds rd rt := by
  obtain ⟨X, hX, hX1⟩ := hS.turn
  refine h.others hX fun x hx => ?_
  obtain ⟨g1, g2⟩ := hn x (hX1 x hx)
  have h3 : x ≠ 1 ∧ x ≠ b ∧ x ≠ m := by
    rcases hX1 x hx with rfl | e
    · have ha := h1.td.tm.pa.apart
      have hp := h1.td.tm.pa.pos
      exact ⟨by omega, ha.pb, ha.pm⟩
    · have := not7 (h1.td.tm.own x (.inl e)).1
      exact ⟨this.1, this.2.2.1, this.2.2.2.1⟩
  refine ⟨?_, g2⟩
  simp at g1 ⊢
  exact ⟨h3.1, g1.1, g1.2.1, h3.2.1, h3.2.2, g1.2.2.1, g1.2.2.2⟩

end Go.Proofs.YthehkckdecckhaaGreatDoor
