/-
  copied, walked; rows of lots of the call's own.
-/
import Derived.Test.YtegbinlpojpffaaLFns
namespace Go.Proofs.Ytegbinlpojpffaa
open Go.RowKit Go.Maps Lo

/-- 'copy' of elements of several cells. -/
theorem run_copy_many {P : Program} (w : World) (dT sT ty elem : TypeId) (g dLen dCap : Nat) (a : Addr) (sLen sCap size : Nat) (cur : Array Value) (t : TypeId) (cs : List Value)
    (hu : P.underlying dT = some (.slice elem)) (hs : (P.info? elem).map (·.size) = some size)
    (hg : w.heap[g]? = some (.cells cur t (0, 0))) (hn : cs.length = Nat.min sLen dLen * size)
    (hsrc : ∀ j v, cs[j]? = some v → w.cell? (a.add j) = some v) (hfit : cs.length ≤ cur.size) (h1 : ∀ v ∈ cs, v.oneCell' = true) :
    (Builtin.copy_ #[dT, sT] ty #[.slice (some ⟨g, 0, none⟩) dLen dCap, .slice (some a) sLen sCap]).run P w =
      .ok (goInt (Nat.min sLen dLen)) (w.setRow g (cs ++ cur.toList.drop cs.length).toArray) := by
  have hl := run_loadCells_list (P := P) w a cs hsrc
  have hst := run_storeCells_at P g 0 t cs 0 cur w hg (by simpa using hfit) h1
  cases hq : P.info? elem with
  | none => simp [hq] at hs
  | some i =>
    have hi : i.size = size := by simpa [hq] using hs
    simp at hst
    simp [Builtin.copy_, run_underlying hu, Builtin.lenOf, Builtin.firstCells, sizeOf, typeInfo, hq, hi, ← hn, hl, hst]

/-- A row of lots in a block of the call's own. -/
structure OwnL (w : World) (g : Nat) (l : List Lt) : Prop where
  lots : LotsIn w g 0 l
  lt : g < w.heap.size
  fz : ∀ o, w.frozen? ⟨g, o, none⟩ = false
theorem OwnL.turn {S : List Nat} {w w' : World} {g : Nat} {l : List Lt} (h : OwnL w g l) (hT : Turn S w w') (hg : g ∉ S) : OwnL w' g l :=
  ⟨h.lots.turn hT hg, Nat.lt_of_lt_of_le h.lt hT.size, fun o => (World.frozen?_of_block (a := ⟨g, o, none⟩) (hT.block g h.lt hg)).trans (h.fz o)⟩
theorem OwnL.at {w : World} {g : Nat} {l : List Lt} (h : OwnL w g l) : LotsAt w (some ⟨g, 0, none⟩) l := h.lots.at

theorem info_lot : (Try.prog.info? 29).map (fun i => (i.zero, i.size, i.bytes)) = some (some (lotV Lt.nil), 9, 72) := by kernel_rfl

theorem turn_setRow {w w' : World} {g : Nat} (h : Turn [] w w') (hg : w.heap.size ≤ g) (cs : Array Value) : Turn [] w (w'.setRow g cs) :=
  ⟨h.os, h.tape, h.output, by rw [size_setRow]; exact h.size, fun k hk hn => (setRow_other w' g k cs (by omega)).trans (h.block k hk hn)⟩

set_option maxRecDepth 100000 in
set_option maxHeartbeats 1000000 in
theorem copied_any (a : Option Addr) (cap : Nat) (l : List Lt) (w : World) (hlen : l.length ≤ 1000) (hL : LotsAt w a l) (hnil : a = none → cap = 0) :
    Calls Try.prog 29 #[.slice a l.length cap] w fun e w' => ∃ g, e = .returned (.slice (some ⟨g, 0, none⟩) l.length l.length) ∧ w.heap.size ≤ g ∧ OwnL w' g l ∧ Turn [] w w' := by
  obtain ⟨i0, hi, hz0, hz1, hz2⟩ := info_parts info_lot
  obtain ⟨w1, hmk, hown, hgr⟩ := run_makeSlice_full (P := Try.prog) w w.heap.size 22 29 i0 (lotV Lt.nil) 9 Try.underlying22 hi hz0 hz1 .i64 .i64 l.length (by omega) (by rw [hz2]; omega) (by unfold maxLen; omega) (Nat.le_refl _)
  have hT1 : Turn [] w w1 := (Turn.refl [] w).grown hgr (by simp)
  obtain ⟨_, hx | ⟨g, c, cur, hv, hb, hg, hnc, hmx, hsz, hcur⟩⟩ := hown
  · simp at hx
  · injection hv with e1 e2 e3
    obtain rfl : w.heap.size = g := congrArg Addr.block (Option.some.inj e1)
    subst e3
    have hlt : w.heap.size < w1.heap.size := by
      rcases Nat.lt_or_ge w.heap.size w1.heap.size with h | h
      · exact h
      · rw [Array.getElem?_eq_none h] at hg; cases hg
    have hcp : ∃ w2, (∀ ty, (Builtin.copy_ #[22, 22] ty #[.slice (some ⟨w.heap.size, 0, none⟩) l.length l.length, .slice a l.length cap]).run Try.prog w1 = .ok (goInt l.length) w2) ∧ OwnL w2 w.heap.size l ∧ Turn [] w w2 := by
      by_cases hl : l = []
      · subst hl
        cases a with
        | none =>
          obtain rfl := hnil rfl
          refine ⟨w1, fun ty => run_copy_nil Try.prog w1 22 22 ty 29 _ _ _ Try.underlying22 (by rw [hi]; rfl), ⟨fun i hi => absurd hi (by simp), hlt, fun o => by unfold World.frozen?; rw [hg]; simp⟩, hT1⟩
        | some x =>
          refine ⟨_, fun ty => run_copy_many w1 22 22 ty 29 w.heap.size 0 0 x 0 cap 9 cur _ [] Try.underlying22 (by rw [hi]; simp [hz1]) hg (by simp) (by simp) (by simp) (by simp), ⟨fun i hi => absurd hi (by simp), by rw [size_setRow]; exact hlt, fun o => ?_⟩, turn_setRow hT1 (Nat.le_refl _) _⟩
          unfold World.frozen?
          rw [setRow_heap _ _ _ _ _ _ hg]
          simp
      · rcases hL with h | ⟨b, off, rfl, hin⟩
        · exact absurd h hl
        · have hcs : (flatL l).length = cur.size := by rw [flatL_length, hsz]
          refine ⟨w1.setRow w.heap.size (flatL l ++ cur.toList.drop (flatL l).length).toArray, fun ty => (run_copy_many w1 22 22 ty 29 w.heap.size l.length l.length ⟨b, off, none⟩ l.length cap 9 cur _ (flatL l) Try.underlying22 (by rw [hi]; simp [hz1]) hg (by rw [flatL_length]; simp) (fun j u hj => ?_) (by omega) (flatL_one l)).trans (by simp), ⟨lotsIn_src fun j u hj => ?_, by rw [size_setRow]; exact hlt, fun o => ?_⟩, turn_setRow hT1 (Nat.le_refl _) _⟩
          · rw [add_spot]
            exact (hin.turn0 hT1).src j u hj
          · rw [cell_setRow_same _ _ _ _ _ _ _ hg, hcs]
            have : cur.toList.drop cur.size = [] := List.drop_of_length_le (by simp)
            rw [this, List.append_nil, Nat.zero_add]
            simpa using hj
          · unfold World.frozen?
            rw [setRow_heap _ _ _ _ _ _ hg]
            simp
    obtain ⟨w2, hcp, hO, hT⟩ := hcp
    have HO := hide hO
    have HT := hide hT
    clear hO hT hT1 hL hgr
    go_enter Try.func29, Try.ntmps29
    go_wp2
    refine bodyPost_ret (v := .slice (some ⟨w.heap.size, 0, none⟩) l.length l.length) (by simp [results, Try.results29, go_sem]) rfl ⟨w.heap.size, rfl, Nat.le_refl _, HO.out, HT.out⟩

end Go.Proofs.Ytegbinlpojpffaa
