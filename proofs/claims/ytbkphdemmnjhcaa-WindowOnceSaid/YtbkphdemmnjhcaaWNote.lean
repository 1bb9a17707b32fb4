/-
  Note, walked.
-/
import Derived.Test.YtbkphdemmnjhcaaWFns
namespace Go.Proofs.Ytbkphdemmnjhcaa.Wi
open Go.RowKit Go.Maps

/-- 'copy' into the middle of a block. -/
theorem run_copy_mid {P : Program} (w : World) (dT sT ty elem : TypeId) (g o dLen dCap : Nat) (a : Addr) (sLen sCap size : Nat) (cs : List Value)
    (hu : P.underlying dT = some (.slice elem)) (hs : (P.info? elem).map (·.size) = some size) (hn : cs.length = Nat.min sLen dLen * size)
    (hsrc : ∀ j v, cs[j]? = some v → w.cell? (a.add j) = some v) (ht : w.there g o cs.length) (h1 : ∀ v ∈ cs, v.oneCell' = true) :
    (Builtin.copy_ #[dT, sT] ty #[.slice (some ⟨g, o, none⟩) dLen dCap, .slice (some a) sLen sCap]).run P w = .ok (goInt (Nat.min sLen dLen)) (w.setCells g o cs) := by
  have hl := run_loadCells_list (P := P) w a cs hsrc
  have hst := run_storeCells_cells (P := P) g o cs 0 w (fun j hj => by simpa using (ht j hj).1) (fun j hj => by simpa using (ht j hj).2) h1
  simp only [Nat.add_zero] at hst
  cases hq : P.info? elem with
  | none => simp [hq] at hs
  | some i =>
    have hi : i.size = size := by simpa [hq] using hs
    simp [Builtin.copy_, run_underlying hu, Builtin.lenOf, Builtin.firstCells, sizeOf, typeInfo, hq, hi, ← hn, hl, hst]

theorem info_ent : (Try.prog.info? 43).map (fun i => (i.zero, i.size, i.bytes)) = some (some (enV Ent.nil), 14, 120) := by kernel_rfl

theorem copy_ents (w : World) (ty : TypeId) (g o dLen dCap : Nat) (a : Option Addr) (sLen sCap : Nat) (l : List Ent) (hd : l.length ≤ dLen) (hs : l.length = sLen) (hnil : a = none → sCap = 0) (hL : EntsAt w a l) (ht : w.there g o (l.length * 14)) :
    (Builtin.copy_ #[24, 24] ty #[.slice (some ⟨g, o, none⟩) dLen dCap, .slice a sLen sCap]).run Try.prog w = .ok (goInt l.length) (w.setCells g o (flatE l)) := by
  subst hs
  have hm : Nat.min l.length dLen = l.length := Nat.min_eq_left hd
  cases a with
  | none =>
    obtain rfl : l = [] := by
      rcases hL with h | ⟨b, off, h, _⟩
      · exact h
      · cases h
    obtain rfl := hnil rfl
    exact run_copy_nil Try.prog w 24 24 ty 43 _ _ _ Try.underlying24 (by rw [info_en]; rfl)
  | some x =>
    have hsrc : ∀ j v, (flatE l)[j]? = some v → w.cell? (x.add j) = some v := fun j v hv => by
      rcases hL with rfl | ⟨b, off, h, hr⟩
      · simp [flatE] at hv
      · obtain rfl := Option.some.inj h
        rw [Addr.add_mid]
        exact hr j v hv
    have := run_copy_mid (P := Try.prog) w 24 24 ty 43 g o dLen dCap x l.length sCap 14 (flatE l) Try.underlying24 info_en (by rw [flatE_length, hm]) hsrc (by rw [flatE_length]; exact ht) (flatE_one l)
    rwa [hm] at this

/-- The row up to k, and from k on. -/
theorem slice_lo (a : Option Addr) (n c k : Nat) (w : World) (hk : k ≤ c) : (Instr.slice 24 (.slice a n c) none (some (.int .i64 (k : Nat))) none).run Try.prog w = .ok (.slice a k c) w := by
  rw [run_slice_h w 24 a n c (by kernel_rfl) .i64 k (by omega) (by omega)]
  have hs : (sizeOf (Try.prog.elem 24)).run Try.prog w = .ok 14 w := by go_simp
  rw [hs]
  simp only [Result.andThen, sliced, Int.toNat_natCast, Nat.zero_mul, Nat.sub_zero]
  congr 2
  split
  · rfl
  · cases a <;> rfl
/-- Where the row from k on lies. -/
def hiA (a : Option Addr) (c k : Nat) : Option Addr := if c = k then a else a.map (·.add (k * 14))
theorem slice_hi (a : Option Addr) (n c k : Nat) (w : World) (hk : k ≤ n) : (Instr.slice 24 (.slice a n c) (some (.int .i64 (k : Nat))) none none).run Try.prog w = .ok (.slice (hiA a c k) (n - k) (c - k)) w := by
  rw [run_slice_l w 24 a n c (by kernel_rfl) .i64 k (by omega) (by omega)]
  have hs : (sizeOf (Try.prog.elem 24)).run Try.prog w = .ok 14 w := by go_simp
  rw [hs]
  simp only [Result.andThen, sliced, Int.toNat_natCast, hiA]
theorem hiA_at {w : World} {a : Option Addr} {c k : Nat} {l : List Ent} (h : EntsAt w a l) (hc : l.length ≤ c) (hk : k ≤ l.length) : EntsAt w (hiA a c k) (l.drop k) := by
  unfold hiA
  split
  · exact .inl (List.drop_of_length_le (by omega))
  · rcases h with rfl | ⟨b, off, rfl, h⟩
    · exact .inl (by simp)
    · refine .inr ⟨b, off + k * 14, ?_, flatE_drop h hk⟩
      simp only [Option.map_some, Addr.add_mid]
theorem hiA_nil {a : Option Addr} {c k : Nat} (h : a = none → c = 0) (e : hiA a c k = none) : c - k = 0 := by
  unfold hiA at e
  split at e
  · omega
  · have := h (by cases a with | none => rfl | some x => cases e)
    omega
theorem WinAt.drop {w : World} {a : Option Addr} {c k : Nat} {l : List Ent} (h : WinAt w a c l) (hk : k ≤ l.length) : WinAt w (hiA a c k) (c - k) (l.drop k) :=
  ⟨hiA_at h.1 h.2.2.1 hk, fun e => hiA_nil h.2.1 e, by rw [List.length_drop]; have := h.2.2.1; omega, by have := h.2.2.2; omega⟩

/-- What Note does to memory. -/
theorem note_mem (a : Option Addr) (c : Nat) (l : List Ent) (x : Ent) (p : Nat) (w : World) (hp : p ≤ l.length) (hlen : l.length ≤ 1000) (hL : WinAt w a c l) :
    ∃ w1 w2 w3 w4, (Instr.makeSlice 24 (.int .i64 ((l.length : Int) + 1)) (.int .i64 ((l.length : Int) + 1))).run Try.prog w = .ok (.slice (some ⟨w.heap.size, 0, none⟩) (l.length + 1) (l.length + 1)) w1 ∧ Turn [] w w1 ∧
      (∀ ty, (Builtin.copy_ #[24, 24] ty #[.slice (some ⟨w.heap.size, 0, none⟩) (l.length + 1) (l.length + 1), .slice a p c]).run Try.prog w1 = .ok (goInt p) w2) ∧ Turn [] w w2 ∧
      w2.there w.heap.size (p * 14) 14 ∧ w3 = w2.setCells w.heap.size (p * 14) (enC x) ∧
      (∀ ty, (Builtin.copy_ #[24, 24] ty #[.slice (hiA (some ⟨w.heap.size, 0, none⟩) (l.length + 1) (p + 1)) (l.length - p) (l.length - p), .slice (hiA a c p) (l.length - p) (c - p)]).run Try.prog w3.drew = .ok (goInt (l.length - p : Nat)) w4) ∧
      WinAt w4 (some ⟨w.heap.size, 0, none⟩) (l.length + 1) (l.take p ++ x :: l.drop p) ∧ Turn [] w w4 := by
  obtain ⟨i0, hi, hz0, hz1, hz2⟩ := info_parts info_ent
  obtain ⟨w1, hmk, hown, hgr⟩ := run_makeSlice_full (P := Try.prog) w w.heap.size 24 43 i0 (enV Ent.nil) 14 Try.underlying24 hi hz0 hz1 .i64 .i64 (l.length + 1) (by omega) (by rw [hz2]; omega) (by unfold maxLen; omega) (Nat.le_refl _)
  have hT1 : Turn [] w w1 := (Turn.refl [] w).grown hgr (by simp)
  obtain ⟨hE, hnil, hc, hcm⟩ := hL
  obtain ⟨_, hx | ⟨g, c', cur, hv, hb, hg, hnc, hmx, hsz, hcur⟩⟩ := hown
  · simp at hx
  · injection hv with e1 e2 e3
    obtain rfl : w.heap.size = g := congrArg Addr.block (Option.some.inj e1)
    subst e3
    have hth : w1.there w.heap.size 0 ((l.length + 1) * 14) := fun j hj => by
      rw [Nat.zero_add]
      refine ⟨?_, frozen_of_row w1 _ _ _ _ hg⟩
      rw [cell_of_row w1 _ _ _ _ _ hg, Array.getElem?_eq_getElem (by omega)]
      rfl
    have sub : ∀ {v : World} (o n : Nat), o + n ≤ (l.length + 1) * 14 → v.there w.heap.size 0 ((l.length + 1) * 14) → v.there w.heap.size o n := fun o n h ht j hj => by
      have := ht (o + j) (by omega)
      rwa [Nat.zero_add] at this
    have hlt : (l.take p).length = p := by rw [List.length_take]; omega
    have hld : (l.drop p).length = l.length - p := List.length_drop
    obtain ⟨u2, hu2⟩ : ∃ u, u = w1.setCells w.heap.size 0 (flatE (l.take p)) := ⟨_, rfl⟩
    have hth2 : u2.there w.heap.size 0 ((l.length + 1) * 14) := by rw [hu2]; exact World.there_setCells hth _ _ _
    have hT2 : Turn [] w u2 := by rw [hu2]; exact Turn.setCells (.inr (Nat.le_refl _)) _ _ hT1
    have r2 : u2.rangeAt w.heap.size 0 (flatE (l.take p)) := by rw [hu2]; exact World.rangeAt_setCells_same w1 w.heap.size 0 (flatE (l.take p)) (sub 0 _ (by rw [flatE_length, hlt]; omega) hth)
    have k1 : ∀ ty, (Builtin.copy_ #[24, 24] ty #[.slice (some ⟨w.heap.size, 0, none⟩) (l.length + 1) (l.length + 1), .slice a p c]).run Try.prog w1 = .ok (goInt p) u2 := fun ty => by
      have := copy_ents w1 ty w.heap.size 0 (l.length + 1) (l.length + 1) a p c (l.take p) (by omega) hlt hnil ((hE.turn0 hT1).take p) (sub 0 _ (by rw [hlt]; omega) hth)
      rw [hlt, ← hu2] at this
      exact this
    clear hu2
    obtain ⟨u3, hu3⟩ : ∃ u, u = u2.setCells w.heap.size (p * 14) (enC x) := ⟨_, rfl⟩
    have hth3 : u3.drew.there w.heap.size 0 ((l.length + 1) * 14) := by rw [hu3]; exact there_drew (World.there_setCells hth2 _ _ _)
    have hT3 : Turn [] w u3.drew := by rw [hu3]; exact (Turn.setCells (.inr (Nat.le_refl _)) _ _ hT2).drew
    have r3 : u3.drew.rangeAt w.heap.size (p * 14) (enC x) := by rw [hu3]; exact range_drew (World.rangeAt_setCells_same u2 w.heap.size (p * 14) (enC x) (sub _ _ (by rw [enC_length]; omega) hth2))
    have r2' : u3.drew.rangeAt w.heap.size 0 (flatE (l.take p)) := by rw [hu3]; exact range_drew (World.rangeAt_setCells_apart r2 w.heap.size (p * 14) (enC x) (.inr (.inl (by rw [flatE_length, hlt]; omega))))
    have k2 : ∀ ty, (Builtin.copy_ #[24, 24] ty #[.slice (hiA (some ⟨w.heap.size, 0, none⟩) (l.length + 1) (p + 1)) (l.length - p) (l.length - p), .slice (hiA a c p) (l.length - p) (c - p)]).run Try.prog u3.drew = .ok (goInt (l.length - p : Nat)) (u3.drew.setCells w.heap.size ((p + 1) * 14) (flatE (l.drop p))) := fun ty => by
      have hsrc := (hiA_at hE hc hp).turn0 hT3
      by_cases hpl : p = l.length
      · have hd0 : l.drop p = [] := List.drop_of_length_le (by omega)
        have := copy_ents u3.drew ty w.heap.size 0 (l.length - p) (l.length - p) (hiA a c p) (l.length - p) (c - p) (l.drop p) (by omega) hld (fun e => hiA_nil hnil e) hsrc (fun j hj => by rw [hd0] at hj; simp at hj)
        rw [hld] at this
        rw [hd0] at this ⊢
        rw [show hiA (some ⟨w.heap.size, 0, none⟩) (l.length + 1) (p + 1) = some ⟨w.heap.size, 0, none⟩ by unfold hiA; rw [if_pos (by omega)]]
        exact this
      · have := copy_ents u3.drew ty w.heap.size ((p + 1) * 14) (l.length - p) (l.length - p) (hiA a c p) (l.length - p) (c - p) (l.drop p) (by omega) hld (fun e => hiA_nil hnil e) hsrc (sub _ _ (by rw [hld]; omega) hth3)
        rw [hld] at this
        rw [show hiA (some ⟨w.heap.size, 0, none⟩) (l.length + 1) (p + 1) = some ⟨w.heap.size, (p + 1) * 14, none⟩ by unfold hiA; rw [if_neg (by omega), Option.map_some, Addr.add_mid, Nat.zero_add]]
        exact this
    refine ⟨w1, u2, u3, u3.drew.setCells w.heap.size ((p + 1) * 14) (flatE (l.drop p)), by simpa using hmk, hT1, k1, hT2, sub _ _ (by omega) hth2, hu3, k2, ⟨.inr ⟨w.heap.size, 0, rfl, ?_⟩, fun e => (by cases e), ?_, by omega⟩, Turn.setCells (.inr (Nat.le_refl _)) _ _ hT3⟩
    · rw [flatE_append, flatE, rangeAt_append, rangeAt_append, flatE_length, hlt, enC_length, Nat.zero_add, show p * 14 + 14 = (p + 1) * 14 by omega]
      refine ⟨World.rangeAt_setCells_apart r2' _ _ _ (.inr (.inl ?_)), World.rangeAt_setCells_apart r3 _ _ _ (.inr (.inl ?_)), World.rangeAt_setCells_same _ _ _ _ (sub _ _ ?_ hth3)⟩
      · rw [flatE_length, hlt]; omega
      · rw [enC_length]; omega
      · rw [flatE_length, hld]; omega
    · rw [List.length_append, List.length_cons, hlt, hld]; omega

/-- An entry is stored. -/
theorem store_entry {ops : Array Oper} {rest : List Oper} {dst : Option Tmp} {ty : TypeId} {pos : String} {after : Array Edge} {a : Act} {w : World} {Q : Exit → Act → World → Prop} (x y : Tmp) (b off : Nat) (e : Ent)
    (hx : a.eval (.tmp x) = .pointer (some ⟨b, off, none⟩)) (hy : a.eval (.tmp y) = enV e) (ht : w.there b off 14)
    (h : wpList Try.prog ops Q rest (a.put dst undef) (w.setCells b off (enC e))) : wpList Try.prog ops Q (⟨dst, .store 43 (.tmp x) (.tmp y), ty, pos, after, none⟩ :: rest) a w :=
  wpList_store_mid rfl 43 (.tmp x) (.tmp y) rfl b off (enC e).toArray hx hy ht info_en (all_oneCell_toArray (enC_one e)) h

theorem range_obj (w : World) (x : An) : (w.alloc (.cells #[.int .i64 x.er, .int .i64 x.lf, .int .i64 x.ov, .int .i64 x.n, .string x.nm, .int .i64 x.s1, .int .i64 x.s2, .int .i64 x.s3, .int .i64 x.s4, .int .i64 x.s5, .int .i64 x.s6, .int .i64 x.s7, .int .i64 x.s8] 29)).rangeAt w.heap.size 0 (anC x) := fun j v hv => by
  have hb : (w.alloc (.cells #[.int .i64 x.er, .int .i64 x.lf, .int .i64 x.ov, .int .i64 x.n, .string x.nm, .int .i64 x.s1, .int .i64 x.s2, .int .i64 x.s3, .int .i64 x.s4, .int .i64 x.s5, .int .i64 x.s6, .int .i64 x.s7, .int .i64 x.s8] 29)).heap[w.heap.size]? = _ := Array.getElem?_push_size
  rw [cell_of_row _ _ _ _ _ _ hb, Nat.zero_add]
  simpa [anC] using hv

/-- What Note answers. -/
def Noted (w w' : World) (l : List Ent) (e : Ending) : Prop := ∃ a c, e = .returned (.slice a l.length c) ∧ WinAt w' a c l ∧ Turn [] w w'

set_option maxRecDepth 100000 in
set_option maxHeartbeats 4000000 in
theorem note_any (a : Option Addr) (c : Nat) (l : List Ent) (i : Int) (x : An) (w : World) (hlen : l.length ≤ 1000) (hL : WinAt w a c l) :
    Calls Try.prog 11 #[.slice a l.length c, .int .i64 i, anV x] w fun e w' => Noted w w' (note l ⟨i, x⟩) e := by
  have HT0 := hide ((Turn.refl [] w).alloc (.cells #[.int .i64 x.er, .int .i64 x.lf, .int .i64 x.ov, .int .i64 x.n, .string x.nm, .int .i64 x.s1, .int .i64 x.s2, .int .i64 x.s3, .int .i64 x.s4, .int .i64 x.s5, .int .i64 x.s6, .int .i64 x.s7, .int .i64 x.s8] 29))
  have HR0 := hide (range_obj w x)
  have HL := hide (hL.turn0 HT0.out)
  have HC := hide (place_any a c l i _ (by omega) HL.out.1)
  have hple := pos_le l i
  have hcl := hL.2.2.1
  clear hL
  go_enter Try.func11, Try.ntmps11
  go_wp2_with fail
  obtain ⟨W, hW⟩ : ∃ W, W = w.alloc (.cells #[.int .i64 x.er, .int .i64 x.lf, .int .i64 x.ov, .int .i64 x.n, .string x.nm, .int .i64 x.s1, .int .i64 x.s2, .int .i64 x.s3, .int .i64 x.s4, .int .i64 x.s5, .int .i64 x.s6, .int .i64 x.s7, .int .i64 x.s8] 29) := ⟨_, rfl⟩
  rw [← hW] at HT0 HC HL HR0 ⊢
  clear hW
  refine HC.out.mono ?_
  rintro e w1 ⟨rfl, rfl⟩
  clear HC
  obtain ⟨w2, w3, w4, w5, hmk, hT2, hcp1, hT3, hth, hw4, hcp2, hWin, hT5⟩ := note_mem a c l ⟨i, x⟩ (pos l i) w1 hple hlen HL.out
  have HR3 := hide (rangeAt_turn HR0.out hT3 (by simp))
  have HTh := hide hth
  have HW4 := hide hw4
  have HWin := hide hWin
  have HT5 := hide (HT0.out.trans hT5)
  have hs1 := fun w => slice_lo a l.length c (pos l i) w (by omega)
  have hs2 : ∀ w, (Instr.slice 24 (.slice (some ⟨w1.heap.size, 0, none⟩) (l.length + 1) (l.length + 1)) (some (.int .i64 ((pos l i : Nat) + 1))) none none).run Try.prog w = .ok (.slice (hiA (some ⟨w1.heap.size, 0, none⟩) (l.length + 1) (pos l i + 1)) (l.length - pos l i) (l.length - pos l i)) w := fun w => by
    have := slice_hi (some ⟨w1.heap.size, 0, none⟩) (l.length + 1) (l.length + 1) (pos l i + 1) w (by omega)
    rw [Nat.add_sub_add_right] at this
    exact this
  have hs3 := fun w => slice_hi a l.length c (pos l i) w hple
  have hs4 : ∀ w, (Instr.slice 24 (.slice (some ⟨w1.heap.size, 0, none⟩) (l.length + 1) (l.length + 1)) (some (.int .i64 1)) none none).run Try.prog w = .ok (.slice (hiA (some ⟨w1.heap.size, 0, none⟩) (l.length + 1) 1) l.length l.length) w := fun w => slice_hi (some ⟨w1.heap.size, 0, none⟩) (l.length + 1) (l.length + 1) 1 w (by omega)
  have HQ3 := hide (fun h => (hWin.drop (k := 1) h))
  have HI : Hid (ins l ⟨i, x⟩ = l.take (pos l i) ++ ⟨i, x⟩ :: l.drop (pos l i)) := rfl
  have HN : Hid (note l ⟨i, x⟩ = if 12 < l.length + 1 then (ins l ⟨i, x⟩).drop 1 else ins l ⟨i, x⟩) := by unfold Hid note; rw [ins_length]
  have HIL : Hid ((ins l ⟨i, x⟩).length = l.length + 1) := ins_length _ _
  rw [← HI.out] at HWin HQ3
  have hg3 : w1.heap.size < w3.heap.size := by have := rangeAt_lt (World.rangeAt_setCells_same w3 w1.heap.size (pos l i * 14) (enC ⟨i, x⟩) hth) (by simp [enC]); rwa [size_setCells] at this
  clear hT2 hT3 hth hw4 hWin hT5 HI HL
  generalize pos l i = p at *
  generalize hiA (some ⟨w1.heap.size, 0, none⟩) (l.length + 1) (p + 1) = q1 at *
  generalize hiA a c p = q2 at *
  generalize hiA (some ⟨w1.heap.size, 0, none⟩) (l.length + 1) 1 = q3 at *
  go_wp2_with (first | ((with_reducible refine load_answer _ w.heap.size 0 x ?_ HR3.out ?_); rfl) | ((with_reducible refine store_entry _ _ w1.heap.size (p * 14) ⟨i, x⟩ ?_ ?_ HTh.out ?_); rfl; rfl; rw [← HW4.out]; simp only [Act.put]) | fail)
  go_region
  clear hmk hcp1 hcp2 hs1 hs2 hs3
  by_cases h12 : 12 < l.length + 1
  · have HE : Hid (Noted w w5 (note l ⟨i, x⟩) (.returned (.slice q3 l.length l.length))) := by
      have h1 := HQ3.out (by rw [HIL.out]; omega)
      have e : ((ins l ⟨i, x⟩).drop 1).length = l.length := by rw [List.length_drop, HIL.out]; omega
      unfold Hid
      rw [HN.out, if_pos h12]
      exact ⟨q3, l.length, by rw [e], h1, HT5.out⟩
    clear HN HIL HQ3 HWin
    go_wp2_with fail
    go_ret
    exact HE.out
  · have HE : Hid (Noted w w5 (note l ⟨i, x⟩) (.returned (.slice (some ⟨w1.heap.size, 0, none⟩) (l.length + 1) (l.length + 1)))) := by
      unfold Hid
      rw [HN.out, if_neg h12]
      exact ⟨_, l.length + 1, by rw [HIL.out], HWin.out, HT5.out⟩
    clear HN HIL HQ3 HWin
    go_wp2_with fail
    go_ret
    exact HE.out

end Go.Proofs.Ytbkphdemmnjhcaa.Wi
