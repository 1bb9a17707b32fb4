/-
  ParseAnswer of the frame and of the reference, EncodeAnswer of the reference, walked.
-/
import Derived.Test.YtkbboingeacgjaaFAnsP
import Derived.Test.YtkbboingeacgjaaQTD
namespace Go.Proofs.Ytkbboingeacgjaa
open Go.RowKit

theorem results_two {fn : Func} {i j T n : Nat} (hT : Sz T n) (h : fn.results = #[.cell i T, .tmp j]) {tmps : Array Value} {w : World} {g : Nat} {cs : List Value} {u : Value} (hl : cs.length = n) (h4 : tmps.getD i undef = .pointer (some ⟨g, 0, none⟩)) (h5 : tmps.getD j undef = u) (hr : w.rangeAt g 0 cs) :
    (results fn tmps).run Try.prog w = .ok (.tuple #[.agg cs.toArray, u]) w := by
  have h4' : tmps[i]?.getD undef = .pointer (some ⟨g, 0, none⟩) := by simpa using h4
  have h5' : tmps[j]?.getD undef = u := by simpa using h5
  obtain ⟨h0, d, k1, k2⟩ := hT
  have hv : (loadVar T ⟨g, 0, none⟩).run Try.prog w = .ok (.agg cs.toArray) w := run_loadVar_mid w g 0 _ cs d hr k1 k2 (by rw [h0, hl])
  simp [results, h, h4', h5', asAddr, hv]

/-- What a parse answers: the answer, or nothing but a fault. -/
def PaP (w : World) (s : Sx) (A : Aw) (r : Ending) (w' : World) : Prop := r = .returned (.tuple #[.agg (awC (if endS s = 0 then A else Aw.zero)).toArray, .int .i64 (endS s : Nat)]) ∧ Turn [] w w'

theorem fp_new {w : World} (hw : 0 < w.heap.size) (a : Option Addr) (c : Nat) (l : List Nat) (hB : BytesAt w a l) (hb : ∀ x ∈ l, x < 256) (hlc : l.length ≤ c) (hcm : c ≤ maxLen) (ha : a = none ∧ c = 0 ∨ ∃ ab ao, a = some ⟨ab, ao, none⟩) :
    ∃ g, g < w.heap.size ∧ FpAt (w.alloc (.cells #[.int .i64 0, .slice a l.length c] 78)) w.heap.size g ⟨l, 0⟩ := by
  have hT : Turn [] w (w.alloc (.cells #[.int .i64 0, .slice a l.length c] 78)) := (Turn.refl [] w).alloc _
  obtain ⟨g, hg, hg2⟩ : ∃ g, g < w.heap.size ∧ ∀ x, l ≠ [] → a = some x → x.block = g := by
    by_cases hl : l = []
    · exact ⟨0, hw, fun x h => absurd hl h⟩
    · obtain ⟨ab, ao, rfl, hc⟩ := hB.at (List.length_pos_iff.2 hl)
      exact ⟨ab, lt_of_cell hc, fun x _ e => by rw [← Option.some.inj e]⟩
  exact ⟨g, hg, ⟨a, c, World.cell?_alloc_at _ _ _ _ rfl, hlc, hcm, ha, hB.turn hT (by simp), hg2⟩, World.cell?_alloc_at _ _ _ _ rfl, fun o => fz_new w _ _ o, by omega, hb⟩

/-- A row of bytes that may be parsed. -/
structure Byr (w : World) (a : Option Addr) (c : Nat) (l : List Nat) : Prop where
  bt : BytesAt w a l
  by8 : ∀ x ∈ l, x < 256
  lc : l.length ≤ c
  cm : c ≤ maxLen
  ad : a = none ∧ c = 0 ∨ ∃ ab ao, a = some ⟨ab, ao, none⟩
theorem Byr.turn {w w' : World} {a : Option Addr} {c : Nat} {l : List Nat} (h : Byr w a c l) (hT : Turn [] w w') : Byr w' a c l := ⟨h.bt.turn hT (by simp), h.by8, h.lc, h.cm, h.ad⟩
theorem Byr.of {w : World} {base : Nat} {v : Value} {l : List Nat} {n : Nat} (h : w.ownsRow base 5 1 v n (l.map byteCell)) (hb : ∀ x ∈ l, x < 256) : ∃ a c, v = .slice a l.length c ∧ Byr w a c l := by
  have hn : n = l.length := by have := h.1; simpa using this.symm
  by_cases hl : l = []
  · subst hl
    obtain ⟨_, ⟨rfl, h0⟩ | ⟨g, cap, cur, rfl, _, _, hnc, hm, _⟩⟩ := h
    · exact ⟨none, 0, rfl, .inl rfl, hb, Nat.le_refl _, by decide, .inl ⟨rfl, rfl⟩⟩
    · exact ⟨_, cap, by rw [hn], .inl rfl, hb, Nat.zero_le _, hm, .inr ⟨_, _, rfl⟩⟩
  · have hp : 0 < n := by rw [hn]; exact List.length_pos_iff.2 hl
    obtain ⟨g, cap, rfl, _, _, _, hB, _⟩ := own_bytes h hp
    obtain ⟨_, h0 | ⟨g', c', cur, e', _, _, hnc, hm, _⟩⟩ := h
    · omega
    · injection e' with e1 e2 e3
      subst e3
      exact ⟨_, cap, rfl, hB, hb, by omega, hm, .inr ⟨_, _, rfl⟩⟩

set_option maxRecDepth 100000 in
set_option maxHeartbeats 3200000 in
theorem parseans (w : World) (a : Option Addr) (c : Nat) (l : List Nat) (h : Byr w a c l) :
    Calls Try.prog 18 #[.slice a l.length c] w fun r w' => PaP w (panS ⟨l, 0⟩).1 (panS ⟨l, 0⟩).2 r w' := by
  have hT0 : Turn [] w (w.alloc (.cells (awC Aw.zero).toArray 43)) := (Turn.refl [] w).alloc _
  have hz0 : (w.alloc (.cells (awC Aw.zero).toArray 43)).heap.size = w.heap.size + 1 := by simp
  obtain ⟨g, hg, hF⟩ := fp_new (w := w.alloc (.cells (awC Aw.zero).toArray 43)) (by rw [hz0]; omega) a c l (h.bt.turn hT0 (by simp)) h.by8 h.lc h.cm h.ad
  rw [hz0] at hF hg
  have hz1 : ((w.alloc (.cells (awC Aw.zero).toArray 43)).alloc (.cells #[.int .i64 0, .slice a l.length c] 78)).heap.size = w.heap.size + 2 := by simp
  have hK0 : Keep (fun _ => True) w ((w.alloc (.cells (awC Aw.zero).toArray 43)).alloc (.cells #[.int .i64 0, .slice a l.length c] 78)) := ((Keep.refl _ w).alloc _).alloc _
  have hTh : ((w.alloc (.cells (awC Aw.zero).toArray 43)).alloc (.cells #[.int .i64 0, .slice a l.length c] 78)).there w.heap.size 0 13 := there_blk (there_new2 w (awC Aw.zero).toArray 43) (Below.heap_alloc _ _ _ (by rw [hz0]; omega))
  have HC := hide (fpanswer (by rw [hz1]; omega) hF)
  have HK0 := hide hK0
  have HZ := hide hz1
  have HTh := hide hTh
  clear hF hK0 hz1 hTh hT0 hz0 h
  unfold PaP
  generalize panS ⟨l, 0⟩ = T at *
  obtain ⟨s, A⟩ := T
  dsimp only at HC ⊢
  obtain ⟨RV, hRV⟩ : ∃ R, Value.tuple #[.agg (awC (if endS s = 0 then A else Aw.zero)).toArray, .int .i64 (endS s : Nat)] = R := ⟨_, rfl⟩
  rw [hRV]
  have HRV := hide (fun (_ : Unit) => hRV)
  clear hRV
  generalize hrb : w.heap.size = rb at *
  have HW := hide hrb
  go_enter Try.func18, Try.ntmps18
  go_wp2_with fail
  clear hrb
  change Calls Try.prog _ _ ((w.alloc (.cells (awC Aw.zero).toArray 43)).alloc (.cells #[.int .i64 0, .slice a l.length c] 78)) _
  generalize (w.alloc (.cells (awC Aw.zero).toArray 43)).alloc (.cells #[.int .i64 0, .slice a l.length c] 78) = w0 at *
  refine HC.out.mono ?_
  rintro e w1 ⟨rfl, hS, hK⟩
  have hz1 := hK.size
  have hl13 := awC_len A
  have HOne := hide (awC_one A)
  have HR1 := hide (rng_new w1 (awC Aw.zero) #[.int .i64 0, .int .i64 0, .int .i64 0, .int .i64 0, .string { data := #[] }, .int .i64 0, .int .i64 0, .int .i64 0, .int .i64 0, .int .i64 0, .int .i64 0, .int .i64 0, .int .i64 0] 43 rfl)
  have HT1 : Hid ((w1.alloc (.cells #[.int .i64 0, .int .i64 0, .int .i64 0, .int .i64 0, .string { data := #[] }, .int .i64 0, .int .i64 0, .int .i64 0, .int .i64 0, .int .i64 0, .int .i64 0, .int .i64 0, .int .i64 0] 43)).there w1.heap.size 0 13) := there_new2 w1 #[.int .i64 0, .int .i64 0, .int .i64 0, .int .i64 0, .string { data := #[] }, .int .i64 0, .int .i64 0, .int .i64 0, .int .i64 0, .int .i64 0, .int .i64 0, .int .i64 0, .int .i64 0] 43
  have hrb1 : rb < w1.heap.size := by have := HZ.out; omega
  have HA1 : Hid (FpAt ((w1.alloc (.cells #[.int .i64 0, .int .i64 0, .int .i64 0, .int .i64 0, .string { data := #[] }, .int .i64 0, .int .i64 0, .int .i64 0, .int .i64 0, .int .i64 0, .int .i64 0, .int .i64 0, .int .i64 0] 43)).setCells w1.heap.size 0 (awC A)) (rb + 1) g s ∧ ((w1.alloc (.cells #[.int .i64 0, .int .i64 0, .int .i64 0, .int .i64 0, .string { data := #[] }, .int .i64 0, .int .i64 0, .int .i64 0, .int .i64 0, .int .i64 0, .int .i64 0, .int .i64 0, .int .i64 0] 43)).setCells w1.heap.size 0 (awC A)).rangeAt w1.heap.size 0 (awC A) ∧ ((w1.alloc (.cells #[.int .i64 0, .int .i64 0, .int .i64 0, .int .i64 0, .string { data := #[] }, .int .i64 0, .int .i64 0, .int .i64 0, .int .i64 0, .int .i64 0, .int .i64 0, .int .i64 0, .int .i64 0] 43)).setCells w1.heap.size 0 (awC A)).there rb 0 13 ∧ Keep (fun x => x ≠ rb + 1) w ((w1.alloc (.cells #[.int .i64 0, .int .i64 0, .int .i64 0, .int .i64 0, .string { data := #[] }, .int .i64 0, .int .i64 0, .int .i64 0, .int .i64 0, .int .i64 0, .int .i64 0, .int .i64 0, .int .i64 0] 43)).setCells w1.heap.size 0 (awC A))) := by
    refine ⟨(hS.keep (P := fun _ => True) ((Keep.refl _ w1).alloc _) trivial trivial).keep (P := fun x => x ≠ w1.heap.size) ((Keep.refl _ _).setCells (.inl (fun h => h rfl)) 0 _) (by have := HZ.out; omega) (by have := HZ.out; omega), World.rangeAt_setCells_same _ _ 0 (awC A) HT1.out, there_blk (there_blk (there_keep hK (by omega) HTh.out) (Below.heap_alloc _ _ _ hrb1)) (heap_setCellsN _ _ (by omega) _ _ _), (((HK0.out.less (fun _ _ _ => trivial)).trans hK).alloc _).setCells (.inr (by have := HW.out; have := HZ.out; omega)) 0 _⟩
  clear hS hK HC HTh HK0 HR1
  generalize hcs : awC A = cs at *
  go_upto_region 3 with (first | ((with_reducible refine store_sz 43 13 sz67 _ _ w1.heap.size 0 cs hl13 HOne.out ?_ ?_ HT1.out ?_); rfl; rfl) | fail)
  generalize hq : w1.heap.size = q at *
  have hqb : q ≠ rb + 1 := by have := HZ.out; omega
  clear HT1 hz1
  generalize (w1.alloc (.cells #[.int .i64 0, .int .i64 0, .int .i64 0, .int .i64 0, .string { data := #[] }, .int .i64 0, .int .i64 0, .int .i64 0, .int .i64 0, .int .i64 0, .int .i64 0, .int .i64 0, .int .i64 0] 43)).setCells q 0 cs = v1 at *
  clear hq
  have HE := hide (fpend HA1.out.1)
  have hE : (if s.l = [] then s else refuseS s 9).e = endS s := rfl
  rw [hE] at HE
  clear hE
  go_wp2_with fail
  refine HE.out.mono ?_
  rintro e v2 ⟨rfl, hK⟩
  have hbl := lt_of_cell HA1.out.1.c0
  have hR2 : v2.rangeAt q 0 cs := fun j u hj => (hK.cell (lt_of_cell (HA1.out.2.1 j u hj)) (by omega)).trans (HA1.out.2.1 j u hj)
  have hT2 : v2.there rb 0 13 := there_keep hK (by omega) HA1.out.2.2.1
  have hKw : Keep (fun x => x ≠ rb + 1) w v2 := HA1.out.2.2.2.trans hK
  have HTn : Hid (∀ ds : List Value, Turn [] w (v2.setCells rb 0 ds)) := fun ds => by
    have h1 := hKw.setCells (q := rb) (.inr (by have := HW.out; omega)) 0 ds
    exact ⟨h1.os, h1.tape, h1.output, h1.size, fun k hk _ => h1.block k hk (by have := HW.out; omega)⟩
  have HR2 := hide hR2
  have HT2 := hide hT2
  clear hR2 hT2 hKw hK HA1 HE
  by_cases he : endS s = 0
  · rw [he]
    have HR6 := hide (World.rangeAt_setCells_same v2 rb 0 cs (by rw [hl13]; exact HT2.out))
    go_wp2_with (first | ((with_reducible refine load_sz 43 13 sz67 _ q 0 cs hl13 ?_ HR2.out ?_); rfl) | ((with_reducible refine store_sz 43 13 sz67 _ _ rb 0 cs hl13 HOne.out ?_ ?_ HT2.out ?_); rfl; rfl) | fail)
    refine bodyPost_ret (v := .tuple #[.agg cs.toArray, .int .i64 0]) (results_two sz67 Try.results18 hl13 rfl rfl HR6.out) rfl ⟨?_, HTn.out _⟩
    rw [← HRV.out (), he, if_pos rfl, hcs]
    rfl
  · have hne : ¬ ((endS s : Nat) : Int) = 0 := by omega
    have hlz : ([.int .i64 0, .int .i64 0, .int .i64 0, .int .i64 0, .string { data := #[] }, .int .i64 0, .int .i64 0, .int .i64 0, .int .i64 0, .int .i64 0, .int .i64 0, .int .i64 0, .int .i64 0] : List Value).length = 13 := rfl
    have HOz : Hid (∀ v ∈ ([.int .i64 0, .int .i64 0, .int .i64 0, .int .i64 0, .string { data := #[] }, .int .i64 0, .int .i64 0, .int .i64 0, .int .i64 0, .int .i64 0, .int .i64 0, .int .i64 0, .int .i64 0] : List Value), v.oneCell' = true) := awC_one Aw.zero
    have HR6 := hide (World.rangeAt_setCells_same v2 rb 0 [.int .i64 0, .int .i64 0, .int .i64 0, .int .i64 0, .string { data := #[] }, .int .i64 0, .int .i64 0, .int .i64 0, .int .i64 0, .int .i64 0, .int .i64 0, .int .i64 0, .int .i64 0] HT2.out)
    have HEn : Hid (endS s ≠ 0) := he
    clear he
    generalize endS s = E at *
    go_wp2_with (first | ((with_reducible refine store_sz 43 13 sz67 _ _ rb 0 [.int .i64 0, .int .i64 0, .int .i64 0, .int .i64 0, .string { data := #[] }, .int .i64 0, .int .i64 0, .int .i64 0, .int .i64 0, .int .i64 0, .int .i64 0, .int .i64 0, .int .i64 0] hlz HOz.out ?_ ?_ HT2.out ?_); rfl; rfl) | fail)
    refine bodyPost_ret (v := .tuple #[.agg (awC Aw.zero).toArray, .int .i64 (E : Nat)]) (results_two sz67 Try.results18 hlz rfl rfl HR6.out) rfl ⟨?_, HTn.out _⟩
    rw [← HRV.out (), if_neg HEn.out]

end Go.Proofs.Ytkbboingeacgjaa
