/-
  Open of a tree, whatever is committed.
  Open, by what is committed on the disk.
  What the laws of trees do themselves: a new tree, one opened anew, how much is left, how high; others' blocks.
  The law's Find on a plain row, walked.
  The law's plain rows: Find, Del, Put, Same, walked.
  The law's Put on plain rows, walked.
-/
import Derived.Test.YthehkckdecckhaaGreatDoorU46
import Derived.Test.YthehkckdecckhaaGreatDoorU38
import Derived.Deep.Cut

namespace Go.Proofs.YthehkckdecckhaaGreatDoor
open Go.RowKit Go.Maps

set_option maxRecDepth 100000 in
set_option maxHeartbeats 1600000 in
theorem topen_some (p b m sm rb : Nat) (s : St) (q : Pg) (hd : s.dead = false) (hq : q.dead = false) (pg lvl keys : Nat) (hpg : pg ≤ 16384) (hl : lvl ≤ 255) (hk : keys ≤ 1000000) (hroot : q.root = rootBytes pg lvl keys) (w : World) (_hrb : rb < w.heap.size) (hA : PAt w p b m sm rb s q) :
    Calls Tryz.prog 51 #[.pointer (some ⟨p, 0, none⟩)] w fun e w' => ∃ t pa r, e = .returned (.tuple #[.pointer (some ⟨t, 0, none⟩), .int .i64 0]) ∧ w.heap.size ≤ t ∧ w.heap.size ≤ pa ∧ pa ≠ t ∧ TreeAt w' t p ⟨some pa, keys, false, 0, .slice none 0 0⟩ ⟨some pa, keys, false, 0, .slice none 0 0⟩ ∧ PlaceAt w' pa pg lvl 0 .nilIface ∧ PAt w' p b m sm rb s { q with rd := r } ∧ Turn [p] w w' := by
  have hz := zero70
  have hpl := hA.pg.lt
  have hlen : q.root.length = 9 := by rw [hroot]; simp [rootBytes, be4]
  have HP0 : Hid (w.heap.size ≠ 1 ∧ w.heap.size ≠ p ∧ w.heap.size ≠ b ∧ w.heap.size ≠ m ∧ w.heap.size ≠ sm ∧ w.heap.size ≠ rb) := by
    have h1 := hA.disk.lt
    have h2 := hA.disk.ltm
    have h3 := hA.pg.lts
    have h4 := hA.pos
    exact ⟨by omega, by omega, by omega, by omega, by omega, by omega⟩
  have hT0 : Turn [] w (w.alloc (.cells #[.pointer (some ⟨p, 0, none⟩), .pointer none, .int .i64 0, .bool false, .int .i64 0, .slice none 0 0, .pointer none, .int .i64 0, .bool false, .int .i64 0, .slice none 0 0] 70)) := (Turn.refl [] w).alloc _
  have hTr0 : TreeAt (w.alloc (.cells #[.pointer (some ⟨p, 0, none⟩), .pointer none, .int .i64 0, .bool false, .int .i64 0, .slice none 0 0, .pointer none, .int .i64 0, .bool false, .int .i64 0, .slice none 0 0] 70)) w.heap.size p ⟨none, 0, false, 0, .slice none 0 0⟩ ⟨none, 0, false, 0, .slice none 0 0⟩ :=
    ⟨World.cell?_alloc_at _ _ _ _ rfl, ⟨World.cell?_alloc_at _ _ _ _ rfl, World.cell?_alloc_at _ _ _ _ rfl, World.cell?_alloc_at _ _ _ _ rfl, World.cell?_alloc_at _ _ _ _ rfl, World.cell?_alloc_at _ _ _ _ rfl⟩, ⟨World.cell?_alloc_at _ _ _ _ rfl, World.cell?_alloc_at _ _ _ _ rfl, World.cell?_alloc_at _ _ _ _ rfl, World.cell?_alloc_at _ _ _ _ rfl, World.cell?_alloc_at _ _ _ _ rfl⟩, fun o => World.frozen?_alloc_at _ _ _ _ rfl⟩
  have HC := hide (tdead_any w.heap.size p b m sm rb s q _ _ hd hq _ (hA.turn0 hT0) hTr0)
  have HT0 := hide hT0
  have HTr0 := hide hTr0
  have HLen := hide hlen
  have HRoot := hide hroot
  have HKs := hide hk
  clear hT0 hTr0 hA hlen hroot hk
  go_enter Tryz.func51, Tryz.ntmps51
  go_wp2_with fail
  refine HC.out.mono ?_
  rintro e w1 ⟨rfl, ⟨r, hA1⟩, hT1⟩
  have HTr1 := hide (HTr0.out.turn hT1 (by simp; omega))
  have HA1 := hide hA1
  have HT1 := hide ((show Turn [p] w _ from ⟨HT0.out.os, HT0.out.tape, HT0.out.output, HT0.out.size, fun i hi _ => HT0.out.block i hi (by simp)⟩).trans hT1)
  have HRt := hide (root_cap p b sm rb s.n _ 0 { q with rd := r } (by show q.root.length ≤ 64; rw [HLen.out]; omega) (by show 0 < q.root.length; rw [HLen.out]; omega) w1 HA1.out.pg)
  rw [show ({ q with rd := r } : Pg).root = q.root from rfl, HLen.out] at HRt
  clear hA1 hT1
  go_wp2_with fail
  refine HRt.out.mono ?_
  rintro e w2 ⟨g, c2, rfl, hB2, hc2, hT2⟩
  have HTr2 := hide (HTr1.out.turn hT2 (by simp))
  have HA2 := hide (HA1.out.turn0 hT2)
  rw [HRoot.out] at hB2
  have HSt := hide (stateOf_some (some ⟨g, 0, none⟩) c2 pg lvl keys hpg hl HKs.out w2 hB2 (by simp) hc2)
  have HT2 := hide (HT1.out.then hT2 (by simp))
  have hs02 := HT2.out.size
  clear hT2 hB2 hc2 HRt
  go_wp2_with fail
  refine HSt.out.mono ?_
  rintro e w3 ⟨pa, rfl, hPl, hpa, hT3⟩
  have hTr3 := HTr2.out.turn hT3 (by simp)
  have HA3 := hide (HA2.out.turn0 hT3)
  have htl2 := HTr2.out.lt
  have HT3 := hide (HT2.out.then hT3 (by simp))
  have HPl := hide hPl
  have hs3 := HT3.out.size
  have hd1 := hTr3.done.c0
  have hd2 := hTr3.done.c1
  have hd3 := hTr3.done.c2
  have hd4 := hTr3.done.c3
  have hd5 := hTr3.done.c4
  have hd6 := hTr3.now.c0
  have hd7 := hTr3.now.c1
  have hd8 := hTr3.now.c2
  have hd9 := hTr3.now.c3
  have hd10 := hTr3.now.c4
  have hf1 := hTr3.fz 1
  have hf2 := hTr3.fz 2
  have hf3 := hTr3.fz 3
  have hf4 := hTr3.fz 4
  have hf5 := hTr3.fz 5
  have hf6 := hTr3.fz 6
  have hf7 := hTr3.fz 7
  have hf8 := hTr3.fz 8
  have hf9 := hTr3.fz 9
  have hf10 := hTr3.fz 10
  have HTr3 := hide hTr3
  have htl := hTr3.lt
  have hap := HA3.out.apart
  have hbl := HA3.out.disk.lt
  have HNe : Hid (pa ≠ w.heap.size ∧ w.heap.size ≤ pa) := ⟨by omega, by omega⟩
  clear hT3 hTr3 HA1 HA2 hPl hpa hs02 htl2
  generalize hte : w.heap.size = t at *
  go_wp2_with fail
  have ht : t ∈ [t] := List.mem_singleton.2 rfl
  have hTs := ((((((((((Turn.refl [t] w3).setCell ht 1 (.pointer (some ⟨pa, 0, none⟩))).setCell ht 2 (.int .i64 (keys : Nat))).setCell ht 3 (.bool false)).setCell ht 4 (.int .i64 0)).setCell ht 5 (.slice none 0 0)).setCell ht 6 (.pointer (some ⟨pa, 0, none⟩))).setCell ht 7 (.int .i64 (keys : Nat))).setCell ht 8 (.bool false)).setCell ht 9 (.int .i64 0)).setCell ht 10 (.slice none 0 0)
  have hTr := (((((((((HTr3.out.setDRoot (some pa)).setDKeys keys).setDChanged false).setDFresh 0).setDDropped (.slice none 0 0)).setRoot (some pa)).setKeys keys).setChanged false).setFresh 0).setDropped (.slice none 0 0)
  refine bodyPost_ret (v := .tuple #[.pointer (some ⟨t, 0, none⟩), .int .i64 0]) (by simp [results, Tryz.results51, go_sem]) rfl ⟨t, pa, r, rfl, by omega, by rw [hte]; exact HNe.out.2, HNe.out.1, hTr, HPl.out.turn hTs (by simp; exact HNe.out.1), ?_, ?_⟩
  · exact HA3.out.turnX hTs (by
      intro x hx
      obtain rfl := List.mem_singleton.1 hx
      have h2 := HP0.out
      exact ⟨h2.1, h2.2.1, h2.2.2.1, h2.2.2.2.1, h2.2.2.2.2.1, h2.2.2.2.2.2⟩)
  · exact HT3.out.then hTs (by simp; omega)

end Go.Proofs.YthehkckdecckhaaGreatDoor

namespace Go.Proofs.YthehkckdecckhaaGreatDoor
open Go.RowKit Go.Maps

/-- A disk with a tree that is committed. -/
structure DskG (w : World) (b m : Nat) (s : St) (c : Nat) (K : Nat → Bool) (D : Dk) (rd : Root?) : Prop where
  disk : DiskAt w b m s
  laid : Laid s c (rootB rd) K
  sd : s.dead = false
  sl : s.left < 0
  qK : ∀ k, K k = true ↔ k ∈ pagesR rd
  nodup : (pagesR rd).Nodup
  rdisk : RtDisk D rd
  ok : RootOk rd
  dk : ∀ pg h (l : List (En h)), D pg = some ⟨h, l⟩ → K pg = true ∧ s.f pg = bytesOf 512 (pageB (encN l)) ∧ PageFit l
  tab : Tab w
  pos : 1 < b ∧ 1 < m
theorem TG.dsk {w : World} {O : Nat → Prop} {t p b m sm rb : Nat} {s : St} {q : Pg} {Dn S : Stt} {D : Dk} {G : Gh} {Rw : Nat → Prop} {ds : List Nat} {rd rt : Root?} (h : TG w O t p b m sm rb s q Dn S D G Rw ds rd rt) : DskG w b m s q.c q.K D rd := by
  have hl := h.td.tm.pa.laid
  rw [h.root] at hl
  refine ⟨h.td.tm.pa.disk, hl, h.td.tm.sd, h.sl, h.qK, h.nodup, h.disk, h.okd, fun pg hh l hD => ?_, h.td.tm.pa.tab, ⟨h.td.tm.pa.pos.2.1, h.td.tm.pa.pos.2.2.1⟩⟩
  obtain ⟨g1, g2, g3⟩ := h.td.tm.dk.at_ pg hh l hD
  obtain ⟨n, e, _, _, ht⟩ := Pg.there_range g1
  obtain rfl : pg = n := by omega
  refine ⟨?_, g2, g3⟩
  unfold Pg.there at ht
  rw [h.qs] at ht
  simpa using ht
theorem DskG.quiet {w w' : World} {b m : Nat} {s : St} {c : Nat} {K : Nat → Bool} {D : Dk} {rd : Root?} (h : DskG w b m s c K D rd) (hT : Turn [] w w') : DskG w' b m s c K D rd :=
  { h with disk := h.disk.turn hT (by simp) (by simp), tab := h.tab.turn hT (by simp) }

/-- A new tree object, on what is committed. -/
theorem tg_open {w0 w : World} {O : Nat → Prop} {p b m sm rb : Nat} {s : St} {q : Pg} {D : Dk} {rd : Root?} {c : Nat} {K : Nat → Bool} (h : DskG w0 b m s c K D rd) (hq : q = ⟨false, c, rootB rd, K, fun _ => 0, false, 0⟩) (hA : PAt w p b m sm rb s q) (hO : ∀ x, O x → x < w0.heap.size) (hO2 : ¬ O 1 ∧ ¬ O b ∧ ¬ O m) (hp : w0.heap.size ≤ p ∧ w0.heap.size ≤ sm ∧ w0.heap.size ≤ rb) (hrb : rb < w.heap.size) (_hs : w0.heap.size ≤ w.heap.size) (hk : (flatR rd).length ≤ 100000) :
    Calls Tryz.prog 51 #[.pointer (some ⟨p, 0, none⟩)] w fun e w' => ∃ t r Dn G, e = .returned (.tuple #[.pointer (some ⟨t, 0, none⟩), .int .i64 0]) ∧ TG w' O t p b m sm rb s { q with rd := r } Dn Dn D G (fun _ => False) [] rd rd ∧ w.heap.size ≤ t ∧ (∀ x, G x ≠ none → w.heap.size ≤ x) ∧ Turn [p] w w' := by
  have hqd : q.dead = false := by rw [hq]
  have hht := h.ok.height (by omega)
  have hl1 := hA.pg.lt
  have hl2 := hA.disk.lt
  have hl3 := hA.disk.ltm
  have hl4 := hA.pg.lts
  have hpos := hA.pos
  have hn16 := hA.laid.n16
  have hnil : ∀ w' : World, w'.ownsRow 0 3 1 (.slice none 0 0) 0 [] := fun w' => World.ownsRow_nil _ _ _ _
  obtain ⟨hc1, hc2⟩ := h.rdisk.count
  have hOn : ∀ t, w.heap.size ≤ t → ∀ x ∈ [1, t, p, b, m, sm, rb], ¬ O x := fun t ht x hx ho => by
    have := hO x ho
    simp at hx
    rcases hx with rfl | rfl | rfl | rfl | rfl | rfl | rfl
    · exact hO2.1 ho
    · omega
    · omega
    · exact hO2.2.1 ho
    · exact hO2.2.2 ho
    · omega
    · omega
  have hdk : ∀ r, DkOk s { q with rd := r } D := fun r => ⟨fun pg hh l hD => by
    obtain ⟨g1, g2, g3⟩ := h.dk pg hh l hD
    obtain ⟨k1, k2⟩ := h.laid.kr pg g1
    refine ⟨?_, g2, g3⟩
    unfold Pg.thereI Pg.there
    rw [hq]
    show (decide (((fp s.n : Nat) : Int) ≤ (pg : Int)) && decide ((pg : Int) < s.n) && ((K (pg : Int).toNat || (0 == 1)) && !(0 == 2))) = true
    rw [Int.toNat_natCast, g1]
    simp
    omega⟩
  have hmk : ∀ (t : Nat) (r : Bool) (Dn : Stt) (G : Gh) (w' : World), PAt w' p b m sm rb s { q with rd := r } → TreeAt w' t p Dn Dn → w.heap.size ≤ t → w.heap.size ≤ w'.heap.size → Mem w' (fun _ => False) G → (∀ x, G x ≠ none → w.heap.size ≤ x ∧ x ≠ t) → RtAt G D Dn.root rd → Dn.keys = (flatR rd).length → Dn.changed = false → Dn.fresh = 0 → Dn.dropped = .slice none 0 0 → TG w' O t p b m sm rb s { q with rd := r } Dn Dn D G (fun _ => False) [] rd rd := fun t r Dn G w' hA' hTr ht hs' hM hG hRt g1 g2 g3 g4 => by
    refine ⟨⟨⟨hA', hTr, ⟨by omega, by omega, by omega, by omega, by omega, by omega⟩, by omega, h.sd, hqd, hM, hdk r, fun x hx => ?_, hOn t ht, fun x hx => by have := hO x hx; omega⟩, by rw [g4]; exact hnil w', fun g hg => by rw [g4] at hg; cases hg⟩, hRt, hRt, h.ok, h.ok, g1, g2, g3, g4, g1, by rw [g3, hc1], by rw [hc2, List.append_nil], h.nodup, h.rdisk, h.sl, by rw [hq], fun k => by rw [hq], fun k => by rw [hq]; exact h.qK k, by rw [hq]⟩
    rcases hx with hx | hx
    · obtain ⟨k1, k2⟩ := hG x hx
      refine ⟨by simp; omega, fun ho => by have := hO x ho; omega⟩
    · exact hx.elim
  cases rd with
  | none =>
    refine (topen_new p b m sm rb s q h.sd hqd (by rw [hq]; show (0 : Nat) < 9; omega) w hrb hA).mono ?_
    rintro e w' ⟨t, r, rfl, ht, hTr, hA', hT⟩
    exact ⟨t, r, _, fun _ => none, rfl, hmk t r _ _ w' hA' hTr ht hT.size ⟨(fun a P hP => by cases hP), fun _ _ => rfl, fun _ h => False.elim h⟩ (fun x hx => absurd rfl hx) trivial rfl rfl rfl rfl, ht, fun x hx => absurd rfl hx, hT⟩
  | some x =>
    obtain ⟨hh, e⟩ := x
    have hod := h.rdisk hh e rfl
    have hpn : pageOf e < s.n := (hdk false).pages hod
    have h20 : hh + 1 ≤ 20 := hht
    refine (topen_some p b m sm rb s q h.sd hqd (pageOf e) (hh + 1) (flatN (kidsOf e)).length (by omega) (by omega) (by show (flatR (some ⟨hh, e⟩)).length ≤ _; omega) (by rw [hq]; rfl) w hrb hA).mono ?_
    rintro e' w' ⟨t, pa, r, rfl, ht, hpa, hne, hTr, hPl, hA', hT⟩
    have hGo : ∀ x, x ≠ pa → (fun x => if x = pa then some (⟨pageOf e, hh + 1, none⟩ : Pl) else none) x = none := fun x hx => if_neg hx
    have hGs : (fun x => if x = pa then some (⟨pageOf e, hh + 1, none⟩ : Pl) else none) pa = some ⟨pageOf e, hh + 1, none⟩ := if_pos rfl
    have hGx : ∀ x, (fun x => if x = pa then some (⟨pageOf e, hh + 1, none⟩ : Pl) else none) x ≠ none → x = pa := fun x hx => Classical.byContradiction fun hc => hx (hGo x hc)
    refine ⟨t, r, _, (fun x => if x = pa then some (⟨pageOf e, hh + 1, none⟩ : Pl) else none), rfl, hmk t r _ _ w' hA' hTr ht hT.size ⟨fun a P hP => ?_, fun _ h => h.elim, fun _ h => h.elim⟩ (fun x hx => by rw [hGx x hx]; exact ⟨hpa, hne⟩) ?_ rfl rfl rfl rfl, ht, fun x hx => by rw [hGx x hx]; exact hpa, hT⟩
    · by_cases ha : a = pa
      · subst ha
        obtain rfl := Option.some.inj (hGs.symm.trans hP)
        exact hPl
      · have h9 := (hGo a ha).symm.trans hP
        cases h9
    · exact ⟨⟨_, hGs, rfl⟩, Means.of ⟨pageOf e, hh + 1, none⟩ hGs rfl (fun _ => hod) (fun _ => hod.ne) (fun nd hnd => by cases hnd)⟩

end Go.Proofs.YthehkckdecckhaaGreatDoor

namespace Go.Proofs.YthehkckdecckhaaGreatDoor
open Go.RowKit Go.Maps

/-- Others have more blocks. -/
def More (O : Nat → Prop) (w w' : World) : Nat → Prop := fun x => O x ∨ (w.heap.size ≤ x ∧ x < w'.heap.size)
theorem TG.more {w w' : World} {O : Nat → Prop} {t p b m sm rb : Nat} {s : St} {q : Pg} {Dn S : Stt} {D : Dk} {G : Gh} {Rw : Nat → Prop} {ds : List Nat} {rd rt : Root?} (h : TG w O t p b m sm rb s q Dn S D G Rw ds rd rt) (hT : Turn [] w w') : TG w' (More O w w') t p b m sm rb s q Dn S D G Rw ds rd rt := by
  have hq := h.quiet hT
  have hlt := h.td.tm.lts
  have hG : ∀ x, (G x ≠ none ∨ Rw x) → x < w.heap.size := fun x hx => hx.elim h.td.tm.mem.lt (h.td.tm.mem.rows x)
  refine { hq with td := ⟨{ hq.td.tm with own := fun x hx => ⟨(hq.td.tm.own x hx).1, fun ho => ?_⟩, no := fun x hx ho => ?_, ob := fun x ho => ?_ }, hq.td.drop, fun g hg => ⟨(hq.td.far g hg).1, fun ho => ?_, (hq.td.far g hg).2.2⟩⟩ }
  · rcases ho with ho | ho
    · exact (hq.td.tm.own x hx).2 ho
    · have := hG x hx
      omega
  · rcases ho with ho | ho
    · exact hq.td.tm.no x hx ho
    · have := hlt x hx
      omega
  · rcases ho with ho | ho
    · exact hq.td.tm.ob x ho
    · exact ho.2
  · rcases ho with ho | ho
    · exact (hq.td.far g hg).2.1 ho
    · have := (h.td.drop.lt g hg).2
      omega
/-- Others' blocks turn. -/
theorem TG.others {X : List Nat} {w w' : World} {O : Nat → Prop} {t p b m sm rb : Nat} {s : St} {q : Pg} {Dn S : Stt} {D : Dk} {G : Gh} {Rw : Nat → Prop} {ds : List Nat} {rd rt : Root?} (h : TG w O t p b m sm rb s q Dn S D G Rw ds rd rt) (hT : Turn X w w') (hX : ∀ x ∈ X, x ∉ [1, t, p, b, m, sm, rb] ∧ G x = none ∧ ¬ Rw x ∧ S.dropped.ownBlock ≠ some x) : TG w' O t p b m sm rb s q Dn S D G Rw ds rd rt :=
  ⟨⟨h.td.tm.other hT (fun x hx => ⟨(hX x hx).1, (hX x hx).2.1, (hX x hx).2.2.1⟩), own_turn h.td.drop hT (fun g hg hm => (hX g hm).2.2.2 hg), h.td.far⟩, h.done, h.now, h.okd, h.ok, h.dkeys, h.dch, h.dfr, h.ddr, h.keys, h.fresh, h.pages, h.nodup, h.disk, h.sl, h.qu, h.qs, h.qK, h.root⟩

/-- A row of pairs that is others'. -/
structure RowO (w : World) (O : Nat → Prop) (a : Option Addr) (l : List Kv) : Prop where
  kv : KVsAt w a l
  own : ∀ x, l ≠ [] → a = some x → O x.block ∧ x.block ≠ 1
theorem RowO.keep {w w' : World} {O : Nat → Prop} {a : Option Addr} {l : List Kv} (h : RowO w O a l) (hK : KeepO O w w') : RowO w' O a l := by
  obtain ⟨X, hT, hX⟩ := hK
  exact ⟨h.kv.turn hT fun x hl ha hm => (hX _ hm).1 (h.own x hl ha).1, h.own⟩
theorem RowO.more {w w' : World} {O O' : Nat → Prop} {a : Option Addr} {l : List Kv} (h : RowO w O a l) (hT : Turn [] w w') (hO : ∀ x, O x → O' x) : RowO w' O' a l :=
  ⟨h.kv.turn0 hT, fun x hl ha => ⟨hO _ (h.own x hl ha).1, (h.own x hl ha).2⟩⟩
theorem RowO.nil (w : World) (O : Nat → Prop) (a : Option Addr) : RowO w O a [] := ⟨.inl rfl, fun _ h => absurd rfl h⟩
/-- A row of the call's own, as others'. -/
theorem RowO.new {w w' : World} {O : Nat → Prop} {v : Value} {l : List Kv} (hs : 1 < w.heap.size) (h : w'.ownsRow w.heap.size 42 2 v l.length (flat (kvCells l))) : ∃ a c, v = .slice a l.length c ∧ RowO w' (More O w w') a l := by
  obtain ⟨a, c, hv, hn, _, hpr, hbk⟩ := own_pairs h
  rw [← hn] at hv
  refine ⟨a, c, hv, hpr.kvs, fun x _ ha => ?_⟩
  obtain ⟨h1, h2⟩ := hbk x ha
  exact ⟨.inr ⟨h1, h2⟩, by omega⟩

/-- Left. -/
theorem tg_left {w : World} {O : Nat → Prop} {t p b m sm rb : Nat} {s : St} {q : Pg} {Dn S : Stt} {D : Dk} {G : Gh} {Rw : Nat → Prop} {ds : List Nat} {rd rt : Root?} (h : TG w O t p b m sm rb s q Dn S D G Rw ds rd rt) (hk : (flatR rt).length ≤ 100000) :
    Calls Tryz.prog 31 #[.pointer (some ⟨t, 0, none⟩)] w fun e w' => e = .returned (.int .i64 ((q.left s.n : Nat) - (S.fresh : Nat) : Int)) ∧ TG w' O t p b m sm rb s { q with rd := true } Dn S D G Rw ds rd rt ∧ KeepO O w w' := by
  have hp := h.ok.pages
  have hc := count_le (pagesR rt)
  refine (tleft_any t p b m sm rb s q Dn S h.td.tm.sd h.td.tm.off.p (by rw [h.fresh]; omega) w h.td.tm.pa h.td.tm.tr).mono ?_
  rintro e w' ⟨rfl, hA, hT⟩
  exact ⟨rfl, h.ask true hA hT⟩

/-- Height. -/
theorem tg_height {w : World} {O : Nat → Prop} {t p b m sm rb : Nat} {s : St} {q : Pg} {Dn S : Stt} {D : Dk} {G : Gh} {Rw : Nat → Prop} {ds : List Nat} {rd rt : Root?} (h : TG w O t p b m sm rb s q Dn S D G Rw ds rd rt) :
    Calls Tryz.prog 28 #[.pointer (some ⟨t, 0, none⟩)] w fun e w' => e = .returned (.int .i64 (heightR rt : Nat)) ∧ w' = w := by
  cases rt with
  | none => exact height_nil t p Dn S (rtat_none h.now) w h.td.tm.tr
  | some x =>
    obtain ⟨hh, e⟩ := x
    obtain ⟨a, P, hro, hP, _, hm⟩ := rtat_some h.now
    obtain ⟨P', h1, hlv, _⟩ := hm.out
    obtain rfl : P = P' := by rw [hP] at h1; exact Option.some.inj h1
    refine height_some t p a (hh + 1) Dn S hro w h.td.tm.tr ?_
    have := h.td.tm.mem.at_ a P hP
    rw [← hlv]
    unfold PlOk at this
    split at this
    · exact this.c1
    · obtain ⟨_, _, _, _, hp, _⟩ := this
      exact hp.c1

/-- A tree on a new disk. -/
theorem tg_of_new {w w' : World} {t p b m sm rb N : Nat} {r : Bool} (_hs0 : 1 < w.heap.size) (h1 : w.heap.size ≤ t) (h2 : w.heap.size ≤ p) (h3 : w.heap.size ≤ b) (h4 : w.heap.size ≤ m) (h5 : w.heap.size ≤ sm) (h6 : w.heap.size ≤ rb) (h7 : rb < w'.heap.size) (hO : Off t p b m sm rb) (hTr : TreeAt w' t p ⟨none, 0, false, 0, .slice none 0 0⟩ ⟨none, 0, false, 0, .slice none 0 0⟩) (hA : PAt w' p b m sm rb (St.new N) (noPages r)) (hT : Turn [] w w') : TG w' (fun x => x < w.heap.size ∧ x ≠ 1) t p b m sm rb (St.new N) (noPages r) ⟨none, 0, false, 0, .slice none 0 0⟩ ⟨none, 0, false, 0, .slice none 0 0⟩ (fun _ => none) (fun _ => none) (fun _ => False) [] none none := by
  refine ⟨⟨⟨hA, hTr, hO, h7, rfl, rfl, ⟨(fun a P hP => by cases hP), fun _ _ => rfl, fun _ h => False.elim h⟩, ⟨fun pg h l hD => by cases hD⟩, fun x hx => hx.elim (fun h => absurd rfl h) (fun h => False.elim h), fun x hx ho => ?_, fun x hx => Nat.lt_of_lt_of_le hx.1 hT.size⟩, World.ownsRow_nil _ _ _ _, fun g hg => by cases hg⟩, trivial, trivial, (fun _ _ h => by cases h), (fun _ _ h => by cases h), rfl, rfl, rfl, rfl, rfl, rfl, List.Perm.refl _, List.nodup_nil, (fun _ _ h => by cases h), by show (-1 : Int) < 0; omega, rfl, fun _ => rfl, fun k => by show (false = true) ↔ k ∈ []; simp, rfl⟩
  have hx1 := ho.1
  have hx2 := ho.2
  simp at hx
  omega

set_option maxRecDepth 100000 in
set_option maxHeartbeats 3200000 in
/-- The tree that is on a disk. -/
theorem opened_any {w : World} {b m : Nat} {s : St} {c : Nat} {K : Nat → Bool} {D : Dk} {rd : Root?} (h : DskG w b m s c K D rd) {O : Nat → Prop} (hO : ∀ x, O x → x < w.heap.size) (hO2 : ¬ O 1 ∧ ¬ O b ∧ ¬ O m) (hk : (flatR rd).length ≤ 100000) :
    Calls Tryz.prog 25 #[.pointer (some ⟨b, 0, none⟩)] w fun e w' => ∃ t p sm rb q Dn G, e = .returned (.pointer (some ⟨t, 0, none⟩)) ∧ TG w' O t p b m sm rb s q Dn Dn D G (fun _ => False) [] rd rd ∧ (w.heap.size ≤ t ∧ w.heap.size ≤ p ∧ w.heap.size ≤ sm ∧ w.heap.size ≤ rb) ∧ (∀ x, G x ≠ none → w.heap.size ≤ x) ∧ q.c = c ∧ Turn [] w w' := by
  have HC := hide (open_any b m s c (rootB rd) K h.laid h.sd w h.disk h.tab h.pos)
  have H := hide h
  have HO := hide (show (∀ x, O x → x < w.heap.size) ∧ (¬ O 1 ∧ ¬ O b ∧ ¬ O m) ∧ (flatR rd).length ≤ 100000 from ⟨hO, hO2, hk⟩)
  clear h hO hO2 hk
  go_enter Tryz.func25, Tryz.ntmps25
  go_wp2_with fail
  refine HC.out.mono ?_
  rintro e w1 ⟨p, sm, rb, hp1, hp2, hp3, hp4, rfl, hA1, hT1⟩
  have HP : Hid (w.heap.size ≤ p ∧ w.heap.size ≤ sm ∧ w.heap.size ≤ rb) := ⟨hp1, hp2, hp3⟩
  have HTo := hide (tg_open H.out rfl hA1 HO.out.1 HO.out.2.1 HP.out hp4 hT1.size HO.out.2.2)
  have HT1 := hide hT1
  have hpl := hA1.pg.lt
  have h1s := hT1.size
  clear hA1 hT1
  go_wp2_with fail
  refine HTo.out.mono ?_
  rintro e w2 ⟨t, r, Dn, G, rfl, hTG, ht, hG, hT2⟩
  have HTG := hide hTG
  have HG := hide hG
  have HT2 := hide hT2
  clear hTG hG hT2 HTo
  go_wp2_with fail
  go_ret
  exact ⟨t, p, sm, rb, _, Dn, G, rfl, HTG.out, ⟨by omega, hp1, hp2, hp3⟩, fun x hx => Nat.le_trans h1s (HG.out x hx), rfl, HT1.out.then HT2.out (by simp; omega)⟩

end Go.Proofs.YthehkckdecckhaaGreatDoor

namespace Go.Proofs.YthehkckdecckhaaGreatDoor
open Go.RowKit Go.Maps

set_option maxRecDepth 100000 in
set_option maxHeartbeats 1600000 in
theorem lfindl_any (a : Option Addr) (cap : Nat) (l : List (ByteArray × ByteArray)) (key : ByteArray) (n : Nat) (hn : l.length = n) (hlen : n ≤ 1000) (hs : Rises (keysOf l)) (w : World) (hK : KVsAt w a l) :
    Calls Tryz.prog 19 #[.slice a n cap, .string key] w fun e w' => ∃ i : Nat, e = .returned (.int .i64 (i : Nat)) ∧ IsPos (keysOf l) key i ∧ w' = w := by
  have HK := hide hK
  have HLn := hide hn
  have HS := hide hs
  clear hK hn hs
  go_enter Tryz.func19, Tryz.ntmps19
  go_wp2_with fail
  go_loop [5] (fun i => ∃ j : Nat, j ≤ n ∧ i = .int .i64 (j : Nat) ∧ ∀ m (h : m < l.length), m < j → klt l[m].1 key) (fun i => n - (intOf i).toNat)
  case atStart => exact ⟨0, Nat.zero_le _, rfl, fun m h hm => absurd hm (by omega)⟩
  case round =>
    obtain ⟨j, hj, rfl, hb⟩ := hrel
    have HB := hide hb
    by_cases hlt : j < n
    · have hjl : j < l.length := by rw [HLn.out]; exact hlt
      obtain ⟨b, off, e, hk0, hk1⟩ := HK.out.at hjl
      subst e
      have hle := less_klt l[j].1 key
      by_cases hkl : klt l[j].1 key
      · rw [decide_eq_true hkl] at hle
        have HB' : Hid (∀ m (h : m < l.length), m < j + 1 → klt l[m].1 key) := fun m h hm => by
          by_cases e : m = j
          · subst e; exact hkl
          · exact HB.out m h (by omega)
        clear hb hkl
        generalize l[j].1 = jk at *
        clear hk1 hjl
        go_wp2_with fail
        go_round
        case rel => exact ⟨j + 1, by omega, by go_num, HB'.out⟩
        case measure => simp [intOf]; omega
      · rw [decide_eq_false hkl] at hle
        have HPos : Hid (IsPos (keysOf l) key j) := by
          refine ⟨by rw [keysOf_length]; omega, fun m hm hmj => ?_, fun m hm hjm => ?_⟩
          · rw [keysOf_length] at hm
            rw [keysOf_get hm]
            exact HB.out m hm hmj
          · rw [keysOf_length] at hm
            rw [keysOf_get hm]
            by_cases e : j = m
            · subst e; exact hkl
            · have := HS.out.get (show j < m by omega) (by rw [keysOf_length]; exact hm)
              rw [keysOf_get hjl, keysOf_get hm] at this
              exact fun h => hkl (klt_trans this h)
        clear hb hkl
        generalize l[j].1 = jk at *
        clear hk1 hjl
        go_wp2_with fail
        go_ret
        exact ⟨j, rfl, HPos.out, rfl⟩
    · obtain rfl : j = n := by omega
      have HPos : Hid (IsPos (keysOf l) key j) := by
        refine ⟨by rw [keysOf_length, HLn.out]; omega, fun m hm hmj => ?_, fun m hm hjm => ?_⟩
        · rw [keysOf_length] at hm
          rw [keysOf_get hm]
          exact HB.out m hm hmj
        · rw [keysOf_length, HLn.out] at hm
          omega
      clear hb
      go_wp2_with fail
      go_ret
      exact ⟨j, rfl, HPos.out, rfl⟩

end Go.Proofs.YthehkckdecckhaaGreatDoor

namespace Go.Proofs.YthehkckdecckhaaGreatDoor
open Go.RowKit Go.Maps

set_option maxRecDepth 100000 in
set_option maxHeartbeats 1600000 in
/-- Del of a key: the row without it, in memory of the call's own. -/
theorem ldelete_any (a : Option Addr) (cap : Nat) (l : List (ByteArray × ByteArray)) (key : ByteArray) (hlen : l.length ≤ 1000) (w : World) (hK : KVsAt w a l) :
    Calls Tryz.prog 17 #[.slice a l.length cap, .string key] w fun e w' => ∃ r, e = .returned r ∧ w'.ownsRow w.heap.size 42 2 r (l.filter fun x => !decide (x.1 = key)).length (flat (kvCells (l.filter fun x => !decide (x.1 = key)))) ∧ Turn [] w w' := by
  have HK := hide hK
  obtain ⟨n, HLn⟩ : ∃ n, Hid (l.length = n) := ⟨_, rfl⟩
  rw [HLn.out] at hlen ⊢
  have HFl : Hid (∀ j (h : j < l.length), (l.take (j + 1)).filter (fun x => !decide (x.1 = key)) = (l.take j).filter (fun x => !decide (x.1 = key)) ++ if l[j].1 = key then [] else [(l[j].1, l[j].2)]) := fun j h => by
    rw [List.take_succ_eq_append_getElem h, List.filter_append]
    congr 1
    by_cases e : l[j].1 = key <;> simp [e]
  have HFn : Hid (∀ j, ((l.take j).filter (fun x => !decide (x.1 = key))).length ≤ n) := fun j => by
    have h1 := List.length_filter_le (fun x : ByteArray × ByteArray => !decide (x.1 = key)) (l.take j)
    have h2 : (l.take j).length ≤ l.length := by rw [List.length_take]; omega
    rw [HLn.out] at h2
    omega
  clear hK
  go_enter Tryz.func17, Tryz.ntmps17
  go_wp2_with fail
  go_loopw [5, 6] (fun r i wr => ∃ j : Nat, j ≤ n ∧ i = .int .i64 (j : Nat) ∧ wr.ownsRow w.heap.size 42 2 r ((l.take j).filter fun x => !decide (x.1 = key)).length (flat (kvCells ((l.take j).filter fun x => !decide (x.1 = key)))) ∧ Turn [] w wr) (fun _ i _ => n - (intOf i).toNat)
  case atStart => exact ⟨0, Nat.zero_le _, rfl, World.ownsRow_nil _ _ _ _, Turn.refl _ _⟩
  case round =>
    obtain ⟨j, hj, rfl, hO, hT⟩ := hrel
    by_cases hlt : j < n
    · have hjl : j < l.length := by rw [HLn.out]; exact hlt
      obtain ⟨b, off, e, hk0, hk1⟩ := (HK.out.turn0 hT).at hjl
      subst e
      have HE := hide (HFl.out j hjl)
      have HO := hide hO
      have HT := hide hT
      have hbd := HFn.out j
      have hsz := hT.size
      have heq := eq_str l[j].1 key
      have HP : Hid (PairsAt (wr.alloc (.cells #[.string l[j].1, .string l[j].2] 42)) (some ⟨wr.heap.size, 0, none⟩) (kvCells [(l[j].1, l[j].2)])) := by
        refine (KVsAt.pairs (l := [(l[j].1, l[j].2)]) (.inr ⟨wr.heap.size, 0, rfl, fun i hi => ?_⟩) :)
        have : i = 0 := by simpa using hi
        subst this
        exact ⟨World.cell?_alloc_at _ _ _ _ rfl, World.cell?_alloc_at _ _ _ _ rfl⟩
      clear hO hT
      generalize (l.take j).filter (fun x => !decide (x.1 = key)) = xs at *
      generalize l[j].1 = jk at *
      generalize l[j].2 = jv at *
      clear hjl
      by_cases hk : jk = key
      · rw [decide_eq_true hk] at heq
        have HE' : Hid ((l.take (j + 1)).filter (fun x => !decide (x.1 = key)) = xs) := by
          show _ = _
          rw [HE.out, if_pos hk, List.append_nil]
        clear HE hk
        go_wp2_with fail
        go_roundw
        case rel => exact ⟨j + 1, by omega, by go_num, by rw [HE'.out]; exact HO.out, HT.out⟩
        case measure => simp [intOf]; omega
      · rw [decide_eq_false hk] at heq
        have HE' : Hid ((l.take (j + 1)).filter (fun x => !decide (x.1 = key)) = xs ++ [(jk, jv)]) := by
          show _ = _
          rw [HE.out, if_neg hk]
        have HOa := hide (own_turn HO.out ((Turn.refl [] wr).alloc (.cells #[.string jk, .string jv] 42)) (by simp))
        have HTa := hide (HT.out.alloc (.cells #[.string jk, .string jv] 42))
        clear HE hk
        go_wp2_with (at_builtin; refine append_pairsT 28 Tryz.underlying28 rfl _ _ rfl w.heap.size u5 xs.length (kvCells xs) rfl HOa.out (some ⟨wr.heap.size, 0, none⟩) 1 1 (kvCells [(jk, jv)]) rfl rfl (by simp) HP.out (kv_one _) (by omega) (by simp; omega) ?_; intro v' w3 hown3 hgrow3 _; have HO3 := hide hown3; have HG3 := hide hgrow3; clear hown3 hgrow3)
        go_roundw
        case rel =>
          refine ⟨j + 1, by omega, by go_num, ?_, HTa.out.grown HG3.out (fun g hg => .inr (HOa.out.lt g hg).1)⟩
          rw [HE'.out, List.length_append, kv_append]
          exact HO3.out
        case measure => simp [intOf]; omega
    · obtain rfl : j = n := by omega
      have HO := hide hO
      have HT := hide hT
      obtain ⟨ra, rc, rfl⟩ := own_form hO
      clear hO hT
      go_wp2_with fail
      go_ret
      have h := HO.out
      rw [← HLn.out, List.take_length] at h
      rw [← HLn.out, List.take_length]
      exact ⟨_, rfl, h, HT.out⟩

end Go.Proofs.YthehkckdecckhaaGreatDoor

namespace Go.Proofs.YthehkckdecckhaaGreatDoor
open Go.RowKit Go.Maps

/-- The law's Del. -/
def lawDel (l : List (ByteArray × ByteArray)) (k : ByteArray) : List (ByteArray × ByteArray) := l.filter fun x => !decide (x.1 = k)


/-- A row of pairs of the call's own, as a slice with room. -/
theorem own_room {w : World} {base : Nat} {v : Value} {n : Nat} {l : List (Value × Value)} (h : w.ownsRow base 42 2 v n (flat l)) : ∃ a cap, v = .slice a n cap ∧ n = l.length ∧ n ≤ cap ∧ (a = none → cap = 0) ∧ PairsAt w a l ∧ ∀ x, a = some x → base ≤ x.block ∧ x.block < w.heap.size := by
  obtain ⟨a, cap, rfl, hn, h1, h2, h3⟩ := own_pairs h
  refine ⟨a, cap, by rw [hn], hn, ?_, h1, h2, h3⟩
  obtain ⟨_, ⟨e, h0⟩ | ⟨g, cap', cur, e, _, _, hnc, _⟩⟩ := h
  · injection e with e1 e2 e3
    omega
  · injection e with e1 e2 e3
    omega
theorem own_base {w : World} {b b' e size n : Nat} {v : Value} {xs : List Value} (h : w.ownsRow b e size v n xs) (hb : b' ≤ b) : w.ownsRow b' e size v n xs := by
  obtain ⟨hl, h | ⟨g, cap, cur, e1, h1, rest⟩⟩ := h
  · exact ⟨hl, .inl h⟩
  · exact ⟨hl, .inr ⟨g, cap, cur, e1, Nat.le_trans hb h1, rest⟩⟩

/-- Where pairs lie that are cut off behind the k-th. -/
def hiP (a : Option Addr) (c k : Nat) : Option Addr := if c = k then a else a.map (·.add (k * 2))
set_option maxRecDepth 100000 in
theorem pslice_lo (a : Option Addr) (n c k : Nat) (w : World) (hk : k ≤ c) : (Instr.slice 28 (.slice a n c) none (some (.int .i64 (k : Nat))) none).run Tryz.prog w = .ok (.slice a k c) w := by
  rw [run_slice_h w 28 a n c (by kernel_rfl) .i64 k (by omega) (by omega)]
  have hs : (sizeOf (Tryz.prog.elem 28)).run Tryz.prog w = .ok 2 w := by go_simp
  rw [hs]
  simp only [Result.andThen, sliced, Int.toNat_natCast, Nat.zero_mul, Nat.sub_zero]
  congr 2
  split
  · rfl
  · cases a <;> rfl
set_option maxRecDepth 100000 in
theorem pslice_hi (a : Option Addr) (n c k : Nat) (w : World) (hk : k ≤ n) : (Instr.slice 28 (.slice a n c) (some (.int .i64 (k : Nat))) none none).run Tryz.prog w = .ok (.slice (hiP a c k) (n - k) (c - k)) w := by
  rw [run_slice_l w 28 a n c (by kernel_rfl) .i64 k (by omega) (by omega)]
  have hs : (sizeOf (Tryz.prog.elem 28)).run Tryz.prog w = .ok 2 w := by go_simp
  rw [hs]
  simp only [Result.andThen, sliced, Int.toNat_natCast, hiP]
theorem hiP_none {a : Option Addr} {c k : Nat} (h : a = none → c = 0) (e : hiP a c k = none) : c - k = 0 := by
  cases a with
  | none => rw [h rfl]; omega
  | some x =>
    unfold hiP at e
    split at e
    · cases e
    · cases e
theorem PairsAt.hi {w : World} {a : Option Addr} {l : List (Value × Value)} (h : PairsAt w a l) (c k : Nat) (hc : l.length ≤ c) : PairsAt w (hiP a c k) (l.drop k) := by
  unfold hiP
  split
  · exact .inl (List.drop_of_length_le (by omega))
  · rcases h with rfl | ⟨b, off, rfl, h⟩
    · exact .inl (by simp)
    · have hd := PairsAt.drop (.inr ⟨b, off, rfl, h⟩) k
      rw [Option.map_some]
      unfold Addr.add
      split
      · rename_i h0
        rw [h0] at hd
        exact hd
      · exact hd

theorem one_pair (w : World) (key value : ByteArray) : PairsAt (w.alloc (.cells #[.string key, .string value] 42)) (some ⟨w.heap.size, 0, none⟩) (kvCells [(key, value)]) := by
  refine (KVsAt.pairs (l := [(key, value)]) (.inr ⟨w.heap.size, 0, rfl, fun i hi => ?_⟩) :)
  have : i = 0 := by simpa using hi
  subst this
  exact ⟨World.cell?_alloc_at _ _ _ _ rfl, World.cell?_alloc_at _ _ _ _ rfl⟩

set_option maxRecDepth 100000 in
set_option maxHeartbeats 3200000 in
/-- The law's Put: the row without the key, cut where the key belongs, the pair between. -/
theorem lputl_any (a : Option Addr) (cap : Nat) (l : List (ByteArray × ByteArray)) (key value : ByteArray) (hlen : l.length ≤ 900) (hs : Rises (keysOf l)) (w : World) (hK : KVsAt w a l) :
    Calls Tryz.prog 14 #[.slice a l.length cap, .string key, .string value] w fun e w' => ∃ r i, e = .returned r ∧ IsPos (keysOf (lawDel l key)) key i ∧ w'.ownsRow w.heap.size 42 2 r ((lawDel l key).take i ++ [(key, value)] ++ (lawDel l key).drop i).length (flat (kvCells ((lawDel l key).take i ++ [(key, value)] ++ (lawDel l key).drop i))) ∧ Turn [] w w' := by
  have hR : Rises (keysOf (lawDel l key)) := by
    have : (keysOf (lawDel l key)).Sublist (keysOf l) := (List.filter_sublist (l := l)).map Prod.fst
    exact List.Pairwise.sublist this hs
  have hll : (lawDel l key).length ≤ l.length := List.length_filter_le _ _
  have HDel := hide (ldelete_any a cap l key (by omega) w hK)
  obtain ⟨K, hKn⟩ : ∃ K, K = l.length := ⟨_, rfl⟩
  rw [← hKn] at hlen hll HDel ⊢
  rw [show (l.filter fun x => !decide (x.1 = key)) = lawDel l key from rfl] at HDel
  generalize hd : lawDel l key = d at *
  clear hd hKn hs hK
  go_enter Tryz.func14, Tryz.ntmps14
  go_wp2_with fail
  refine HDel.out.mono ?_
  rintro e w1 ⟨v1, rfl, hO1, hT1⟩
  obtain ⟨da, dc, rfl, -, hdc, hdn, hdp, hdb⟩ := own_room hO1
  have HFind := hide (lfindl_any da dc d key d.length rfl (by omega) hR w1 hdp.kvs)
  have HT1 := hide hT1
  have HP1 := hide hdp
  obtain ⟨N, hN⟩ : ∃ N, N = d.length := ⟨_, rfl⟩
  rw [← hN] at hll hdc HFind ⊢
  have HNd := hide hN
  clear hO1 hdb hdp hT1 hR hN
  go_wp2_with fail
  refine HFind.out.mono ?_
  rintro e w1' ⟨i, rfl, hi, ew⟩
  obtain rfl : w1 = w1' := ew.symm
  have hin : i ≤ N := by
    have := hi.1
    rw [keysOf_length, ← HNd.out] at this
    exact this
  have HI := hide hi
  have hlo := fun u => pslice_lo da N dc i u (by omega)
  have hhi := fun u => pslice_hi da N dc i u (by omega)
  have HC : Hid ((kvCells d).length ≤ dc) := by show _ ≤ _; rw [kvCells_length, ← HNd.out]; exact hdc
  have HZ := hide (hiP_none (k := i) hdn)
  have HDn := hide hdn
  clear hi hdn
  go_wp2_with (first
    | (at_builtin; refine append_pairsT 28 Tryz.underlying28 rfl _ _ rfl w1.heap.size (.slice none 0 0) 0 [] rfl (World.ownsRow_nil _ _ _ _) da i dc (kvCells (d.take i)) rfl (by rw [kvCells_length, List.length_take, ← HNd.out]; omega) HDn.out (by rw [kv_take]; exact HP1.out.take i) (kv_one _) (by omega) (Nat.le_refl _) ?_
       intro v2 w2 hown2 hgrow2 _
       try simp only [Nat.zero_add, List.nil_append] at hown2
       obtain ⟨oa, oc, rfl, -, hoc, hon, -, hob⟩ := own_room hown2
       have hT2 : Turn [] w1 w2 := (Turn.refl [] w1).grown hgrow2 (by intro k hk; cases hk)
       have HO2 := hide (own_turn hown2 ((Turn.refl [] w2).alloc (.cells #[.string key, .string value] 42)) (by simp))
       have HP := hide (one_pair w2 key value)
       have HS2 := hide hT2.size
       have HT2 := hide (hT2.alloc (.cells #[.string key, .string value] 42))
       have HB2 : Hid (∀ k, (Value.slice oa i oc).ownBlock = some k → w1.heap.size ≤ k) := fun k hk => by
         cases oa with
         | none => cases hk
         | some x =>
           obtain rfl := Option.some.inj hk
           exact (hob x rfl).1
       clear hown2 hgrow2 hoc hon hob hT2)
    | (at_builtin; refine append_pairsT 28 Tryz.underlying28 rfl _ _ rfl w1.heap.size (.slice oa i oc) i (kvCells (d.take i)) rfl HO2.out (some ⟨w2.heap.size, 0, none⟩) 1 1 (kvCells [(key, value)]) rfl rfl (by simp) HP.out (kv_one _) (by omega) (by have := HS2.out; simp; omega) ?_
       intro v3 w3 hown3 hgrow3 _
       obtain ⟨pa, pc, rfl, -, hpc, hpn, -, hpb⟩ := own_room hown3
       have hT3 : Turn [] w1 w3 := HT2.out.grown hgrow3 (fun k hk => .inr (HB2.out k hk))
       have HO3 := hide hown3
       have HT3 := hide hT3
       have HS3 := hide hT3.size
       have HP3 := hide ((HP1.out.turn0 hT3).hi dc i HC.out)
       have HB3 : Hid (∀ k, (Value.slice pa (i + 1) pc).ownBlock = some k → w1.heap.size ≤ k) := fun k hk => by
         cases pa with
         | none => cases hk
         | some x =>
           obtain rfl := Option.some.inj hk
           exact (hpb x rfl).1
       clear hown3 hgrow3 hpc hpn hpb hT3)
    | (at_builtin; refine append_pairsT 28 Tryz.underlying28 rfl _ _ rfl w1.heap.size (.slice pa (i + 1) pc) (i + 1) (kvCells (d.take i) ++ kvCells [(key, value)]) rfl HO3.out (hiP da dc i) (N - i) (dc - i) (kvCells (d.drop i)) rfl (by rw [kvCells_length, List.length_drop, ← HNd.out]) HZ.out (by rw [kv_drop]; exact HP3.out) (kv_one _) (by omega) HS3.out ?_
       intro v4 w4 hown4 hgrow4 _
       obtain ⟨qa, qc, rfl, -⟩ := own_room hown4
       have HO4 := hide hown4
       have HT4 := hide (HT3.out.grown hgrow4 (fun k hk => .inr (HB3.out k hk)))
       clear hown4 hgrow4))
  go_ret
  refine ⟨_, i, rfl, HI.out, ?_, HT1.out.trans HT4.out⟩
  have h := own_base HO4.out HT1.out.size
  rw [List.length_append, List.length_append, List.length_take, List.length_drop, ← HNd.out, kv_append, kv_append]
  have e : min i N + [(key, value)].length + (N - i) = i + 1 + (N - i) := by rw [Nat.min_eq_left hin]; rfl
  rw [e]
  exact h

end Go.Proofs.YthehkckdecckhaaGreatDoor
