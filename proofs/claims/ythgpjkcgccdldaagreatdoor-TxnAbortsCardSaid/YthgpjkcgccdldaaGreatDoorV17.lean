/-
  Write of package disk, walked.
-/
import Derived.Test.YthgpjkcgccdldaaGreatDoorV15
import Derived.RegionTactic
import Derived.BigRegion

namespace Go.Proofs.YthgpjkcgccdldaaGreatDoor
open Go.RowKit Go.Maps

set_option maxRecDepth 100000 in
theorem isMap_of {w : World} {m q : Nat} {D : DataW Value} (h : w.ownsMap Tryz.prog 3 anyElem m q D) : IsMap D := by
  obtain ⟨es, clock, _, _, _, rfl⟩ := h
  exact ⟨_, rfl⟩

set_option maxRecDepth 100000 in
theorem isKey (j : Nat) : WideAt.IsKeyLit (.int .i64 (j : Int)) := by
  unfold WideAt.IsKeyLit
  trivial

set_option maxRecDepth 100000 in
/-- A write that is done. -/
theorem DiskAt.wrote {w w2 : World} {b m : Nat} {s : St} (h : DiskAt w b m s) (j : Nat) (l : List Nat) (hd : s.dead = false) (ho : s.out j = false) (hl : l.length = 512) (h0 : s.left ≠ 0)
    {D : DataW Value} {q : Nat} (hq : q ≤ s.k) (hmap : IsMap D) (hat : ∀ i : Nat, i < s.n → D.atKey (.int .i64 (i : Int)) (.held (blockVal zeros)) = .held (blockVal (s.f i)))
    (hM : w2.ownsMap Tryz.prog 3 anyElem m (q + 1) (D.put (.int .i64 (j : Int)) (.held (blockVal l)))) (hg : w.grownBy w2 (some m)) :
    DiskAt (w2.setCell ⟨b, 2, none⟩ (.int .i64 ((s.k + 1 : Nat) : Int))) b m (s.write j l) := by
  have hb : w2.heap[b]? = w.heap[b]? := hg.block b h.lt (fun e => h.ne (Option.some.inj e))
  have hc : ∀ o, w2.cell? ⟨b, o, none⟩ = w.cell? ⟨b, o, none⟩ := fun o => World.cell?_of_block (a := ⟨b, o, none⟩) hb
  have ho2 : ∀ o, o ≠ 2 → (w2.setCell ⟨b, 2, none⟩ (.int .i64 ((s.k + 1 : Nat) : Int))).cell? ⟨b, o, none⟩ = w.cell? ⟨b, o, none⟩ := fun o h1 => (World.cell?_setCell_other _ _ _ _ (off_ne h1.symm)).trans (hc o)
  have e : s.write j l = { s with k := s.k + 1, left := if s.left < 0 then s.left else s.left - 1, f := put s.f j l } := by
    unfold St.write
    simp [hd, ho, hl, h0]
  obtain ⟨goes, k0, h4, h5, hk, hgo, hcase⟩ := h.cut
  rw [e]
  refine ⟨(ho2 0 (by omega)).trans h.c0, (ho2 1 (by omega)).trans h.c1, World.cell?_setCell_same _ _ _ ((hc 2).trans h.c2), (ho2 3 (by omega)).trans h.c3, ⟨goes, k0, (ho2 4 (by omega)).trans h4, (ho2 5 (by omega)).trans h5, ?_, hgo, ?_⟩, ?_, h.ne, ⟨_, q + 1, ?_, DiskAt.setMap h.ne hM, ?_⟩⟩
  · show k0 ≤ s.k + 1
    omega
  · show goes = -1 ∧ (if s.left < 0 then s.left else s.left - 1) = -1 ∨ 0 ≤ goes ∧ (if s.left < 0 then s.left else s.left - 1) = goes - (((s.k + 1 : Nat) : Int) - k0) ∧ 0 ≤ (if s.left < 0 then s.left else s.left - 1)
    split <;> omega
  · intro o
    rw [World.frozen?_setCell]
    exact (World.frozen?_of_block (a := ⟨b, o, none⟩) hb).trans (h.fz o)
  · show q + 1 ≤ s.k + 1
    omega
  · intro i hi
    show _ = DataW.held (blockVal (put s.f j l i))
    by_cases hij : i = j
    · subst hij
      rw [atKey_put_same hmap (isKey i)]
      unfold put
      rw [if_pos rfl]
    · rw [atKey_put_other (by intro e; exact hij (by have := (Lit.int.inj e).2; omega))]
      unfold put
      rw [if_neg hij]
      exact hat i hi

set_option maxRecDepth 100000 in
theorem load_block {w : World} {b off : Nat} {l : List Nat} (hl : l.length = 512) (h : BytesAt w (some ⟨b, off, none⟩) l) : (loadCellsFrom ⟨b, off, none⟩ 0 512 #[]).run Tryz.prog w = .ok (bcells l) w := by
  have := run_loadCells_list (P := Tryz.prog) w ⟨b, off, none⟩ (l.map byteCell) (src_bytes h)
  rw [List.length_map, hl] at this
  exact this

set_option maxRecDepth 100000 in
theorem array_at (x : Addr) (cap : Nat) (w : World) : (Instr.arrayAt 185 (.slice (some x) 512 cap)).run Tryz.prog w = .ok (.pointer (some x)) w := by
  unfold Instr.arrayAt
  rw [Sem.run_bind, run_underlying Tryz.underlying185 w]
  rfl

set_option maxRecDepth 100000 in
theorem size93 (w : World) : Sem.run Tryz.prog (sizeOf 185) w = .ok 512 w := by kernel_rfl

set_option maxRecDepth 100000 in
set_option maxHeartbeats 800000 in
theorem write_any (b m : Nat) (s : St) (G : s.Good) (i : Int) (a : Option Addr) (cap : Nat) (l : List Nat) (_hl : l.length ≤ maxLen) (w : World) (hD : DiskAt w b m s) (hb : BytesAt w a l) :
    Calls Tryz.prog 195 #[.pointer (some ⟨b, 0, none⟩), .int .i64 i, .slice a l.length cap] w fun e w' =>
      e = .returned (.int .i64 (s.writeErr i l.length)) ∧ DiskAt w' b m (s.write i l) ∧ Turn [b, m] w w' := by
  have hnot : ∀ (x : Bool) (w : World), (Op.unary .not (.bool x)).run Tryz.prog w = .ok (.bool (!x)) w := fun _ _ => rfl
  have h3 := hD.c3
  have HD := hide hD
  have HB := hide hb
  clear hD hb
  cases hd : s.dead with
  | true =>
    rw [hd] at h3
    have HE : Hid (s.writeErr i l.length = 12 ∧ s.write i l = s) := by show s.writeErr i l.length = 12 ∧ s.write i l = s; simp [St.writeErr, St.write, hd]
    clear hd
    go_enter Tryz.func195, Tryz.ntmps195
    go_wp2
    go_ret
    exact ⟨by rw [HE.out.1]; rfl, by rw [HE.out.2]; exact HD.out, Turn.refl _ _⟩
  | false =>
    rw [hd] at h3
    cases ho : s.out i with
    | true =>
      have HE : Hid (s.writeErr i l.length = 1 ∧ s.write i l = s) := by show s.writeErr i l.length = 1 ∧ s.write i l = s; simp [St.writeErr, St.write, hd, ho]
      have HO := hide ho
      clear hd ho
      go_enter Tryz.func195, Tryz.ntmps195
      go_wp2_with fail
      refine (has_any b m s i w HD.out).mono ?_
      rintro e w1 ⟨rfl, rfl⟩
      rw [HO.out]
      go_wp2_with fail
      go_ret
      exact ⟨by rw [HE.out.1]; rfl, by rw [HE.out.2]; exact HD.out, Turn.refl _ _⟩
    | false =>
      have HO := hide ho
      by_cases hlen : l.length = 512
      · have hi : 0 ≤ i ∧ i < s.n := by
          unfold St.out at ho
          simp at ho
          omega
        obtain ⟨j, rfl⟩ := Int.eq_ofNat_of_zero_le hi.1
        have HL := hide hlen
        rw [hlen]
        by_cases h0 : s.left = 0
        · have HE : Hid (s.writeErr j 512 = 12 ∧ s.write j l = { s with dead := true } ∧ s.isToGo = true) := by
            show s.writeErr j 512 = 12 ∧ s.write j l = { s with dead := true } ∧ s.isToGo = true
            simp [St.writeErr, St.write, St.isToGo, hd, ho, hlen, h0]
          clear hd ho hlen hi h0
          go_enter Tryz.func195, Tryz.ntmps195
          go_wp2_with fail
          refine (has_any b m s j w HD.out).mono ?_
          rintro e w1 ⟨rfl, rfl⟩
          rw [HO.out]
          go_wp2_with fail
          refine (toGo_any b m s G.k1 w1 HD.out).mono ?_
          rintro e w2 ⟨rfl, hD2, hT2⟩
          rw [HE.out.2.2]
          have h32 := hD2.c3
          have f32 := hD2.fz 3
          have HD2 := hide hD2
          clear hD2
          go_wp2_with fail
          go_ret
          exact ⟨by rw [HE.out.1]; rfl, by rw [HE.out.2.1]; exact HD2.out.setDead true, (hT2.mono (by simp)).setCell (by simp) _ _⟩
        · have HE : Hid (s.writeErr j 512 = 0 ∧ s.isToGo = false) := by
            show s.writeErr j 512 = 0 ∧ s.isToGo = false
            simp [St.writeErr, St.isToGo, hd, ho, h0]
          have HH : Hid (s.dead = false ∧ s.left ≠ 0) := ⟨hd, h0⟩
          obtain ⟨b', off, rfl, hcx⟩ := HB.out.at (k := 0) (by omega)
          clear hcx
          have hj : j ≤ 9223372036854775807 := by have := G.n1; omega
          clear hd ho hlen hi h0
          go_enter Tryz.func195, Tryz.ntmps195
          go_wp2_with fail
          refine (has_any b m s j w HD.out).mono ?_
          rintro e w1 ⟨rfl, rfl⟩
          rw [HO.out]
          go_wp2_with fail
          refine (toGo_any b m s G.k1 w1 HD.out).mono ?_
          rintro e w2 ⟨rfl, hD2, hT2⟩
          rw [HE.out.2]
          obtain ⟨D, q, hq, hM, hat⟩ := hD2.map
          have hk := G.k1
          obtain ⟨w3, hrun, hown3, hg3⟩ := World.ownsMap.update (w := w2.drew) (t := 71) (e := 185) hM.drew law3 Tryz.underlying71 (by unfold maxLen; omega) (key3 hj) (show anyElem (blockVal l) = some (.held (blockVal l), []) from rfl)
          have hrun' : (Instr.mapUpdate 71 (.map (some m)) (.int .i64 (j : Nat)) (.agg (bcells l))).run Tryz.prog w2.drew = .ok () w3 := hrun
          have hb2 : BytesAt w2 (some ⟨b', off, none⟩) l := HB.out.turn hT2 (by simp)
          have harr := array_at
          obtain ⟨N, hN, hld⟩ : ∃ N : Nat, (∀ w, Sem.run Tryz.prog (sizeOf 185) w = .ok N w) ∧ (loadCellsFrom ⟨b', off, none⟩ 0 N #[]).run Tryz.prog w2.drew = .ok (bcells l) w2.drew := ⟨512, size93, load_block HL.out hb2⟩
          have h12 := hD2.c1
          have HD3 := hide (hD2.wrote j l HH.out.1 HO.out HL.out HH.out.2 hq (isMap_of hM) hat hown3 ⟨hg3.os, hg3.tape, hg3.output, hg3.size, hg3.block⟩)
          have hT3 : Turn [b, m] w1 w3 := (hT2.mono (by simp)).drew.grown hg3 (by intro k hk; left; cases hk; simp)
          have hc2 : w3.cell? ⟨b, 2, none⟩ = some (.int .i64 (s.k : Nat)) := (World.cell?_of_block (w := w2) (a := ⟨b, 2, none⟩) (hg3.block b hD2.lt (fun e => hD2.ne (Option.some.inj e)))).trans hD2.c2
          have hf2 : w3.frozen? ⟨b, 2, none⟩ = false := (World.frozen?_of_block (w := w2) (a := ⟨b, 2, none⟩) (hg3.block b hD2.lt (fun e => hD2.ne (Option.some.inj e)))).trans (hD2.fz 2)
          clear hD2 hM hat hown3 hg3 hrun hb2
          go_wp2_with fail
          go_region
          all_goals (
            go_wp2_with fail
            refine (add_any b 2 s.k (by omega) w3 hc2 hf2).mono ?_
            rintro e w4 ⟨rfl, rfl⟩
            go_wp2_with fail
            go_ret
            exact ⟨by rw [HE.out.1]; rfl, HD3.out, hT3.setCell (by simp) _ _⟩)
      · have HE : Hid (s.writeErr i l.length = 1 ∧ s.write i l = s) := by show s.writeErr i l.length = 1 ∧ s.write i l = s; simp [St.writeErr, St.write, hd, ho, hlen]
        have t1 : ((l.length : Int) != 512) = true := by rw [bne_iff_ne]; omega
        clear hd ho hlen
        go_enter Tryz.func195, Tryz.ntmps195
        go_wp2_with fail
        refine (has_any b m s i w HD.out).mono ?_
        rintro e w1 ⟨rfl, rfl⟩
        rw [HO.out]
        go_wp2_with fail
        go_ret
        exact ⟨by rw [HE.out.1]; rfl, by rw [HE.out.2]; exact HD.out, Turn.refl _ _⟩

end Go.Proofs.YthgpjkcgccdldaaGreatDoor
