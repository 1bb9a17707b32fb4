/-
  A pager's read and write, isDead, Seq, Root, walked.
-/
import Derived.Test.YthgpjkcgccdldaaGreatDoorPgr
namespace Go.Proofs.YthgpjkcgccdldaaGreatDoor
open Go.RowKit Go.Maps

/-- The blocks of a pager and of its disk are apart. -/
structure Apart (p b m sm rb : Nat) : Prop where
  pb : p ≠ b
  pm : p ≠ m
  sb : sm ≠ b
  smm : sm ≠ m
  rbb : rb ≠ b
  rbm : rb ≠ m
  sr : sm ≠ rb

def fB (s : St) (n : Nat) : Nat → Nat := fun i => (s.f n).getD i 0
set_option maxRecDepth 100000 in
theorem fB_list (s : St) (G : s.Good) (n : Nat) : bytesOf 512 (fB s n) = s.f n := by
  have := bytesOf_list (s.f n)
  rw [G.len n] at this
  exact this

set_option maxRecDepth 100000 in
set_option maxHeartbeats 400000 in
theorem addw_any (b o : Nat) (x : Int) (w : World) (hc : w.cell? ⟨b, o, none⟩ = some (.int .i64 x)) (hz : w.frozen? ⟨b, o, none⟩ = false) :
    Calls Tryz.prog 46 #[.pointer (some ⟨b, o, none⟩), .int .i64 1] w fun e w' => e = .returned (.int .i64 (IntKind.i64.wrap (x + 1))) ∧ w' = w.setCell ⟨b, o, none⟩ (.int .i64 (IntKind.i64.wrap (x + 1))) := by
  have hadd := run_call_add (P := Tryz.prog) Tryz.func73 (by kernel_rfl) (by kernel_rfl) (by kernel_rfl) .i64 (by kernel_rfl) (y := 1) (s := IntKind.i64.wrap (x + 1)) hc hz rfl
  generalize IntKind.i64.wrap (x + 1) = y at *
  go_enter Tryz.func46, Tryz.ntmps46
  go_wp2
  go_ret
  exact ⟨rfl, rfl⟩

set_option maxRecDepth 100000 in
set_option maxHeartbeats 400000 in
theorem store_any (b o : Nat) (x y : Int) (w : World) (hc : w.cell? ⟨b, o, none⟩ = some (.int .i64 x)) (hz : w.frozen? ⟨b, o, none⟩ = false) :
    Calls Tryz.prog 36 #[.pointer (some ⟨b, o, none⟩), .int .i64 y] w fun e w' => e = .returned (.tuple #[]) ∧ w' = w.setCell ⟨b, o, none⟩ (.int .i64 y) := by
  have hst := run_call_store (P := Tryz.prog) Tryz.func63 (by kernel_rfl) (by kernel_rfl) (by kernel_rfl) (by kernel_rfl) (k := .i64) (y := y) hc hz
  go_enter Tryz.func36, Tryz.ntmps36
  go_wp2
  go_end0
  exact ⟨rfl, rfl⟩

set_option maxRecDepth 100000 in
set_option maxHeartbeats 400000 in
/-- Disk.Read, of a block that there is. -/
theorem dread_ok (b m : Nat) (s : St) (G : s.Good) (hd : s.dead = false) (j : Nat) (hj : j < s.n) (w : World) (hD : DiskAt w b m s) : Calls Tryz.prog 84 #[.pointer (some ⟨b, 0, none⟩), .int .i64 (j : Nat)] w fun e w' =>
    e = .returned (.tuple #[.slice (some ⟨w.heap.size, 0, none⟩) 512 512, .int .i64 0]) ∧ RowAt w' w.heap.size 512 (fB s j) ∧ Turn [] w w' := by
  have hnot : ∀ (x : Bool) (w : World), (Op.unary .not (.bool x)).run Tryz.prog w = .ok (.bool (!x)) w := fun _ _ => rfl
  have h3 := hD.c3
  have h1 := hD.c1
  have HD := hide hD
  clear hD
  rw [hd] at h3
  have ho : s.out j = false := by unfold St.out; simp; omega
  have HO := hide ho
  have hlook := look w b m s HD.out G.n1 j (by omega)
  have hlen := G.len j
  have hz := zero93c
  have hst := run_storeCells_new (P := Tryz.prog) w 185 zcells (bcells (s.f j)) (by rw [bcells_size, hlen]; exact info93) (by rw [bcells_size, hlen]; show (bcells zeros).size = 512; rw [bcells_size, zeros_length]) (bcells_one _)
  have hsz : (bcells (s.f j)).size = 512 := by rw [bcells_size, hlen]
  have HL := hide hlen
  clear hd ho hlen hj
  go_enter Tryz.func84, Tryz.ntmps84
  go_wp2_with fail
  refine (has_any b m s j w HD.out).mono ?_
  rintro e w1 ⟨rfl, rfl⟩
  rw [HO.out]
  go_wp2_with fail
  go_ret2
  refine ⟨rfl, ?_, (Turn.refl _ _).alloc _⟩
  have hb := bytes_new w1 (s.f j) 185
  refine ⟨fun i hi => ?_, fun o => World.frozen?_alloc_at _ _ _ _ rfl, by simp⟩
  have := hb.cell0 (i := i) (by rw [HL.out]; exact hi)
  unfold fB
  rw [List.getD_eq_getElem?_getD, List.getElem?_eq_getElem (by rw [HL.out]; exact hi)]
  exact this

set_option maxRecDepth 100000 in
set_option maxHeartbeats 400000 in
theorem dread_dead (b m : Nat) (s : St) (hd : s.dead = true) (j : Int) (w : World) (hD : DiskAt w b m s) : Calls Tryz.prog 84 #[.pointer (some ⟨b, 0, none⟩), .int .i64 j] w fun e w' =>
    e = .returned (.tuple #[.slice none 0 0, .int .i64 12]) ∧ w' = w := by
  have h3 := hD.c3
  rw [hd] at h3
  clear hd hD
  go_enter Tryz.func84, Tryz.ntmps84
  go_wp2
  go_ret2
  exact ⟨rfl, rfl⟩

set_option maxRecDepth 100000 in
set_option maxHeartbeats 400000 in
theorem pread_ok (p b m sm rb N : Nat) (d l : Int) (q : Pg) (A : Apart p b m sm rb) (s : St) (G : s.Good) (hd : s.dead = false) (j : Nat) (hj : j < s.n) (w : World) (hD : DiskAt w b m s) (hP : PgAt w p b sm rb N d l q) :
    Calls Tryz.prog 58 #[.pointer (some ⟨p, 0, none⟩), .int .i64 (j : Nat)] w fun e w' =>
      e = .returned (.tuple #[.slice (some ⟨w.heap.size, 0, none⟩) 512 512, .int .i64 0]) ∧ RowAt w' w.heap.size 512 (fB s j) ∧ PgAt w' p b sm rb N d l q ∧ DiskAt w' b m s ∧ Wturn p 0 w w' ∧ (∀ o, 9 ≤ o → w'.cell? ⟨p, o, none⟩ = w.cell? ⟨p, o, none⟩) := by
  have h0 := hP.c0
  have HD := hide hD
  have HP := hide hP
  have hpl := hP.lt
  clear hD hP
  go_enter Tryz.func58, Tryz.ntmps58
  go_wp2_with fail
  refine (dread_ok b m s G hd j hj w HD.out).mono ?_
  rintro e w1 ⟨rfl, hR1, hT1⟩
  have HP1 := hide (HP.out.turn0 hT1)
  obtain ⟨x, h1⟩ := HP1.out.c1
  have hz := HP1.out.fz 1
  have HR1 := hide hR1
  have HD1 := hide (HD.out.turn hT1 (by simp) (by simp))
  clear hR1
  go_wp2_with fail
  refine (addw_any p 1 x w1 h1 hz).mono ?_
  rintro e w2 ⟨rfl, rfl⟩
  go_wp2_with fail
  go_ret2
  refine ⟨rfl, HR1.out.other (Nat.ne_of_gt hpl) _ _, HP1.out.setReads _, HD1.out.turn ((Turn.refl [p] w1).setCell (List.mem_singleton.2 rfl) _ _) (by simp; exact Ne.symm A.pb) (by simp; exact Ne.symm A.pm), ?_, ?_⟩
  · have := (Wturn.refl p 0 w1).setCell 1 (.int .i64 (IntKind.i64.wrap (x + 1))) (by omega)
    exact ⟨((hT1.mono (by simp)).trans this.turn), fun o ho => (this.out o ho).trans (hT1.cell (p := ⟨p, o, none⟩) hpl (by simp))⟩
  · intro o ho
    rw [World.cell?_setCell_other _ _ _ _ (off_ne (by omega))]
    exact hT1.cell (p := ⟨p, o, none⟩) hpl (by simp)

set_option maxRecDepth 100000 in
set_option maxHeartbeats 400000 in
theorem pread_dead (p b m sm rb N : Nat) (d l : Int) (q : Pg) (A : Apart p b m sm rb) (s : St) (hd : s.dead = true) (j : Int) (w : World) (hD : DiskAt w b m s) (hP : PgAt w p b sm rb N d l q) :
    Calls Tryz.prog 58 #[.pointer (some ⟨p, 0, none⟩), .int .i64 j] w fun e w' =>
      e = .returned (.tuple #[.slice none 0 0, .int .i64 12]) ∧ PgAt w' p b sm rb N d l { q with dead := true } ∧ DiskAt w' b m s ∧ Turn [p] w w' := by
  have h0 := hP.c0
  have h3 := hP.c3
  have f3 := hP.fz 3
  have HD := hide hD
  have HP := hide hP
  clear hD hP
  go_enter Tryz.func58, Tryz.ntmps58
  go_wp2_with fail
  refine (dread_dead b m s hd j w HD.out).mono ?_
  rintro e w1 ⟨rfl, rfl⟩
  go_wp2_with fail
  go_ret2
  exact ⟨rfl, HP.out.setDead true, HD.out.turn ((Turn.refl [p] w1).setCell (List.mem_singleton.2 rfl) _ _) (by simp; exact Ne.symm A.pb) (by simp; exact Ne.symm A.pm), (Turn.refl [p] w1).setCell (List.mem_singleton.2 rfl) _ _⟩

set_option maxRecDepth 100000 in
set_option maxHeartbeats 400000 in
theorem pwrite_any (p b m sm rb N : Nat) (d l : Int) (q : Pg) (A : Apart p b m sm rb) (s : St) (G : s.Good) (j : Int) (g : Nat) (L : List Nat) (hL : L.length = 512) (w : World) (hB : BytesAt w (some ⟨g, 0, none⟩) L) (hD : DiskAt w b m s) (hP : PgAt w p b sm rb N d l q) :
    Calls Tryz.prog 162 #[.pointer (some ⟨p, 0, none⟩), .int .i64 j, .slice (some ⟨g, 0, none⟩) 512 512] w fun e w' =>
      e = .returned (.int .i64 (s.writeErr j 512)) ∧ PgAt w' p b sm rb N d l { q with dead := if s.writeErr j 512 = 0 then q.dead else true } ∧ DiskAt w' b m (s.write j L) ∧ Turn [p, b, m] w w' ∧ (∀ o, 9 ≤ o → w'.cell? ⟨p, o, none⟩ = w.cell? ⟨p, o, none⟩) := by
  have h0 := hP.c0
  have HD := hide hD
  have HP := hide hP
  have HB := hide hB
  have hpl := hP.lt
  have hpS : p ∉ [b, m] := by simp; exact ⟨A.pb, A.pm⟩
  have hw := write_at b m s G j (some ⟨g, 0, none⟩) 512 512 L hL (by unfold maxLen; omega) w hD hB
  have HW := hide hw
  clear hD hP hB hw
  generalize hE : s.writeErr j 512 = er at *
  by_cases he : er = 0
  · subst he
    go_enter Tryz.func162, Tryz.ntmps162
    go_wp2_with fail
    refine HW.out.mono ?_
    rintro e w1 ⟨rfl, hD1, hT1⟩
    have HD1 := hide hD1
    have HP1 := hide (HP.out.turn hT1 hpS (by simp; exact ⟨A.sb, A.smm⟩) (by simp; exact ⟨A.rbb, A.rbm⟩))
    obtain ⟨x, h2⟩ := HP1.out.c2
    have hz := HP1.out.fz 2
    clear hD1
    go_wp2_with fail
    refine (addw_any p 2 x w1 h2 hz).mono ?_
    rintro e w2 ⟨rfl, rfl⟩
    go_wp2_with fail
    go_ret
    refine ⟨rfl, ?_, HD1.out.turn ((Turn.refl [p] w1).setCell (List.mem_singleton.2 rfl) _ _) (by simp; exact Ne.symm A.pb) (by simp; exact Ne.symm A.pm), (hT1.mono (by simp)).setCell (by simp) _ _, ?_⟩
    · exact HP1.out.setWrites _
    · intro o ho
      rw [World.cell?_setCell_other _ _ _ _ (off_ne (by omega))]
      exact hT1.cell (p := ⟨p, o, none⟩) hpl hpS
  · have t1 : (er != 0) = true := by rw [bne_iff_ne]; exact he
    go_enter Tryz.func162, Tryz.ntmps162
    go_wp2_with fail
    refine HW.out.mono ?_
    rintro e w1 ⟨rfl, hD1, hT1⟩
    have HD1 := hide hD1
    have HP1 := hide (HP.out.turn hT1 hpS (by simp; exact ⟨A.sb, A.smm⟩) (by simp; exact ⟨A.rbb, A.rbm⟩))
    have h3 := HP1.out.c3
    have hz := HP1.out.fz 3
    clear hD1
    go_wp2_with fail
    go_ret
    refine ⟨rfl, ?_, HD1.out.turn ((Turn.refl [p] w1).setCell (List.mem_singleton.2 rfl) _ _) (by simp; exact Ne.symm A.pb) (by simp; exact Ne.symm A.pm), (hT1.mono (by simp)).setCell (by simp) _ _, ?_⟩
    · exact HP1.out.setDead true
    · intro o ho
      rw [World.cell?_setCell_other _ _ _ _ (off_ne (by omega))]
      exact hT1.cell (p := ⟨p, o, none⟩) hpl hpS

set_option maxRecDepth 100000 in
set_option maxHeartbeats 800000 in
/-- isDead, of a pager and a disk that live. -/
theorem isDead_no (p b m sm rb N : Nat) (d l : Int) (q : Pg) (s : St) (hq : q.dead = false) (hd : s.dead = false) (w : World) (hD : DiskAt w b m s) (hP : PgAt w p b sm rb N d l q) (A : Apart p b m sm rb) :
    Calls Tryz.prog 89 #[.pointer (some ⟨p, 0, none⟩)] w fun e w' => e = .returned (.bool false) ∧ PgAt w' p b sm rb N d l q ∧ DiskAt w' b m s ∧ Turn [p] w w' := by
  have h0 := hP.c0
  have h3 := hP.c3
  have f3 := hP.fz 3
  rw [hq] at h3
  have HD := hide hD
  have HP := hide hP
  have HQ := hide hq
  have HDd := hide (fun w' (h : DiskAt w' b m s) => dead_any b m s w' h)
  rw [hd] at HDd
  clear hD hP hq hd
  go_enter Tryz.func89, Tryz.ntmps89
  go_wp2_with fail
  refine (HDd.out _ HD.out).mono ?_
  rintro e w1 ⟨rfl, rfl⟩
  go_wp2_with fail
  go_ret
  refine ⟨rfl, ?_, HD.out.turn ((Turn.refl [p] w1).setCell (List.mem_singleton.2 rfl) _ _) (by simp; exact Ne.symm A.pb) (by simp; exact Ne.symm A.pm), (Turn.refl [p] w1).setCell (List.mem_singleton.2 rfl) _ _⟩
  have h := HP.out.setDead false
  rw [show { q with dead := false } = q by have := HQ.out; cases q; simp at this; simp [this]] at h
  exact h

set_option maxRecDepth 100000 in
set_option maxHeartbeats 800000 in
/-- isDead, where the disk's power has gone. -/
theorem isDead_yes (p b m sm rb N : Nat) (d l : Int) (q : Pg) (s : St) (hq : q.dead = false) (hd : s.dead = true) (w : World) (hD : DiskAt w b m s) (hP : PgAt w p b sm rb N d l q) (A : Apart p b m sm rb) :
    Calls Tryz.prog 89 #[.pointer (some ⟨p, 0, none⟩)] w fun e w' => e = .returned (.bool true) ∧ PgAt w' p b sm rb N d l { q with dead := true } ∧ DiskAt w' b m s ∧ Turn [p] w w' := by
  have h0 := hP.c0
  have h3 := hP.c3
  have f3 := hP.fz 3
  rw [hq] at h3
  have HD := hide hD
  have HP := hide hP
  have HDd := hide (fun w' (h : DiskAt w' b m s) => dead_any b m s w' h)
  rw [hd] at HDd
  clear hD hP hq hd
  go_enter Tryz.func89, Tryz.ntmps89
  go_wp2_with fail
  refine (HDd.out _ HD.out).mono ?_
  rintro e w1 ⟨rfl, rfl⟩
  go_wp2_with fail
  go_ret
  exact ⟨rfl, HP.out.setDead true, HD.out.turn ((Turn.refl [p] w1).setCell (List.mem_singleton.2 rfl) _ _) (by simp; exact Ne.symm A.pb) (by simp; exact Ne.symm A.pm), (Turn.refl [p] w1).setCell (List.mem_singleton.2 rfl) _ _⟩
end Go.Proofs.YthgpjkcgccdldaaGreatDoor
