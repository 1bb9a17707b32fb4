/-
  The free map, read once: readFreeMap, Once.Do with it, freeMap, walked.
-/
import Derived.Test.YthgpjkcgccdldaaGreatDoorPlaid
namespace Go.Proofs.YthgpjkcgccdldaaGreatDoor
open Go.RowKit Go.Maps

set_option maxRecDepth 100000 in
theorem mbs_one {n : Nat} (h1 : 64 ≤ n) (h2 : n ≤ 4096) : mbs n = 1 := by unfold mbs; omega

set_option maxRecDepth 100000 in
theorem bit_addW (T : Nat → Nat) (l : List Nat) (k : Nat) : bit (addW T 0 l 64) k = if k < 4096 then (bit T k || (wordAt l (k / 64)).testBit (k % 64)) else bit T k := by
  unfold bit addW
  by_cases h : k < 4096
  · rw [if_pos (by omega), if_pos h, Nat.testBit_or, Nat.mul_zero, Nat.sub_zero]
  · rw [if_neg (by omega), if_neg h]

set_option maxRecDepth 100000 in
set_option maxHeartbeats 4000000 in
theorem rfm_any (p b m sm rb : Nat) (d l : Int) (q : Pg) (A : Apart p b m sm rb) (s : St) (L : Laid s q.c q.root q.K) (hd : s.dead = false) (hrd : q.rd = false) (hsi : ∀ n, q.si n = 0) (w : World) (hD : DiskAt w b m s) (hP : PgAt w p b sm rb s.n d l q) :
    Calls Tryz.prog 154 #[.pointer (some ⟨p, 0, none⟩)] w fun e w' => e = .returned (.tuple #[]) ∧ PgAt w' p b sm rb s.n d l { q with rd := true } ∧ DiskAt w' b m s ∧ Turn [p] w w' := by
  have h0 := hP.c0
  have h4 := hP.c4
  have hn1 := L.n64
  have hn2 := L.n4096
  have hcb : q.c < 1000000000 := by have := L.ck; have := L.good.k1; omega
  obtain ⟨T, hW, hbits⟩ := hP.wd
  have HW := hide hW
  have HD := hide hD
  have HP := hide hP
  have HRd := hide hrd
  have HBits := hide hbits
  have HL := hide L
  have HF := hide (fun w' => firstPage_any s.n (by omega) w')
  have HS := hide (fun w' => slotOf_any q.c hcb w')
  have HM := hide (fun w' => mapStart_any (q.c % 2) s.n (by omega) (by omega) w')
  have HMb := hide (fun w' => mapBlocks_any s.n (by omega) w')
  rw [mbs_one hn1 hn2] at HF HM HMb
  rw [Nat.mul_one] at HM
  have hdd := hide hd
  clear hW hD hP hrd hbits L hd
  generalize hc : q.c = c at *
  go_enter Tryz.func154, Tryz.ntmps154
  go_wp2_with fail
  refine (blocks_any b m s w HD.out).mono ?_
  rintro e w1 ⟨rfl, rfl⟩
  go_wp2_with fail
  go_region_with (first
    | (go_at_call 125; refine (HF.out _).mono ?_; rintro e w2 ⟨rfl, rfl⟩)
    | (go_at_call 190; refine (takeAll_any p 9 4 s.n T (by omega) (by omega) _ HW.out.drew).mono ?_; rintro e w2 ⟨rfl, hW2, hT2⟩))
  obtain ⟨T1, hW2, hb1⟩ := hW2
  have hT02 : Turn [p] w1 w2 := (Turn.refl [p] w1).drew.trans hT2.turn
  have hsi' : ∀ n, (q.si n == 1) = false := fun n => by rw [hsi n]; rfl
  have HP2 := hide (HP.out.drew.setWords (q' := { q with rd := true, K := fun _ => false }) hT2.turn (fun o ho => hT2.out o (by omega)) hW2 (fun n hn => by
    rw [hb1 n hn, HBits.out n hn, HRd.out]
    unfold Pg.tk
    simp [hsi n]) rfl rfl rfl rfl rfl)
  have HD2 := hide (HD.out.drew.turn hT2.turn (by simp; exact Ne.symm A.pb) (by simp; exact Ne.symm A.pm))
  have h42 := HP2.out.c4
  clear hW2 hb1 hT2
  have h42' : w2.cell? ⟨p, 4, none⟩ = some (.int .i64 (c : Nat)) := by rw [← hc]; exact h42
  clear h42 HW HP HD h4 h0
  go_wp2_with fail
  refine (load_any p 4 _ w2 h42').mono ?_
  rintro e w3 ⟨rfl, rfl⟩
  go_wp2_with fail
  refine (HS.out _).mono ?_
  rintro e w3 ⟨rfl, rfl⟩
  go_wp2_with fail
  refine (HM.out _).mono ?_
  rintro e w3 ⟨rfl, rfl⟩
  go_wp2_with fail
  refine (HMb.out _).mono ?_
  rintro e w3 ⟨rfl, rfl⟩
  go_wp2_with fail
  go_loopw [28] (fun i wr => (i = .int .i64 0 ∧ PgAt wr p b sm rb s.n d l { q with rd := true, K := fun _ => false } ∧ DiskAt wr b m s ∧ Turn [p] w1 wr) ∨ (i = .int .i64 1 ∧ PgAt wr p b sm rb s.n d l { q with rd := true } ∧ DiskAt wr b m s ∧ Turn [p] w1 wr)) (fun i _ => 1 - (intOf i).toNat)
  case atStart => exact .inl ⟨rfl, HP2.out, HD2.out, hT02⟩
  case round =>
    clear HP2 HD2 hT02 h42'
    rcases hrel with ⟨rfl, hP3, hD3, hT3⟩ | ⟨rfl, hP3, hD3, hT3⟩
    · have HP3 := hide hP3
      have HD3 := hide hD3
      have hn' : 2 + c % 2 < s.n := by omega
      have hpl := hP3.lt
      clear hP3 hD3
      go_wp2_with fail
      refine (pread_ok p b m sm rb s.n d l _ A s HL.out.good hdd.out (2 + c % 2) hn' _ HD3.out HP3.out).mono ?_
      rintro e w5 ⟨rfl, hR5, hP5, hD5, hT5, _⟩
      have HR5 := hide hR5
      have HP5 := hide hP5
      have HD5 := hide hD5
      obtain ⟨T2, hW5, hb5⟩ := hP5.wd
      have HW5 := hide hW5
      have HB5 := hide hb5
      clear hR5 hP5 hD5 hW5 hb5
      go_wp2_with fail
      refine (addBlock_any p 9 0 wr.heap.size (by omega) T2 (bytesOf 512 (fB s (2 + c % 2))) (bytesOf_length _ _) (bytesOf_lt (fB_lt HL.out.byte _)) (by omega) w5 HW5.out HR5.out.bytes0).mono ?_
      rintro e w6 ⟨rfl, hW6, hT6⟩
      obtain ⟨Td, hTd, hfd, hbd⟩ := HL.out.map
      have HP6 := hide (HP5.out.setWords (q' := { q with rd := true }) hT6.turn (fun o ho => hT6.out o (by omega)) hW6 (fun n hn => by
        rw [bit_addW, HB5.out n hn, fB_list s HL.out.good, hfd]
        unfold Pg.tk
        simp only [Bool.true_and, hsi']
        by_cases h1 : n < 4
        · simp [h1]
        · by_cases h2 : s.n ≤ n
          · simp [h2]
          · rw [if_pos (by omega), word_back Td hTd _ (by omega), ← hbd n (by omega) (by omega)]
            simp [h1, h2, bit]) rfl rfl rfl rfl rfl)
      have HD6 := hide (HD5.out.turn hT6.turn (by simp; exact Ne.symm A.pb) (by simp; exact Ne.symm A.pm))
      clear hW6
      go_wp2_with fail
      go_roundw
      case rel => exact .inr ⟨by go_num, HP6.out, HD6.out, (hT3.trans hT5.turn).trans hT6.turn⟩
      case measure => simp [intOf]
    · have HP3 := hide hP3
      have HD3 := hide hD3
      clear hP3 hD3
      go_wp2_with fail
      go_end0
      subst hc
      exact ⟨rfl, HP3.out, HD3.out, hT3⟩

set_option maxRecDepth 100000 in
set_option maxHeartbeats 4000000 in
theorem pslow_any (p b m sm rb : Nat) (q : Pg) (A : Apart p b m sm rb) (s : St) (L : Laid s q.c q.root q.K) (hd : s.dead = false) (hrd : q.rd = false) (hsi : ∀ n, q.si n = 0) (w : World) (hD : DiskAt w b m s) (hP : PgAt w p b sm rb s.n 0 0 q) :
    Calls Tryz.prog 77 #[.pointer (some ⟨p, 6, none⟩), .func (.func 154) #[.pointer (some ⟨p, 0, none⟩)] #[]] w fun e w' => e = .returned (.tuple #[]) ∧ PgAt w' p b sm rb s.n 1 0 { q with rd := true } ∧ DiskAt w' b m s ∧ Turn [p] w w' := by
  have h0 := hP.c6
  have h1 := hP.c7
  have f0 := hP.fz 6
  have f1 := hP.fz 7
  have hP1 := hP.setLock 1
  have hT1 := (Turn.refl [p] w).setCell (List.mem_singleton.2 rfl) 7 (.int .i32 1)
  have hD1 := hD.turn hT1 (by simp; exact Ne.symm A.pb) (by simp; exact Ne.symm A.pm)
  have HC := hide (rfm_any p b m sm rb 0 1 q A s L hd hrd hsi _ hD1 hP1)
  have hl := run_call_load (P := Tryz.prog) Tryz.func107 (by kernel_rfl) (by kernel_rfl) (by kernel_rfl) .u32 (by kernel_rfl) hP1.c6
  have hnot : ∀ (x : Bool) (w : World), (Op.unary .not (.bool x)).run Tryz.prog w = .ok (.bool (!x)) w := fun _ _ => rfl
  have HT1 := hide hT1
  clear hP hP1 hD hD1 hT1 L hd hrd hsi
  go_enter_defers Tryz.func77, Tryz.ntmps77
  go_wp2_with (first | (go_at_call 108; refine (Sm.lock_free ⟨p, 7, none⟩ _ (by go_simp) (by go_simp)).mono ?_; rintro e w' ⟨rfl, rfl⟩) | (go_at_call 154; refine HC.out.mono ?_; rintro e w2 ⟨rfl, hP2, hD2, hT2⟩) | (go_at_call 76; go_in))
  refine leaves_cons (f := 110) (args := #[.pointer (some ⟨p, 6, none⟩), .bool true]) (by simp) (by simp [go_sem]) ?_
  refine (Sm.store_deferred ⟨p, 6, none⟩ (.int .u32 0) .returning _ hP2.c6 (hP2.fz 6)).mono ?_
  rintro e u' w'' ⟨rfl, rfl, rfl⟩
  have hP3 := (hP2.setDone 1).drew
  have hT3 : Turn [p] w ((w2.setCell ⟨p, 6, none⟩ (.int .u32 1)).drew) := ((HT1.out.trans hT2).setCell (List.mem_singleton.2 rfl) _ _).drew
  have hD3 := (hD2.turn ((Turn.refl [p] w2).setCell (List.mem_singleton.2 rfl) 6 (.int .u32 1)) (by simp; exact Ne.symm A.pb) (by simp; exact Ne.symm A.pm)).drew
  refine leaves_cons (f := 109) (args := #[.pointer (some ⟨p, 7, none⟩)]) (by simp [settle]) (by simp [go_sem]) ?_
  refine (Sm.unlock_deferred ⟨p, 7, none⟩ _ _ hP3.c7 (hP3.fz 7)).mono ?_
  rintro e u' w'' ⟨rfl, rfl, rfl⟩
  have hP4 := hP3.setLock 0
  have hT4 : Turn [p] w _ := hT3.setCell (List.mem_singleton.2 rfl) 7 (.int .i32 0)
  have hD4 := hD3.turn ((Turn.refl [p] _).setCell (List.mem_singleton.2 rfl) 7 (.int .i32 0)) (by simp; exact Ne.symm A.pb) (by simp; exact Ne.symm A.pm)
  simp [Leaves, settle, results, Tryz.results77]
  exact ⟨hP4, hD4, hT4⟩

set_option maxRecDepth 100000 in
set_option maxHeartbeats 1600000 in
theorem pdo_first (p b m sm rb : Nat) (q : Pg) (A : Apart p b m sm rb) (s : St) (L : Laid s q.c q.root q.K) (hd : s.dead = false) (hrd : q.rd = false) (hsi : ∀ n, q.si n = 0) (w : World) (hD : DiskAt w b m s) (hP : PgAt w p b sm rb s.n 0 0 q) :
    Calls Tryz.prog 50 #[.pointer (some ⟨p, 6, none⟩), .func (.func 154) #[.pointer (some ⟨p, 0, none⟩)] #[]] w fun e w' => e = .returned (.tuple #[]) ∧ PgAt w' p b sm rb s.n 1 0 { q with rd := true } ∧ DiskAt w' b m s ∧ Turn [p] w w' := by
  have HC := hide (pslow_any p b m sm rb q A s L hd hrd hsi w hD hP)
  have hl := run_call_load (P := Tryz.prog) Tryz.func107 (by kernel_rfl) (by kernel_rfl) (by kernel_rfl) .u32 (by kernel_rfl) hP.c6
  have hnot : ∀ (x : Bool) (w : World), (Op.unary .not (.bool x)).run Tryz.prog w = .ok (.bool (!x)) w := fun _ _ => rfl
  clear hP hD L hd hrd hsi
  go_enter Tryz.func50, Tryz.ntmps50
  go_wp2_with (first | (go_at_call 77; refine HC.out.mono ?_; rintro e w' ⟨rfl, hP2, hD2, hT2⟩; have HP2 := hide hP2; have HD2 := hide hD2; clear hP2 hD2) | (go_at_call 76; go_in))
  go_end0
  exact ⟨rfl, HP2.out, HD2.out, hT2⟩

set_option maxRecDepth 100000 in
set_option maxHeartbeats 1600000 in
theorem pdo_done (a : Addr) (fv : Value) (w : World) (h0 : w.cell? a = some (.int .u32 1)) :
    Calls Tryz.prog 50 #[.pointer (some a), fv] w fun e w' => e = .returned (.tuple #[]) ∧ w' = w := by
  have hl := run_call_load (P := Tryz.prog) Tryz.func107 (by kernel_rfl) (by kernel_rfl) (by kernel_rfl) .u32 (by kernel_rfl) h0
  have hnot : ∀ (x : Bool) (w : World), (Op.unary .not (.bool x)).run Tryz.prog w = .ok (.bool (!x)) w := fun _ _ => rfl
  go_enter Tryz.func50, Tryz.ntmps50
  go_wp2
  go_end0
  exact ⟨rfl, rfl⟩

/-- The once's word. -/
def Pg.word (q : Pg) : Int := if q.rd = true then 1 else 0

/-- A pager and its disk, in memory, in good order. -/
structure PAt (w : World) (p b m sm rb : Nat) (s : St) (q : Pg) : Prop where
  disk : DiskAt w b m s
  pg : PgAt w p b sm rb s.n q.word 0 q
  laid : Laid s q.c q.root q.K
  apart : Apart p b m sm rb
  s1 : ∀ n, q.si n = 1 → q.K n = false ∧ 4 ≤ n ∧ n < s.n
  s2 : ∀ n, q.si n = 2 → q.K n = true
  s3 : ∀ n, q.si n ≤ 2
  s0 : q.rd = false → ∀ n, q.si n = 0
  tab : Tab w
  pos : 1 < p ∧ 1 < b ∧ 1 < m ∧ 1 < sm

set_option maxRecDepth 100000 in
set_option maxHeartbeats 1600000 in
/-- freeMap: the map is read, if it was not yet. -/
theorem freeMap_any (p b m sm rb : Nat) (s : St) (q : Pg) (hd : s.dead = false) (w : World) (hA : PAt w p b m sm rb s q) :
    Calls Tryz.prog 126 #[.pointer (some ⟨p, 0, none⟩)] w fun e w' => e = .returned (.pointer (some ⟨p, 9, none⟩)) ∧ PAt w' p b m sm rb s { q with rd := true } ∧ Turn [p] w w' := by
  have hmf : ∀ (fn : Fn) (first cap : Array Value) (w : World), (Instr.makeFunc fn first cap).run Tryz.prog w = .ok (.func fn first cap) w := fun _ _ _ _ => rfl
  have hc0 := hA.pg.c0
  have htab := fun w' (hT : Turn [p] w w') (i : Nat) (hi : i < 64) => (hT.cell (p := ⟨1, i, none⟩) (lt_of_cell (hA.tab 0 (by omega))) (by have := hA.pos.1; simp; omega)).trans (hA.tab i hi)
  have HTab := hide htab
  have HA := hide hA
  clear htab
  cases hrd : q.rd with
  | false =>
    have hw : q.word = 0 := by unfold Pg.word; rw [hrd]; rfl
    have hP := hA.pg
    rw [hw] at hP
    have HC := hide (pdo_first p b m sm rb q hA.apart s hA.laid hd hrd (hA.s0 hrd) w hA.disk hP)
    clear hP hA hw hrd
    go_enter Tryz.func126, Tryz.ntmps126
    go_wp2_with fail
    refine HC.out.mono ?_
    rintro e w1 ⟨rfl, hP1, hD1, hT1⟩
    have HP1 := hide hP1
    have HD1 := hide hD1
    clear hP1 hD1
    go_wp2_with fail
    go_ret
    exact ⟨rfl, ⟨HD1.out, HP1.out, HA.out.laid, HA.out.apart, HA.out.s1, HA.out.s2, HA.out.s3, fun h => absurd h (by simp), HTab.out w1 hT1, HA.out.pos⟩, hT1⟩
  | true =>
    have hw : q.word = 1 := by unfold Pg.word; rw [hrd]; rfl
    have h6 := hA.pg.c6
    rw [hw] at h6
    have HC := hide (pdo_done ⟨p, 6, none⟩ (.func (.func 154) #[.pointer (some ⟨p, 0, none⟩)] #[]) w h6)
    have HE : Hid ({ q with rd := true } = q) := by show _ = _; cases q; simp at hrd; simp [hrd]
    clear hA hw hrd h6
    go_enter Tryz.func126, Tryz.ntmps126
    go_wp2_with fail
    refine HC.out.mono ?_
    rintro e w1 ⟨rfl, rfl⟩
    go_wp2_with fail
    go_ret
    refine ⟨rfl, ?_, Turn.refl _ _⟩
    rw [HE.out]
    exact HA.out
end Go.Proofs.YthgpjkcgccdldaaGreatDoor
