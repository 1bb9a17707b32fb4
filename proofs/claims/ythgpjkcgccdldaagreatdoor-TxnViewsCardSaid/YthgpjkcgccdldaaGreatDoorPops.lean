/-
  Left, isThere, Free, Read, Alloc of a pager, walked.
-/
import Derived.Test.YthgpjkcgccdldaaGreatDoorPmap
namespace Go.Proofs.YthgpjkcgccdldaaGreatDoor
open Go.RowKit Go.Maps

set_option maxRecDepth 100000 in
theorem freeCount_congr {s t : Nat → Bool} {n : Nat} (h : ∀ k, k < n → s k = t k) : freeCount s n = freeCount t n := by
  unfold freeCount
  apply List.countP_congr
  intro k hk
  rw [h k (List.mem_range.1 hk)]

set_option maxRecDepth 100000 in
theorem Tab.turn {S : List Nat} {w w' : World} (h : Tab w) (hT : Turn S w w') (h0 : 1 ∉ S) : Tab w' := fun i hi => (hT.cell (p := ⟨1, i, none⟩) (lt_of_cell (h 0 (by omega))) h0).trans (h i hi)

set_option maxRecDepth 100000 in
theorem PAt.turn {S : List Nat} {w w' : World} {p b m sm rb : Nat} {s : St} {q : Pg} (h : PAt w p b m sm rb s q) (hT : Turn S w w') (h0 : 1 ∉ S) (hp : p ∉ S) (hb : b ∉ S) (hm : m ∉ S) (hs : sm ∉ S) (hr : rb ∉ S) : PAt w' p b m sm rb s q :=
  ⟨h.disk.turn hT hb hm, h.pg.turn hT hp hs hr, h.laid, h.apart, h.s1, h.s2, h.s3, h.s0, h.tab.turn hT h0, h.pos⟩
set_option maxRecDepth 100000 in
theorem PAt.turn0 {w w' : World} {p b m sm rb : Nat} {s : St} {q : Pg} (h : PAt w p b m sm rb s q) (hT : Turn [] w w') : PAt w' p b m sm rb s q := h.turn hT (by simp) (by simp) (by simp) (by simp) (by simp) (by simp)

/-- How many can be allocated now. -/
def Pg.left (q : Pg) (N : Nat) : Nat := freeCount (q.tk N) 16384

set_option maxRecDepth 100000 in
set_option maxHeartbeats 800000 in
theorem left_any (p b m sm rb : Nat) (s : St) (q : Pg) (hd : s.dead = false) (w : World) (hA : PAt w p b m sm rb s q) :
    Calls Tryz.prog 93 #[.pointer (some ⟨p, 0, none⟩)] w fun e w' => e = .returned (.int .i64 (q.left s.n : Nat)) ∧ PAt w' p b m sm rb s { q with rd := true } ∧ Turn [p] w w' := by
  have HF := hide (freeMap_any p b m sm rb s q hd w hA)
  clear hA hd
  go_enter Tryz.func93, Tryz.ntmps93
  go_wp2_with fail
  refine HF.out.mono ?_
  rintro e w1 ⟨rfl, hA1, hT1⟩
  obtain ⟨T, hW, hb⟩ := hA1.pg.wd
  have HA1 := hide hA1
  have HE : Hid (freeCount (bit T) 16384 = q.left s.n) := freeCount_congr fun k hk => by rw [hb k hk]; rfl
  have HC := hide (countFree_any p 9 T w1 hW)
  rw [HE.out] at HC
  clear hA1 hW hb HE
  go_wp2_with fail
  refine HC.out.mono ?_
  rintro e w2 ⟨rfl, rfl⟩
  go_wp2_with fail
  go_ret
  exact ⟨rfl, HA1.out, hT1⟩

/-- There is such a page. -/
def Pg.there (q : Pg) (n : Nat) : Bool := (q.K n || q.si n == 1) && !(q.si n == 2)
def Pg.thereI (q : Pg) (N : Nat) (i : Int) : Bool := decide (4 ≤ i) && decide (i < N) && q.there i.toNat

set_option maxRecDepth 100000 in
theorem zero3 (w : World) : Sem.run Tryz.prog (zeroValue 3) w = .ok (.int .i64 0) w := by kernel_rfl

set_option maxRecDepth 100000 in
/-- What 'since' says of a page. -/
theorem since_look {w : World} {p b sm rb N : Nat} {d l : Int} {q : Pg} (h : PgAt w p b sm rb N d l q) (n : Nat) (hn : n ≤ 16384) : (Instr.lookup 111 (.map (some sm)) (.int .i64 (n : Nat)) false).run Tryz.prog w = .ok (.int .i64 (q.si n : Nat)) w := by
  obtain ⟨k, D, _, hM, hS⟩ := h.since
  obtain ⟨c, hrun, hat, _⟩ := hM.lookup_int law3 Tryz.underlying111 Tryz.underlying3 (zero3 w) (key3 (i := n) (by omega))
  rw [hS.at_ n] at hat
  have : (q.si n : Int) = c := by
    have := DataW.lit.inj hat
    exact (Lit.int.inj this).2
  rw [hrun, this]

set_option maxRecDepth 100000 in
set_option maxHeartbeats 1600000 in
theorem isThere_any (p b m sm rb : Nat) (s : St) (q : Pg) (hd : s.dead = false) (i : Int) (w : World) (hA : PAt w p b m sm rb s q) :
    Calls Tryz.prog 90 #[.pointer (some ⟨p, 0, none⟩), .int .i64 i] w fun e w' => e = .returned (.bool (q.thereI s.n i)) ∧ (∃ r, (q.thereI s.n i = true → r = true) ∧ PAt w' p b m sm rb s { q with rd := r }) ∧ Turn [p] w w' := by
  have h0 := hA.pg.c0
  have hn1 := hA.laid.n64
  have hn2 := hA.laid.n4096
  have HFp := hide (fun w' => firstPage_any s.n (by omega) w')
  rw [mbs_one hn1 hn2] at HFp
  have HF := hide (freeMap_any p b m sm rb s q hd w hA)
  have HA := hide hA
  clear hA hd
  by_cases h1 : 4 ≤ i
  · by_cases h2 : i < s.n
    · obtain ⟨n, rfl⟩ := Int.eq_ofNat_of_zero_le (show 0 ≤ i by omega)
      have HE : Hid (q.thereI s.n (n : Nat) = q.there n) := by
        show _ = _
        unfold Pg.thereI
        rw [decide_eq_true h1, decide_eq_true h2]
        rfl
      have t1 : decide ((n : Int) < 4) = false := by simp; omega
      have t2 : decide ((s.n : Int) ≤ (n : Int)) = false := by simp; omega
      go_enter Tryz.func90, Tryz.ntmps90
      go_wp2_with fail
      refine (blocks_any b m s w HA.out.disk).mono ?_
      rintro e w1 ⟨rfl, rfl⟩
      go_wp2_with fail
      refine (HFp.out _).mono ?_
      rintro e w2 ⟨rfl, rfl⟩
      go_wp2_with fail
      refine HF.out.mono ?_
      rintro e w3 ⟨rfl, hA3, hT3⟩
      obtain ⟨T, hW, hb⟩ := hA3.pg.wd
      have hlk := since_look hA3.pg n (by omega)
      have hcs := hA3.pg.cs
      have HA3 := hide hA3
      have HI := hide (isTaken_any p 9 n T (by omega) w3 hW)
      rw [hb n (by omega)] at HI
      have HT : Hid ((true && ({ q with rd := true } : Pg).tk s.n n) = (q.K n || q.si n == 1)) := by
        show _ = _
        unfold Pg.tk
        rw [decide_eq_false (by omega : ¬ n < 4), decide_eq_false (by omega : ¬ s.n ≤ n)]
        simp
      rw [HT.out] at HI
      have hs3 := HA.out.s3 n
      clear hA3 hW hb
      go_wp2_with fail
      refine HI.out.mono ?_
      rintro e w4 ⟨rfl, rfl⟩
      cases hk : (q.K n || q.si n == 1) with
      | true =>
        have HK := hide hk
        clear hk
        go_wp2_with fail
        go_ret
        refine ⟨?_, ⟨true, fun _ => rfl, HA3.out⟩, hT3⟩
        rw [HE.out]
        unfold Pg.there
        rw [HK.out]
        show Ending.returned (.bool ((q.si n : Int) != 2)) = _
        by_cases h : q.si n = 2
        · rw [h]; rfl
        · have : ((q.si n : Int) != 2) = true := by rw [bne_iff_ne]; omega
          rw [this]
          have : (q.si n == 2) = false := by rw [beq_eq_false_iff_ne]; exact h
          rw [this]
          rfl
      | false =>
        have HK := hide hk
        clear hk
        go_wp2_with fail
        go_ret
        refine ⟨?_, ⟨true, fun _ => rfl, HA3.out⟩, hT3⟩
        rw [HE.out]
        unfold Pg.there
        rw [HK.out]
        rfl
    · have HE : Hid (q.thereI s.n i = false) := by
        show _ = _
        unfold Pg.thereI
        rw [decide_eq_false h2]
        simp
      have t1 : decide (i < 4) = false := by simp; omega
      have t2 : decide ((s.n : Int) ≤ i) = true := by simp; omega
      go_enter Tryz.func90, Tryz.ntmps90
      go_wp2_with fail
      refine (blocks_any b m s w HA.out.disk).mono ?_
      rintro e w1 ⟨rfl, rfl⟩
      go_wp2_with fail
      refine (HFp.out _).mono ?_
      rintro e w2 ⟨rfl, rfl⟩
      go_wp2_with fail
      go_ret
      refine ⟨by rw [HE.out]; rfl, ⟨q.rd, fun h => absurd h (by rw [HE.out]; simp), HA.out⟩, Turn.refl _ _⟩
  · have HE : Hid (q.thereI s.n i = false) := by
      show _ = _
      unfold Pg.thereI
      rw [decide_eq_false h1]
      rfl
    have t1 : decide (i < 4) = true := by simp; omega
    go_enter Tryz.func90, Tryz.ntmps90
    go_wp2_with fail
    refine (blocks_any b m s w HA.out.disk).mono ?_
    rintro e w1 ⟨rfl, rfl⟩
    go_wp2_with fail
    refine (HFp.out _).mono ?_
    rintro e w2 ⟨rfl, rfl⟩
    go_wp2_with fail
    go_ret
    refine ⟨by rw [HE.out]; rfl, ⟨q.rd, fun h => absurd h (by rw [HE.out]; simp), HA.out⟩, Turn.refl _ _⟩

end Go.Proofs.YthgpjkcgccdldaaGreatDoor

/-
  Free, Read, Alloc of a pager, walked.
-/
namespace Go.Proofs.YthgpjkcgccdldaaGreatDoor
open Go.RowKit Go.Maps

set_option maxRecDepth 100000 in
theorem key_ne {n k : Nat} (h : n ≠ k) : (Lit.int .i64 (n : Int)) ≠ .int .i64 (k : Int) := fun e => h (by have := (Lit.int.inj e).2; omega)

set_option maxRecDepth 100000 in
theorem Since.del {D : DataW Value} {si : Nat → Nat} (h : Since D si) (n : Nat) : Since (D.del (.int .i64 (n : Int))) (setB si n 0) := by
  refine ⟨fun kl hk => ?_, fun k => ?_⟩
  · by_cases e : kl = .int .i64 (n : Int)
    · rw [e, has_del_same] at hk; cases hk
    · rw [has_del_other e] at hk
      obtain ⟨k, rfl, hs⟩ := h.keys kl hk
      refine ⟨k, rfl, ?_⟩
      unfold setB
      rw [if_neg (fun e' => e (by rw [e']))]
      exact hs
  · unfold setB
    by_cases e : k = n
    · rw [e, atKey_del_same, if_pos rfl]; rfl
    · rw [if_neg e, atKey_del_other (key_ne e)]
      exact h.at_ k

set_option maxRecDepth 100000 in
theorem Since.put {D : DataW Value} {si : Nat → Nat} (h : Since D si) (hM : IsMap D) (n v : Nat) (hv : v ≠ 0) : Since (D.put (.int .i64 (n : Int)) (.lit (.int .i64 (v : Int)))) (setB si n v) := by
  refine ⟨fun kl hk => ?_, fun k => ?_⟩
  · by_cases e : kl = .int .i64 (n : Int)
    · refine ⟨n, e, ?_⟩
      unfold setB
      rw [if_pos rfl]
      exact hv
    · rw [has_put_other e] at hk
      obtain ⟨k, rfl, hs⟩ := h.keys kl hk
      refine ⟨k, rfl, ?_⟩
      unfold setB
      rw [if_neg (fun e' => e (by rw [e']))]
      exact hs
  · unfold setB
    by_cases e : k = n
    · rw [e, atKey_put_same hM (isKey n), if_pos rfl]
    · rw [if_neg e, atKey_put_other (key_ne e)]
      exact h.at_ k

set_option maxRecDepth 100000 in
theorem turn_of_grown {w w' : World} {g : Nat} (h : w.grownBy w' (some g)) : Turn [g] w w' := ⟨h.os, h.tape, h.output, h.size, fun k hk hn => h.block k hk (fun e => hn (by rw [Option.some.inj e]; simp))⟩

set_option maxRecDepth 100000 in
/-- 'since' turns. -/
theorem PgAt.setSince {w w' : World} {p b sm rb N : Nat} {d l : Int} {q : Pg} (h : PgAt w p b sm rb N d l q) (hT : Turn [sm] w w') {n : Nat} {D : DataW Value} {q' : Pg} (hM : w'.ownsMap Tryz.prog 3 (plainElem Tryz.prog 3) sm n D) (hn : n ≤ q'.u) (hS : Since D q'.si) (hr : sm ≠ rb)
    (hb : ∀ k, k < 16384 → (q'.rd && q'.tk N k) = (q.rd && q.tk N k)) (e1 : q'.dead = q.dead) (e2 : q'.c = q.c) (e3 : q'.root = q.root) : PgAt w' p b sm rb N d l q' := by
  have hp : p ∉ [sm] := fun hm => h.ne (List.mem_singleton.1 hm)
  have hc : ∀ o, w'.cell? ⟨p, o, none⟩ = w.cell? ⟨p, o, none⟩ := fun o => hT.cell (p := ⟨p, o, none⟩) h.lt hp
  obtain ⟨x1, h1⟩ := h.c1
  obtain ⟨x2, h2⟩ := h.c2
  obtain ⟨ra, rc, h5, hB, hn', hx⟩ := h.c5
  obtain ⟨T, hW, hbt⟩ := h.wd
  exact ⟨(hc 0).trans h.c0, ⟨x1, (hc 1).trans h1⟩, ⟨x2, (hc 2).trans h2⟩, by rw [e1]; exact (hc 3).trans h.c3, by rw [e2]; exact (hc 4).trans h.c4,
    ⟨ra, rc, by rw [e3]; exact (hc 5).trans h5, by rw [e3]; exact hB.turn hT (fun x h1 h2 hm => hr (by rw [← hx x h1 h2]; exact (List.mem_singleton.1 hm).symm)), hn', by rw [e3]; exact hx⟩,
    (hc 6).trans h.c6, (hc 7).trans h.c7, ⟨T, hW.turn hT hp, fun k hk => by rw [hb k hk]; exact hbt k hk⟩, (hc 265).trans h.cs, ⟨n, D, hn, hM, hS⟩, h.ne, h.nr⟩

set_option maxRecDepth 100000 in
theorem wf_small {n : Nat} (h : n ≤ 100) : (Lit.int .i64 (n : Int)).wf = true := WalkArith.wf_i64 (by omega)
set_option maxRecDepth 100000 in
theorem plain3 (n : Nat) (h : n ≤ 100) : plainElem (H := Value) Tryz.prog 3 (.int .i64 (n : Int)) = some (.lit (.int .i64 (n : Int)), []) := plainElem_int Tryz.underlying3 (wf_small h)

/-- Behind a Free. -/
def Pg.freed (q : Pg) (n : Nat) : Pg := if q.si n = 1 then { q with si := setB q.si n 0, rd := true } else { q with si := setB q.si n 2, rd := true, u := q.u + 1 }

set_option maxRecDepth 100000 in
theorem Pg.there_range {q : Pg} {N : Nat} {i : Int} (h : q.thereI N i = true) : ∃ n : Nat, i = n ∧ 4 ≤ n ∧ n < N ∧ q.there n = true := by
  unfold Pg.thereI at h
  simp only [Bool.and_eq_true, decide_eq_true_eq] at h
  obtain ⟨n, rfl⟩ := Int.eq_ofNat_of_zero_le (show 0 ≤ i by omega)
  exact ⟨n, rfl, by omega, by omega, h.2⟩

set_option maxRecDepth 100000 in
set_option maxHeartbeats 1600000 in
theorem free_no (p b m sm rb : Nat) (s : St) (q : Pg) (hd : s.dead = false) (hq : q.dead = false) (i : Int) (hi : q.thereI s.n i = false) (w : World) (hA : PAt w p b m sm rb s q) :
    Calls Tryz.prog 102 #[.pointer (some ⟨p, 0, none⟩), .int .i64 i] w fun e w' => e = .returned (.int .i64 2) ∧ (∃ r, PAt w' p b m sm rb s { q with rd := r }) ∧ Turn [p] w w' := by
  have hnot : ∀ (x : Bool) (w : World), (Op.unary .not (.bool x)).run Tryz.prog w = .ok (.bool (!x)) w := fun _ _ => rfl
  have HI := hide (isDead_no p b m sm rb s.n q.word 0 q s hq hd w hA.disk hA.pg hA.apart)
  have HA := hide hA
  have Hi := hide hi
  clear hA hi
  go_enter Tryz.func102, Tryz.ntmps102
  go_wp2_with fail
  refine HI.out.mono ?_
  rintro e w1 ⟨rfl, hP1, hD1, hT1⟩
  have HA1 : Hid (PAt w1 p b m sm rb s q) := ⟨hD1, hP1, HA.out.laid, HA.out.apart, HA.out.s1, HA.out.s2, HA.out.s3, HA.out.s0, HA.out.tab.turn hT1 (by have := HA.out.pos.1; simp; omega), HA.out.pos⟩
  clear hP1 hD1
  go_wp2_with fail
  refine (isThere_any p b m sm rb s q hd i w1 HA1.out).mono ?_
  rintro e w2 ⟨rfl, ⟨r, _, hA2⟩, hT2⟩
  rw [Hi.out]
  have HA2 := hide hA2
  clear hA2
  go_wp2_with fail
  go_ret
  exact ⟨rfl, ⟨r, HA2.out⟩, hT1.trans hT2⟩

set_option maxRecDepth 100000 in
set_option maxHeartbeats 3200000 in
theorem free_yes (p b m sm rb : Nat) (s : St) (q : Pg) (hd : s.dead = false) (hq : q.dead = false) (hu : q.u < 1000000000) (n : Nat) (hi : q.thereI s.n n = true) (w : World) (hA : PAt w p b m sm rb s q) :
    Calls Tryz.prog 102 #[.pointer (some ⟨p, 0, none⟩), .int .i64 (n : Nat)] w fun e w' => e = .returned (.int .i64 0) ∧ PAt w' p b m sm rb s (q.freed n) ∧ Turn [p, sm] w w' := by
  have hnot : ∀ (x : Bool) (w : World), (Op.unary .not (.bool x)).run Tryz.prog w = .ok (.bool (!x)) w := fun _ _ => rfl
  have HI := hide (isDead_no p b m sm rb s.n q.word 0 q s hq hd w hA.disk hA.pg hA.apart)
  obtain ⟨n', e', hn4, hnN, hth⟩ := Pg.there_range hi
  obtain rfl : n = n' := by omega
  have hN := hA.laid.n4096
  have HA := hide hA
  have Hi := hide hi
  clear hA hi e'
  have hth2 : (q.K n = true ∨ q.si n = 1) ∧ q.si n ≠ 2 := by
    unfold Pg.there at hth
    simpa using hth
  have Hth := hide hth2
  clear hth hth2
  have HB : Hid (∀ w1, Turn [p] w w1 → PgAt w1 p b sm rb s.n q.word 0 q → DiskAt w1 b m s → PAt w1 p b m sm rb s q) := fun w1 hT1 hP1 hD1 => ⟨hD1, hP1, HA.out.laid, HA.out.apart, HA.out.s1, HA.out.s2, HA.out.s3, HA.out.s0, HA.out.tab.turn hT1 (by have := HA.out.pos.1; simp; omega), HA.out.pos⟩
  by_cases h1 : q.si n = 1
  · have HE : Hid (q.freed n = { q with si := setB q.si n 0, rd := true }) := by show _ = _; unfold Pg.freed; rw [if_pos h1]
    have H1 := hide h1
    clear h1
    go_enter Tryz.func102, Tryz.ntmps102
    go_wp2_with fail
    refine HI.out.mono ?_
    rintro e w1 ⟨rfl, hP1, hD1, hT1⟩
    have HA1 := hide (HB.out w1 hT1 hP1 hD1)
    clear hP1 hD1
    go_wp2_with fail
    refine (isThere_any p b m sm rb s q hd (n : Nat) w1 HA1.out).mono ?_
    rintro e w2 ⟨rfl, ⟨r, hr, hA2⟩, hT2⟩
    obtain rfl := hr Hi.out
    rw [Hi.out]
    have hlk := since_look hA2.pg n (by omega)
    have hl1 : ({ q with rd := true } : Pg).si n = 1 := H1.out
    rw [hl1] at hlk
    have hcs := hA2.pg.cs
    obtain ⟨k, D, hk, hM, hS⟩ := hA2.pg.since
    obtain ⟨w3, hrun, hM3, hmt⟩ := hM.drop law3 Tryz.underlying111 (key3 (i := n) (by omega)) 0
    have hT3 := turn_of_grown hmt.grown
    have HP3 := hide (hA2.pg.setSince (q' := { q with rd := true, si := setB q.si n 0, K := fun k => q.K k || decide (k = n) }) hT3 hM3 hk (hS.del n) HA.out.apart.sr (fun k _ => by
      unfold Pg.tk setB
      by_cases e : k = n
      · subst e; simp [H1.out]
      · simp [e]) rfl rfl rfl)
    have HD3 := hide (hA2.disk.turn hT3 (by simp; exact Ne.symm HA.out.apart.sb) (by simp; exact Ne.symm HA.out.apart.smm))
    have HA2 := hide hA2
    clear hA2 hM hM3 hmt hS hl1 hr hk
    obtain ⟨T, hW, hb⟩ := HP3.out.wd
    have HW := hide hW
    have HBt := hide hb
    have HTab3 := hide (HA2.out.tab.turn hT3 (by have := HA.out.pos.2.2.2; simp; omega))
    clear hW hb
    go_wp2_with fail
    refine (free_any p 9 n T (by omega) w3 HW.out).mono ?_
    rintro e w4 ⟨rfl, hW4, hT4⟩
    have HP4 := hide (HP3.out.setWords (q' := { q with si := setB q.si n 0, rd := true }) hT4.turn (fun o ho => hT4.out o (by omega)) hW4 (fun k hk => by
      rw [bit_freeW, HBt.out k hk]
      have hs1 := HA.out.s1 n H1.out
      unfold Pg.tk setB
      by_cases e : k = n
      · subst e
        have h4 : ¬ k < 4 := by omega
        have h5 : ¬ s.n ≤ k := by omega
        simp [hs1.1, h4, h5]
      · simp [e]) rfl rfl rfl rfl rfl)
    have HD4 := hide (HD3.out.turn hT4.turn (by simp; exact Ne.symm HA.out.apart.pb) (by simp; exact Ne.symm HA.out.apart.pm))
    have HTab4 := hide (HTab3.out.turn hT4.turn (by have := HA.out.pos.1; simp; omega))
    clear hW4
    go_wp2_with fail
    go_ret
    refine ⟨rfl, ?_, ?_⟩
    · rw [HE.out]
      refine ⟨HD4.out, HP4.out, HA.out.laid, HA.out.apart, ?_, ?_, ?_, fun h => absurd h (by simp), HTab4.out, HA.out.pos⟩
      · intro k hk
        simp only [setB] at hk
        split at hk
        · omega
        · exact HA.out.s1 k hk
      · intro k hk
        simp only [setB] at hk
        split at hk
        · omega
        · exact HA.out.s2 k hk
      · intro k
        show setB q.si n 0 k ≤ 2
        unfold setB
        split
        · omega
        · exact HA.out.s3 k
    · exact (((hT1.trans hT2).mono (by simp)).trans (hT3.mono (by simp))).trans (hT4.turn.mono (by simp))
  · have HE : Hid (q.freed n = { q with si := setB q.si n 2, rd := true, u := q.u + 1 }) := by show _ = _; unfold Pg.freed; rw [if_neg h1]
    have hK : q.K n = true := by
      rcases Hth.out.1 with h | h
      · exact h
      · exact absurd h h1
    have H1 := hide h1
    have HK := hide hK
    have t1 : ((q.si n : Int) == 1) = false := by rw [beq_eq_false_iff_ne]; omega
    clear h1 hK
    go_enter Tryz.func102, Tryz.ntmps102
    go_wp2_with fail
    refine HI.out.mono ?_
    rintro e w1 ⟨rfl, hP1, hD1, hT1⟩
    have HA1 := hide (HB.out w1 hT1 hP1 hD1)
    clear hP1 hD1
    go_wp2_with fail
    refine (isThere_any p b m sm rb s q hd (n : Nat) w1 HA1.out).mono ?_
    rintro e w2 ⟨rfl, ⟨r, hr, hA2⟩, hT2⟩
    obtain rfl := hr Hi.out
    rw [Hi.out]
    have hlk := since_look hA2.pg n (by omega)
    have hl1 : ({ q with rd := true } : Pg).si n = q.si n := rfl
    rw [hl1] at hlk
    have hcs := hA2.pg.cs
    obtain ⟨k, D, hk, hM, hS⟩ := hA2.pg.since
    have hk' : k ≤ q.u := hk
    obtain ⟨w3, hrun, hM3, hgr⟩ := World.ownsMap.update (t := 111) (e := 3) hM law3 Tryz.underlying111 (by unfold maxLen; omega) (key3 (i := n) (by omega)) (plain3 2 (by omega))
    have hrun' : (Instr.mapUpdate 111 (.map (some sm)) (.int .i64 (n : Nat)) (.int .i64 2)).run Tryz.prog w2 = .ok () w3 := hrun
    clear hrun
    have hT3 := turn_of_grown hgr
    have HP3 := hide (hA2.pg.setSince (q' := { q with si := setB q.si n 2, rd := true, u := q.u + 1 }) hT3 hM3 (by show k + 1 ≤ q.u + 1; omega) (hS.put hM.isMap n 2 (by omega)) HA.out.apart.sr (fun k _ => by
      unfold Pg.tk setB
      by_cases e : k = n
      · subst e; simp [HK.out]
      · simp [e]) rfl rfl rfl)
    have HD3 := hide (hA2.disk.turn hT3 (by simp; exact Ne.symm HA.out.apart.sb) (by simp; exact Ne.symm HA.out.apart.smm))
    have HTab3 := hide (hA2.tab.turn hT3 (by have := HA.out.pos.2.2.2; simp; omega))
    clear hA2 hM hM3 hgr hS hl1 hr hk hk'
    go_wp2_with fail
    go_ret
    refine ⟨rfl, ?_, ?_⟩
    · rw [HE.out]
      refine ⟨HD3.out, HP3.out, HA.out.laid, HA.out.apart, ?_, ?_, ?_, fun h => absurd h (by simp), HTab3.out, HA.out.pos⟩
      · intro k hk
        simp only [setB] at hk
        split at hk
        · omega
        · exact HA.out.s1 k hk
      · intro k hk
        simp only [setB] at hk
        split at hk
        · rename_i e
          rw [e]
          exact HK.out
        · exact HA.out.s2 k hk
      · intro k
        show setB q.si n 2 k ≤ 2
        unfold setB
        split
        · omega
        · exact HA.out.s3 k
    · exact ((hT1.trans hT2).mono (by simp)).trans (hT3.mono (by simp))

/-- Read, of a page that there is. -/
def Told (P : Prop) : Prop := P

set_option maxRecDepth 100000 in
set_option maxHeartbeats 3200000 in
theorem read_yes (p b m sm rb : Nat) (s : St) (q : Pg) (hd : s.dead = false) (hq : q.dead = false) (n : Nat) (hi : q.thereI s.n n = true) (l : List Nat) (hl : l.length ≤ 496) (hf : s.f n = bytesOf 512 (pageB l)) (w : World) (hA : PAt w p b m sm rb s q) :
    Calls Tryz.prog 64 #[.pointer (some ⟨p, 0, none⟩), .int .i64 (n : Nat)] w fun e w' => ∃ g o, w.heap.size ≤ g ∧ g < w'.heap.size ∧ e = .returned (.tuple #[.slice (some ⟨g, o, none⟩) l.length l.length, .int .i64 0]) ∧ BytesAt w' (some ⟨g, o, none⟩) l ∧ (∀ j, w'.frozen? ⟨g, j, none⟩ = false) ∧ PAt w' p b m sm rb s { q with rd := true } ∧ Turn [p] w w' := by
  have hnot : ∀ (x : Bool) (w : World), (Op.unary .not (.bool x)).run Tryz.prog w = .ok (.bool (!x)) w := fun _ _ => rfl
  have HI := hide (isDead_no p b m sm rb s.n q.word 0 q s hq hd w hA.disk hA.pg hA.apart)
  obtain ⟨n', e', hn4, hnN, _⟩ := Pg.there_range hi
  obtain rfl : n = n' := by omega
  have HA := hide hA
  have Hi := hide hi
  have HF := hide hf
  clear hA hi e' hf
  have HB : Hid (∀ w1, Turn [p] w w1 → PgAt w1 p b sm rb s.n q.word 0 q → DiskAt w1 b m s → PAt w1 p b m sm rb s q) := fun w1 hT1 hP1 hD1 => ⟨hD1, hP1, HA.out.laid, HA.out.apart, HA.out.s1, HA.out.s2, HA.out.s3, HA.out.s0, HA.out.tab.turn hT1 (by have := HA.out.pos.1; simp; omega), HA.out.pos⟩
  have HPB : Hid (∀ i, i < 512 → fB s n i = pageB l i) := by
    intro i hi
    unfold fB
    rw [HF.out, bytesOf_get _ _ _ hi]
  have hlen : pageLen (fB s n) = l.length := by
    rw [← page_len l hl]
    unfold pageLen
    rw [bytesOf_congr fun i hi => HPB.out i (by omega)]
  have HLen := hide hlen
  clear hlen
  go_enter Tryz.func64, Tryz.ntmps64
  go_wp2_with fail
  refine HI.out.mono ?_
  rintro e w1 ⟨rfl, hP1, hD1, hT1⟩
  have HA1 := hide (HB.out w1 hT1 hP1 hD1)
  clear hP1 hD1
  go_wp2_with fail
  refine (isThere_any p b m sm rb s q hd (n : Nat) w1 HA1.out).mono ?_
  rintro e w2 ⟨rfl, ⟨r, hr, hA2⟩, hT2⟩
  obtain rfl := hr Hi.out
  rw [Hi.out]
  have HA2 := hide hA2
  have hs2 := (hT1.trans hT2).size
  clear hA2 hr
  go_wp2_with fail
  refine (pread_ok p b m sm rb s.n _ 0 _ HA2.out.apart s HA2.out.laid.good hd n hnN w2 HA2.out.disk HA2.out.pg).mono ?_
  rintro e w3 ⟨rfl, hR3, hP3, hD3, hT3, _⟩
  have HR3 := hide hR3
  have HA3 : Hid (PAt w3 p b m sm rb s { q with rd := true }) := ⟨hD3, hP3, HA2.out.laid, HA2.out.apart, HA2.out.s1, HA2.out.s2, HA2.out.s3, HA2.out.s0, HA2.out.tab.turn hT3.turn (by have := HA2.out.pos.1; simp; omega), HA2.out.pos⟩
  clear hR3 hP3 hD3
  go_wp2_with fail
  refine (pageBytes_any w2.heap.size (fB s n) (fB_lt HA3.out.laid.byte n) w3 HR3.out).mono ?_
  rintro e w4 ⟨o, rfl, ho, rfl⟩
  rw [HLen.out] at ho ⊢
  go_wp2_with fail
  go_ret2
  refine ⟨w2.heap.size, o, hs2, HR3.out.lt, rfl, ?_, HR3.out.fz, HA3.out, (hT1.trans hT2).trans hT3.turn⟩
  rcases ho with h | h
  · left; exact List.eq_nil_of_length_eq_zero h
  · subst h
    have := HR3.out.bytes 16 l.length (by omega)
    rw [bytesOf_congr (B := fun i => pageB l (16 + i)) (fun i hi => HPB.out _ (by omega)), page_bytes] at this
    exact this

set_option maxRecDepth 100000 in
set_option maxHeartbeats 1600000 in
theorem read_no (p b m sm rb : Nat) (s : St) (q : Pg) (hd : s.dead = false) (hq : q.dead = false) (i : Int) (hi : q.thereI s.n i = false) (w : World) (hA : PAt w p b m sm rb s q) :
    Calls Tryz.prog 64 #[.pointer (some ⟨p, 0, none⟩), .int .i64 i] w fun e w' => e = .returned (.tuple #[.slice none 0 0, .int .i64 2]) ∧ (∃ r, PAt w' p b m sm rb s { q with rd := r }) ∧ Turn [p] w w' := by
  have hnot : ∀ (x : Bool) (w : World), (Op.unary .not (.bool x)).run Tryz.prog w = .ok (.bool (!x)) w := fun _ _ => rfl
  have HI := hide (isDead_no p b m sm rb s.n q.word 0 q s hq hd w hA.disk hA.pg hA.apart)
  have HA := hide hA
  have Hi := hide hi
  clear hA hi
  go_enter Tryz.func64, Tryz.ntmps64
  go_wp2_with fail
  refine HI.out.mono ?_
  rintro e w1 ⟨rfl, hP1, hD1, hT1⟩
  have HA1 : Hid (PAt w1 p b m sm rb s q) := ⟨hD1, hP1, HA.out.laid, HA.out.apart, HA.out.s1, HA.out.s2, HA.out.s3, HA.out.s0, HA.out.tab.turn hT1 (by have := HA.out.pos.1; simp; omega), HA.out.pos⟩
  clear hP1 hD1
  go_wp2_with fail
  refine (isThere_any p b m sm rb s q hd i w1 HA1.out).mono ?_
  rintro e w2 ⟨rfl, ⟨r, _, hA2⟩, hT2⟩
  rw [Hi.out]
  have HA2 := hide hA2
  clear hA2
  go_wp2_with fail
  go_ret2
  exact ⟨rfl, ⟨r, HA2.out⟩, hT1.trans hT2⟩
end Go.Proofs.YthgpjkcgccdldaaGreatDoor
