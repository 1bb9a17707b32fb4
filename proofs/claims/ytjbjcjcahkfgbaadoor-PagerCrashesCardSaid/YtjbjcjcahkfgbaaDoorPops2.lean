/-
  Free, Read, Alloc of a pager, walked.
-/
import Derived.Test.YtjbjcjcahkfgbaaDoorPops
namespace Go.Proofs.YtjbjcjcahkfgbaaDoor
open Go.RowKit Go.Maps

theorem key_ne {n k : Nat} (h : n ≠ k) : (Lit.int .i64 (n : Int)) ≠ .int .i64 (k : Int) := fun e => h (by have := (Lit.int.inj e).2; omega)

theorem Since.del {D : DataW Value} {si : Nat → Nat} (h : Since D si) (n : Nat) : Since (D.del (.int .i64 (n : Int))) (setB si n 0) := by
  refine ⟨fun kl hk => ?_, fun k => ?_⟩
  · by_cases e : kl = .int .i64 (n : Int)
    · rw [e, has_del_same] at hk; cases hk
    · rw [has_del_other e] at hk
      obtain ⟨k, rfl, hs⟩ := h.keys kl hk
      refine ⟨k, rfl, ?_⟩
      unfold setB
      rw [if_neg (fun e' => e (by rw [e']))]
      exact hs
  · unfold setB
    by_cases e : k = n
    · rw [e, atKey_del_same, if_pos rfl]; rfl
    · rw [if_neg e, atKey_del_other (key_ne e)]
      exact h.at_ k

theorem Since.put {D : DataW Value} {si : Nat → Nat} (h : Since D si) (hM : IsMap D) (n v : Nat) (hv : v ≠ 0) : Since (D.put (.int .i64 (n : Int)) (.lit (.int .i64 (v : Int)))) (setB si n v) := by
  refine ⟨fun kl hk => ?_, fun k => ?_⟩
  · by_cases e : kl = .int .i64 (n : Int)
    · refine ⟨n, e, ?_⟩
      unfold setB
      rw [if_pos rfl]
      exact hv
    · rw [has_put_other e] at hk
      obtain ⟨k, rfl, hs⟩ := h.keys kl hk
      refine ⟨k, rfl, ?_⟩
      unfold setB
      rw [if_neg (fun e' => e (by rw [e']))]
      exact hs
  · unfold setB
    by_cases e : k = n
    · rw [e, atKey_put_same hM (isKey n), if_pos rfl]
    · rw [if_neg e, atKey_put_other (key_ne e)]
      exact h.at_ k

theorem turn_of_grown {w w' : World} {g : Nat} (h : w.grownBy w' (some g)) : Turn [g] w w' := ⟨h.os, h.tape, h.output, h.size, fun k hk hn => h.block k hk (fun e => hn (by rw [Option.some.inj e]; simp))⟩

/-- 'since' turns. -/
theorem PgAt.setSince {w w' : World} {p b sm rb N : Nat} {d l : Int} {q : Pg} (h : PgAt w p b sm rb N d l q) (hT : Turn [sm] w w') {n : Nat} {D : DataW Value} {q' : Pg} (hM : w'.ownsMap Tryd.prog 3 (plainElem Tryd.prog 3) sm n D) (hn : n ≤ q'.u) (hS : Since D q'.si) (hr : sm ≠ rb)
    (hb : ∀ k, k < 16384 → (q'.rd && q'.tk N k) = (q.rd && q.tk N k)) (e1 : q'.dead = q.dead) (e2 : q'.c = q.c) (e3 : q'.root = q.root) : PgAt w' p b sm rb N d l q' := by
  have hp : p ∉ [sm] := fun hm => h.ne (List.mem_singleton.1 hm)
  have hc : ∀ o, w'.cell? ⟨p, o, none⟩ = w.cell? ⟨p, o, none⟩ := fun o => hT.cell (p := ⟨p, o, none⟩) h.lt hp
  obtain ⟨x1, h1⟩ := h.c1
  obtain ⟨x2, h2⟩ := h.c2
  obtain ⟨ra, rc, h5, hB, hn', hx⟩ := h.c5
  obtain ⟨T, hW, hbt⟩ := h.wd
  exact ⟨(hc 0).trans h.c0, ⟨x1, (hc 1).trans h1⟩, ⟨x2, (hc 2).trans h2⟩, by rw [e1]; exact (hc 3).trans h.c3, by rw [e2]; exact (hc 4).trans h.c4,
    ⟨ra, rc, by rw [e3]; exact (hc 5).trans h5, by rw [e3]; exact hB.turn hT (fun x h1 h2 hm => hr (by rw [← hx x h1 h2]; exact (List.mem_singleton.1 hm).symm)), hn', by rw [e3]; exact hx⟩,
    (hc 6).trans h.c6, (hc 7).trans h.c7, ⟨T, hW.turn hT hp, fun k hk => by rw [hb k hk]; exact hbt k hk⟩, (hc 265).trans h.cs, ⟨n, D, hn, hM, hS⟩, h.ne, h.nr⟩

theorem wf_small {n : Nat} (h : n ≤ 100) : (Lit.int .i64 (n : Int)).wf = true := WalkArith.wf_i64 (by omega)
theorem plain3 (n : Nat) (h : n ≤ 100) : plainElem (H := Value) Tryd.prog 3 (.int .i64 (n : Int)) = some (.lit (.int .i64 (n : Int)), []) := plainElem_int Tryd.underlying3 (wf_small h)

/-- Behind a Free. -/
def Pg.freed (q : Pg) (n : Nat) : Pg := if q.si n = 1 then { q with si := setB q.si n 0, rd := true } else { q with si := setB q.si n 2, rd := true, u := q.u + 1 }

theorem Pg.there_range {q : Pg} {N : Nat} {i : Int} (h : q.thereI N i = true) : ∃ n : Nat, i = n ∧ 4 ≤ n ∧ n < N ∧ q.there n = true := by
  unfold Pg.thereI at h
  simp only [Bool.and_eq_true, decide_eq_true_eq] at h
  obtain ⟨n, rfl⟩ := Int.eq_ofNat_of_zero_le (show 0 ≤ i by omega)
  exact ⟨n, rfl, by omega, by omega, h.2⟩

set_option maxRecDepth 100000 in
set_option maxHeartbeats 1600000 in
theorem free_no (p b m sm rb : Nat) (s : St) (q : Pg) (hd : s.dead = false) (hq : q.dead = false) (i : Int) (hi : q.thereI s.n i = false) (w : World) (hA : PAt w p b m sm rb s q) :
    Calls Tryd.prog 17 #[.pointer (some ⟨p, 0, none⟩), .int .i64 i] w fun e w' => e = .returned (.int .i64 2) ∧ (∃ r, PAt w' p b m sm rb s { q with rd := r }) ∧ Turn [p] w w' := by
  have hnot : ∀ (x : Bool) (w : World), (Op.unary .not (.bool x)).run Tryd.prog w = .ok (.bool (!x)) w := fun _ _ => rfl
  have HI := hide (isDead_no p b m sm rb s.n q.word 0 q s hq hd w hA.disk hA.pg hA.apart)
  have HA := hide hA
  have Hi := hide hi
  clear hA hi
  go_enter Tryd.func17, Tryd.ntmps17
  go_wp2_with fail
  refine HI.out.mono ?_
  rintro e w1 ⟨rfl, hP1, hD1, hT1⟩
  have HA1 : Hid (PAt w1 p b m sm rb s q) := ⟨hD1, hP1, HA.out.laid, HA.out.apart, HA.out.s1, HA.out.s2, HA.out.s3, HA.out.s0, HA.out.tab.turn hT1 (by have := HA.out.pos.1; simp; omega), HA.out.pos⟩
  clear hP1 hD1
  go_wp2_with fail
  refine (isThere_any p b m sm rb s q hd i w1 HA1.out).mono ?_
  rintro e w2 ⟨rfl, ⟨r, _, hA2⟩, hT2⟩
  rw [Hi.out]
  have HA2 := hide hA2
  clear hA2
  go_wp2_with fail
  go_ret
  exact ⟨rfl, ⟨r, HA2.out⟩, hT1.trans hT2⟩

set_option maxRecDepth 100000 in
set_option maxHeartbeats 3200000 in
theorem free_yes (p b m sm rb : Nat) (s : St) (q : Pg) (hd : s.dead = false) (hq : q.dead = false) (hu : q.u < 1000000000) (n : Nat) (hi : q.thereI s.n n = true) (w : World) (hA : PAt w p b m sm rb s q) :
    Calls Tryd.prog 17 #[.pointer (some ⟨p, 0, none⟩), .int .i64 (n : Nat)] w fun e w' => e = .returned (.int .i64 0) ∧ PAt w' p b m sm rb s (q.freed n) ∧ Turn [p, sm] w w' := by
  have hnot : ∀ (x : Bool) (w : World), (Op.unary .not (.bool x)).run Tryd.prog w = .ok (.bool (!x)) w := fun _ _ => rfl
  have HI := hide (isDead_no p b m sm rb s.n q.word 0 q s hq hd w hA.disk hA.pg hA.apart)
  obtain ⟨n', e', hn4, hnN, hth⟩ := Pg.there_range hi
  obtain rfl : n = n' := by omega
  have hN := hA.laid.n4096
  have HA := hide hA
  have Hi := hide hi
  clear hA hi e'
  have hth2 : (q.K n = true ∨ q.si n = 1) ∧ q.si n ≠ 2 := by
    unfold Pg.there at hth
    simpa using hth
  have Hth := hide hth2
  clear hth hth2
  have HB : Hid (∀ w1, Turn [p] w w1 → PgAt w1 p b sm rb s.n q.word 0 q → DiskAt w1 b m s → PAt w1 p b m sm rb s q) := fun w1 hT1 hP1 hD1 => ⟨hD1, hP1, HA.out.laid, HA.out.apart, HA.out.s1, HA.out.s2, HA.out.s3, HA.out.s0, HA.out.tab.turn hT1 (by have := HA.out.pos.1; simp; omega), HA.out.pos⟩
  by_cases h1 : q.si n = 1
  · have HE : Hid (q.freed n = { q with si := setB q.si n 0, rd := true }) := by show _ = _; unfold Pg.freed; rw [if_pos h1]
    have H1 := hide h1
    clear h1
    go_enter Tryd.func17, Tryd.ntmps17
    go_wp2_with fail
    refine HI.out.mono ?_
    rintro e w1 ⟨rfl, hP1, hD1, hT1⟩
    have HA1 := hide (HB.out w1 hT1 hP1 hD1)
    clear hP1 hD1
    go_wp2_with fail
    refine (isThere_any p b m sm rb s q hd (n : Nat) w1 HA1.out).mono ?_
    rintro e w2 ⟨rfl, ⟨r, hr, hA2⟩, hT2⟩
    obtain rfl := hr Hi.out
    rw [Hi.out]
    have hlk := since_look hA2.pg n (by omega)
    have hl1 : ({ q with rd := true } : Pg).si n = 1 := H1.out
    rw [hl1] at hlk
    have hcs := hA2.pg.cs
    obtain ⟨k, D, hk, hM, hS⟩ := hA2.pg.since
    obtain ⟨w3, hrun, hM3, hmt⟩ := hM.drop law3 Tryd.underlying65 (key3 (i := n) (by omega)) 0
    have hT3 := turn_of_grown hmt.grown
    have HP3 := hide (hA2.pg.setSince (q' := { q with rd := true, si := setB q.si n 0, K := fun k => q.K k || decide (k = n) }) hT3 hM3 hk (hS.del n) HA.out.apart.sr (fun k _ => by
      unfold Pg.tk setB
      by_cases e : k = n
      · subst e; simp [H1.out]
      · simp [e]) rfl rfl rfl)
    have HD3 := hide (hA2.disk.turn hT3 (by simp; exact Ne.symm HA.out.apart.sb) (by simp; exact Ne.symm HA.out.apart.smm))
    have HA2 := hide hA2
    clear hA2 hM hM3 hmt hS hl1 hr hk
    obtain ⟨T, hW, hb⟩ := HP3.out.wd
    have HW := hide hW
    have HBt := hide hb
    have HTab3 := hide (HA2.out.tab.turn hT3 (by have := HA.out.pos.2.2.2; simp; omega))
    clear hW hb
    go_wp2_with fail
    refine (free_any p 9 n T (by omega) w3 HW.out).mono ?_
    rintro e w4 ⟨rfl, hW4, hT4⟩
    have HP4 := hide (HP3.out.setWords (q' := { q with si := setB q.si n 0, rd := true }) hT4.turn (fun o ho => hT4.out o (by omega)) hW4 (fun k hk => by
      rw [bit_freeW, HBt.out k hk]
      have hs1 := HA.out.s1 n H1.out
      unfold Pg.tk setB
      by_cases e : k = n
      · subst e
        have h4 : ¬ k < 4 := by omega
        have h5 : ¬ s.n ≤ k := by omega
        simp [hs1.1, h4, h5]
      · simp [e]) rfl rfl rfl rfl rfl)
    have HD4 := hide (HD3.out.turn hT4.turn (by simp; exact Ne.symm HA.out.apart.pb) (by simp; exact Ne.symm HA.out.apart.pm))
    have HTab4 := hide (HTab3.out.turn hT4.turn (by have := HA.out.pos.1; simp; omega))
    clear hW4
    go_wp2_with fail
    go_ret
    refine ⟨rfl, ?_, ?_⟩
    · rw [HE.out]
      refine ⟨HD4.out, HP4.out, HA.out.laid, HA.out.apart, ?_, ?_, ?_, fun h => absurd h (by simp), HTab4.out, HA.out.pos⟩
      · intro k hk
        simp only [setB] at hk
        split at hk
        · omega
        · exact HA.out.s1 k hk
      · intro k hk
        simp only [setB] at hk
        split at hk
        · omega
        · exact HA.out.s2 k hk
      · intro k
        show setB q.si n 0 k ≤ 2
        unfold setB
        split
        · omega
        · exact HA.out.s3 k
    · exact (((hT1.trans hT2).mono (by simp)).trans (hT3.mono (by simp))).trans (hT4.turn.mono (by simp))
  · have HE : Hid (q.freed n = { q with si := setB q.si n 2, rd := true, u := q.u + 1 }) := by show _ = _; unfold Pg.freed; rw [if_neg h1]
    have hK : q.K n = true := by
      rcases Hth.out.1 with h | h
      · exact h
      · exact absurd h h1
    have H1 := hide h1
    have HK := hide hK
    have t1 : ((q.si n : Int) == 1) = false := by rw [beq_eq_false_iff_ne]; omega
    clear h1 hK
    go_enter Tryd.func17, Tryd.ntmps17
    go_wp2_with fail
    refine HI.out.mono ?_
    rintro e w1 ⟨rfl, hP1, hD1, hT1⟩
    have HA1 := hide (HB.out w1 hT1 hP1 hD1)
    clear hP1 hD1
    go_wp2_with fail
    refine (isThere_any p b m sm rb s q hd (n : Nat) w1 HA1.out).mono ?_
    rintro e w2 ⟨rfl, ⟨r, hr, hA2⟩, hT2⟩
    obtain rfl := hr Hi.out
    rw [Hi.out]
    have hlk := since_look hA2.pg n (by omega)
    have hl1 : ({ q with rd := true } : Pg).si n = q.si n := rfl
    rw [hl1] at hlk
    have hcs := hA2.pg.cs
    obtain ⟨k, D, hk, hM, hS⟩ := hA2.pg.since
    have hk' : k ≤ q.u := hk
    obtain ⟨w3, hrun, hM3, hgr⟩ := World.ownsMap.update (t := 65) (e := 3) hM law3 Tryd.underlying65 (by unfold maxLen; omega) (key3 (i := n) (by omega)) (plain3 2 (by omega))
    have hrun' : (Instr.mapUpdate 65 (.map (some sm)) (.int .i64 (n : Nat)) (.int .i64 2)).run Tryd.prog w2 = .ok () w3 := hrun
    clear hrun
    have hT3 := turn_of_grown hgr
    have HP3 := hide (hA2.pg.setSince (q' := { q with si := setB q.si n 2, rd := true, u := q.u + 1 }) hT3 hM3 (by show k + 1 ≤ q.u + 1; omega) (hS.put hM.isMap n 2 (by omega)) HA.out.apart.sr (fun k _ => by
      unfold Pg.tk setB
      by_cases e : k = n
      · subst e; simp [HK.out]
      · simp [e]) rfl rfl rfl)
    have HD3 := hide (hA2.disk.turn hT3 (by simp; exact Ne.symm HA.out.apart.sb) (by simp; exact Ne.symm HA.out.apart.smm))
    have HTab3 := hide (hA2.tab.turn hT3 (by have := HA.out.pos.2.2.2; simp; omega))
    clear hA2 hM hM3 hgr hS hl1 hr hk hk'
    go_wp2_with fail
    go_ret
    refine ⟨rfl, ?_, ?_⟩
    · rw [HE.out]
      refine ⟨HD3.out, HP3.out, HA.out.laid, HA.out.apart, ?_, ?_, ?_, fun h => absurd h (by simp), HTab3.out, HA.out.pos⟩
      · intro k hk
        simp only [setB] at hk
        split at hk
        · omega
        · exact HA.out.s1 k hk
      · intro k hk
        simp only [setB] at hk
        split at hk
        · rename_i e
          rw [e]
          exact HK.out
        · exact HA.out.s2 k hk
      · intro k
        show setB q.si n 2 k ≤ 2
        unfold setB
        split
        · omega
        · exact HA.out.s3 k
    · exact ((hT1.trans hT2).mono (by simp)).trans (hT3.mono (by simp))

/-- Read, of a page that there is. -/
def Told (P : Prop) : Prop := P

set_option maxRecDepth 100000 in
set_option maxHeartbeats 3200000 in
theorem read_yes (p b m sm rb : Nat) (s : St) (q : Pg) (hd : s.dead = false) (hq : q.dead = false) (n : Nat) (hi : q.thereI s.n n = true) (l : List Nat) (hl : l.length ≤ 496) (hf : s.f n = bytesOf 512 (pageB l)) (w : World) (hA : PAt w p b m sm rb s q) :
    Calls Tryd.prog 19 #[.pointer (some ⟨p, 0, none⟩), .int .i64 (n : Nat)] w fun e w' => ∃ g o, w.heap.size ≤ g ∧ g < w'.heap.size ∧ e = .returned (.tuple #[.slice (some ⟨g, o, none⟩) l.length l.length, .int .i64 0]) ∧ BytesAt w' (some ⟨g, o, none⟩) l ∧ (∀ j, w'.frozen? ⟨g, j, none⟩ = false) ∧ PAt w' p b m sm rb s { q with rd := true } ∧ Turn [p] w w' := by
  have hnot : ∀ (x : Bool) (w : World), (Op.unary .not (.bool x)).run Tryd.prog w = .ok (.bool (!x)) w := fun _ _ => rfl
  have HI := hide (isDead_no p b m sm rb s.n q.word 0 q s hq hd w hA.disk hA.pg hA.apart)
  obtain ⟨n', e', hn4, hnN, _⟩ := Pg.there_range hi
  obtain rfl : n = n' := by omega
  have HA := hide hA
  have Hi := hide hi
  have HF := hide hf
  clear hA hi e' hf
  have HB : Hid (∀ w1, Turn [p] w w1 → PgAt w1 p b sm rb s.n q.word 0 q → DiskAt w1 b m s → PAt w1 p b m sm rb s q) := fun w1 hT1 hP1 hD1 => ⟨hD1, hP1, HA.out.laid, HA.out.apart, HA.out.s1, HA.out.s2, HA.out.s3, HA.out.s0, HA.out.tab.turn hT1 (by have := HA.out.pos.1; simp; omega), HA.out.pos⟩
  have HPB : Hid (∀ i, i < 512 → fB s n i = pageB l i) := by
    intro i hi
    unfold fB
    rw [HF.out, bytesOf_get _ _ _ hi]
  have hlen : pageLen (fB s n) = l.length := by
    rw [← page_len l hl]
    unfold pageLen
    rw [bytesOf_congr fun i hi => HPB.out i (by omega)]
  have HLen := hide hlen
  clear hlen
  go_enter Tryd.func19, Tryd.ntmps19
  go_wp2_with fail
  refine HI.out.mono ?_
  rintro e w1 ⟨rfl, hP1, hD1, hT1⟩
  have HA1 := hide (HB.out w1 hT1 hP1 hD1)
  clear hP1 hD1
  go_wp2_with fail
  refine (isThere_any p b m sm rb s q hd (n : Nat) w1 HA1.out).mono ?_
  rintro e w2 ⟨rfl, ⟨r, hr, hA2⟩, hT2⟩
  obtain rfl := hr Hi.out
  rw [Hi.out]
  have HA2 := hide hA2
  have hs2 := (hT1.trans hT2).size
  clear hA2 hr
  go_wp2_with fail
  refine (pread_ok p b m sm rb s.n _ 0 _ HA2.out.apart s HA2.out.laid.good hd n hnN w2 HA2.out.disk HA2.out.pg).mono ?_
  rintro e w3 ⟨rfl, hR3, hP3, hD3, hT3, _⟩
  have HR3 := hide hR3
  have HA3 : Hid (PAt w3 p b m sm rb s { q with rd := true }) := ⟨hD3, hP3, HA2.out.laid, HA2.out.apart, HA2.out.s1, HA2.out.s2, HA2.out.s3, HA2.out.s0, HA2.out.tab.turn hT3.turn (by have := HA2.out.pos.1; simp; omega), HA2.out.pos⟩
  clear hR3 hP3 hD3
  go_wp2_with fail
  refine (pageBytes_any w2.heap.size (fB s n) (fB_lt HA3.out.laid.byte n) w3 HR3.out).mono ?_
  rintro e w4 ⟨o, rfl, ho, rfl⟩
  rw [HLen.out] at ho ⊢
  go_wp2_with fail
  go_ret2
  refine ⟨w2.heap.size, o, hs2, HR3.out.lt, rfl, ?_, HR3.out.fz, HA3.out, (hT1.trans hT2).trans hT3.turn⟩
  rcases ho with h | h
  · left; exact List.eq_nil_of_length_eq_zero h
  · subst h
    have := HR3.out.bytes 16 l.length (by omega)
    rw [bytesOf_congr (B := fun i => pageB l (16 + i)) (fun i hi => HPB.out _ (by omega)), page_bytes] at this
    exact this

set_option maxRecDepth 100000 in
set_option maxHeartbeats 1600000 in
theorem read_no (p b m sm rb : Nat) (s : St) (q : Pg) (hd : s.dead = false) (hq : q.dead = false) (i : Int) (hi : q.thereI s.n i = false) (w : World) (hA : PAt w p b m sm rb s q) :
    Calls Tryd.prog 19 #[.pointer (some ⟨p, 0, none⟩), .int .i64 i] w fun e w' => e = .returned (.tuple #[.slice none 0 0, .int .i64 2]) ∧ (∃ r, PAt w' p b m sm rb s { q with rd := r }) ∧ Turn [p] w w' := by
  have hnot : ∀ (x : Bool) (w : World), (Op.unary .not (.bool x)).run Tryd.prog w = .ok (.bool (!x)) w := fun _ _ => rfl
  have HI := hide (isDead_no p b m sm rb s.n q.word 0 q s hq hd w hA.disk hA.pg hA.apart)
  have HA := hide hA
  have Hi := hide hi
  clear hA hi
  go_enter Tryd.func19, Tryd.ntmps19
  go_wp2_with fail
  refine HI.out.mono ?_
  rintro e w1 ⟨rfl, hP1, hD1, hT1⟩
  have HA1 : Hid (PAt w1 p b m sm rb s q) := ⟨hD1, hP1, HA.out.laid, HA.out.apart, HA.out.s1, HA.out.s2, HA.out.s3, HA.out.s0, HA.out.tab.turn hT1 (by have := HA.out.pos.1; simp; omega), HA.out.pos⟩
  clear hP1 hD1
  go_wp2_with fail
  refine (isThere_any p b m sm rb s q hd i w1 HA1.out).mono ?_
  rintro e w2 ⟨rfl, ⟨r, _, hA2⟩, hT2⟩
  rw [Hi.out]
  have HA2 := hide hA2
  clear hA2
  go_wp2_with fail
  go_ret2
  exact ⟨rfl, ⟨r, HA2.out⟩, hT1.trans hT2⟩
end Go.Proofs.YtjbjcjcahkfgbaaDoor
