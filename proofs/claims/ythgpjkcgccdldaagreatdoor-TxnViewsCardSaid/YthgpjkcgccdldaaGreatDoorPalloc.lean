/-
  Alloc of a pager, walked.
-/
import Derived.Test.YthgpjkcgccdldaaGreatDoorPops
namespace Go.Proofs.YthgpjkcgccdldaaGreatDoor
open Go.RowKit Go.Maps

set_option maxRecDepth 100000 in
theorem St.out_no {s : St} {j : Nat} (hj : j < s.n) : s.out j = false := by unfold St.out; simp; omega
/-- A write that is done. -/
def St.did (s : St) (j : Nat) (l : List Nat) : St := { s with k := s.k + 1, left := if s.left < 0 then s.left else s.left - 1, f := put s.f j l }
set_option maxRecDepth 100000 in
theorem St.write_did {s : St} {j : Nat} {l : List Nat} (hd : s.dead = false) (hj : j < s.n) (hl : l.length = 512) (h0 : s.left ≠ 0) : s.write j l = s.did j l ∧ s.writeErr j 512 = 0 := by
  have ho := St.out_no hj
  constructor
  · unfold St.write St.did
    simp [hd, ho, hl, h0]
  · unfold St.writeErr
    simp [hd, ho, h0]
set_option maxRecDepth 100000 in
theorem St.write_cut {s : St} {j : Nat} {l : List Nat} (hd : s.dead = false) (hj : j < s.n) (hl : l.length = 512) (h0 : s.left = 0) : s.write j l = { s with dead := true } ∧ s.writeErr j 512 = 12 := by
  have ho := St.out_no hj
  constructor
  · unfold St.write
    simp [hd, ho, hl, h0]
  · unfold St.writeErr
    simp [hd, ho, h0]
set_option maxRecDepth 100000 in
theorem St.did_f (s : St) (j i : Nat) (l : List Nat) (h : i ≠ j) : (s.did j l).f i = s.f i := by show put s.f j l i = _; unfold put; rw [if_neg h]
set_option maxRecDepth 100000 in
theorem St.did_f_same (s : St) (j : Nat) (l : List Nat) : (s.did j l).f j = l := by show put s.f j l j = _; unfold put; rw [if_pos rfl]
set_option maxRecDepth 100000 in
theorem St.Good.did {s : St} (h : s.Good) {j : Nat} {l : List Nat} (hl : l.length = 512) (hk : s.k < 1000000) : (s.did j l).Good := by
  have h1 := h.l1
  have h2 := h.l2
  refine ⟨h.n1, by show s.k + 1 ≤ _; omega, ?_, ?_, ?_⟩
  · show -1 ≤ if s.left < 0 then s.left else s.left - 1
    split <;> omega
  · show (if s.left < 0 then s.left else s.left - 1) ≤ _
    split <;> omega
  · intro i
    show (put s.f j l i).length = 512
    unfold put
    split
    · exact hl
    · exact h.len i

set_option maxRecDepth 100000 in
theorem fB_of {s t : St} {i : Nat} (h : t.f i = s.f i) : fB t i = fB s i := by funext j; unfold fB; rw [h]

set_option maxRecDepth 100000 in
theorem Laid.dead {s : St} {c : Nat} {root : List Nat} {K : Nat → Bool} (h : Laid s c root K) (x : Bool) : Laid { s with dead := x } c root K :=
  ⟨⟨h.good.n1, h.good.k1, h.good.l1, h.good.l2, h.good.len⟩, h.n64, h.n4096, h.byte, h.num, h.ck, h.zero, h.some, h.map, h.kr, h.rl, h.rbytes⟩

set_option maxRecDepth 100000 in
/-- A write that touches neither the heads, nor the map that holds. -/
theorem Laid.did {s : St} {c : Nat} {root : List Nat} {K : Nat → Bool} (h : Laid s c root K) {j : Nat} (hj : 2 ≤ j) (hj2 : j ≠ 2 + c % 2) {l : List Nat} (hl : l.length = 512) (hb : ∀ x ∈ l, x < 256) (hk : s.k < 1000000) : Laid (s.did j l) c root K := by
  have hf : ∀ i, i < 2 → fB (s.did j l) i = fB s i := fun i hi => fB_of (s.did_f j i l (by omega))
  refine ⟨h.good.did hl hk, h.n64, h.n4096, ?_, ?_, by show c ≤ s.k + 1; have := h.ck; omega, ?_, ?_, ?_, h.kr, h.rl, h.rbytes⟩
  · intro i x hx
    by_cases e : i = j
    · rw [e, St.did_f_same] at hx; exact hb x hx
    · rw [St.did_f _ _ _ _ e] at hx; exact h.byte i x hx
  · intro i hi; rw [hf i hi]; exact h.num i hi
  · intro h0; rw [hf 0 (by omega), hf 1 (by omega)]; exact h.zero h0
  · intro h0; rw [hf _ (Nat.mod_lt _ (by decide)), hf _ (Nat.mod_lt _ (by decide))]; exact h.some h0
  · obtain ⟨T, h1, h2, h3⟩ := h.map
    exact ⟨T, h1, by rw [St.did_f _ _ _ _ (by omega)]; exact h2, h3⟩

/-- Behind an Alloc. -/
def Pg.alloced (q : Pg) (n : Nat) : Pg := { q with si := setB q.si n 1, rd := true, u := q.u + 1 }
/-- The page that comes next. -/
def Pg.Next (q : Pg) (N n : Nat) : Prop := n < 16384 ∧ q.tk N n = false ∧ ∀ k, k < n → q.tk N k = true
set_option maxRecDepth 100000 in
theorem Pg.Next.range {q : Pg} {N n : Nat} (h : q.Next N n) : 4 ≤ n ∧ n < N ∧ q.K n = false ∧ q.si n ≠ 1 := by
  have := h.2.1
  unfold Pg.tk at this
  simp at this
  obtain ⟨⟨⟨h1, h2⟩, h3⟩, h4⟩ := this
  exact ⟨h1, h2, h3, h4⟩

set_option maxRecDepth 100000 in
set_option maxHeartbeats 1600000 in
theorem alloc_long (p b m sm rb : Nat) (s : St) (q : Pg) (hd : s.dead = false) (hq : q.dead = false) (a : Option Addr) (cap n : Nat) (hn : 496 < n) (_hn2 : n ≤ maxLen) (w : World) (hA : PAt w p b m sm rb s q) :
    Calls Tryz.prog 135 #[.pointer (some ⟨p, 0, none⟩), .slice a n cap] w fun e w' => e = .returned (.tuple #[.int .i64 0, .int .i64 5]) ∧ PAt w' p b m sm rb s q ∧ Turn [p] w w' := by
  have HI := hide (isDead_no p b m sm rb s.n q.word 0 q s hq hd w hA.disk hA.pg hA.apart)
  have HA := hide hA
  clear hA
  go_enter Tryz.func135, Tryz.ntmps135
  go_wp2_with fail
  refine HI.out.mono ?_
  rintro e w1 ⟨rfl, hP1, hD1, hT1⟩
  have HA1 : Hid (PAt w1 p b m sm rb s q) := ⟨hD1, hP1, HA.out.laid, HA.out.apart, HA.out.s1, HA.out.s2, HA.out.s3, HA.out.s0, HA.out.tab.turn hT1 (by have := HA.out.pos.1; simp; omega), HA.out.pos⟩
  clear hP1 hD1
  go_wp2_with fail
  go_ret2
  exact ⟨rfl, HA1.out, hT1⟩

set_option maxRecDepth 100000 in
set_option maxHeartbeats 3200000 in
theorem alloc_any (p b m sm rb : Nat) (s : St) (q : Pg) (hd : s.dead = false) (hq : q.dead = false) (hu : q.u < 1000000000) (hk : s.k < 1000000) (a : Option Addr) (cap : Nat) (l : List Nat) (n : Nat) (hn : l.length = n) (hl : n ≤ 496) (hb : ∀ x ∈ l, x < 256)
    (w : World) (hB : BytesAt w a l) (hx : ∀ x, l ≠ [] → a = some x → x.block ≠ p) (hA : PAt w p b m sm rb s q) :
    Calls Tryz.prog 135 #[.pointer (some ⟨p, 0, none⟩), .slice a n cap] w fun e w' =>
      (e = .returned (.tuple #[.int .i64 0, .int .i64 13]) ∧ (∀ k, k < 16384 → q.tk s.n k = true) ∧ PAt w' p b m sm rb s { q with rd := true } ∧ Turn [p, b, m, sm] w w') ∨
      (∃ k : Nat, e = .returned (.tuple #[.int .i64 (k : Nat), .int .i64 0]) ∧ q.Next s.n k ∧ s.left ≠ 0 ∧ PAt w' p b m sm rb (s.did k (bytesOf 512 (pageB l))) (q.alloced k) ∧ Turn [p, b, m, sm] w w') ∨
      (∃ k : Nat, e = .returned (.tuple #[.int .i64 0, .int .i64 12]) ∧ q.Next s.n k ∧ s.left = 0 ∧ DiskAt w' b m { s with dead := true } ∧ Turn [p, b, m, sm] w w') := by
  have hnot : ∀ (x : Bool) (w : World), (Op.unary .not (.bool x)).run Tryz.prog w = .ok (.bool (!x)) w := fun _ _ => rfl
  have HI := hide (isDead_no p b m sm rb s.n q.word 0 q s hq hd w hA.disk hA.pg hA.apart)
  have HA := hide hA
  have HB := hide hB
  have HX := hide hx
  have HN := hide hn
  have HBb := hide hb
  clear hA hB hx hn hb
  go_enter Tryz.func135, Tryz.ntmps135
  go_wp2_with fail
  refine HI.out.mono ?_
  rintro e w1 ⟨rfl, hP1, hD1, hT1⟩
  have HA1 : Hid (PAt w1 p b m sm rb s q) := ⟨hD1, hP1, HA.out.laid, HA.out.apart, HA.out.s1, HA.out.s2, HA.out.s3, HA.out.s0, HA.out.tab.turn hT1 (by have := HA.out.pos.1; simp; omega), HA.out.pos⟩
  clear hP1 hD1
  go_wp2_with fail
  refine (freeMap_any p b m sm rb s q hd w1 HA1.out).mono ?_
  rintro e w2 ⟨rfl, hA2, hT2⟩
  obtain ⟨T, hW, hbt⟩ := hA2.pg.wd
  have HA2 := hide hA2
  have HW := hide hW
  have HBt : Hid (∀ k, k < 16384 → bit T k = q.tk s.n k) := fun k hk => by rw [hbt k hk]; rfl
  have hT02 := hT1.trans hT2
  clear hA2 hW hbt hT1 hT2 HA1
  go_wp2_with fail
  refine (firstFree_any p 9 T w2 HW.out HA2.out.tab).mono ?_
  rintro e w3 ⟨v, ok, rfl, hF, hT3⟩
  have HA3 := hide (HA2.out.turn0 hT3)
  have hT03 : Turn [p] w w3 := hT02.then hT3 (by simp)
  clear HA2 hT02 hT3
  rcases hF with ⟨rfl, k, rfl, hk1, hk2, hk3⟩ | ⟨rfl, rfl, hall⟩
  · have hNx : q.Next s.n k := ⟨hk1, by rw [← HBt.out k hk1]; exact hk2, fun j hj => by rw [← HBt.out j (by omega)]; exact hk3 j hj⟩
    obtain ⟨hr1, hr2, hr3, hr4⟩ := hNx.range
    have HNx := hide hNx
    have HB3 := hide (HB.out.turn hT03 (fun x h1 h2 => by simp; exact HX.out x h1 h2))
    have HPg := hide (fun w' (h : BytesAt w' a l) => pageBlock_any a cap l n HN.out hl w' h)
    have hs3 := HA3.out.pg.lt
    clear hNx hk2 hk3 hr3 HB
    go_wp2_with fail
    refine (HPg.out _ HB3.out).mono ?_
    rintro e w4 ⟨rfl, hR4, hT4⟩
    have HA4 := hide (HA3.out.turn0 hT4)
    have HR4 := hide hR4
    have hT04 : Turn [p] w w4 := hT03.then hT4 (by simp)
    have HB4 := hide hR4.bytes0
    have hN16 := HA4.out.laid.n4096
    clear hR4 hT4 hT03 HA3 HB3
    by_cases h0 : s.left = 0
    · have hcut := St.write_cut (l := bytesOf 512 (pageB l)) hd hr2 (bytesOf_length _ _) h0
      have HPw := hide (pwrite_any p b m sm rb s.n _ 0 _ HA4.out.apart s HA4.out.laid.good (k : Nat) w3.heap.size (bytesOf 512 (pageB l)) (bytesOf_length _ _) w4 HB4.out HA4.out.disk HA4.out.pg)
      rw [hcut.1, hcut.2] at HPw
      have H0 := hide h0
      clear hcut h0
      go_wp2_with fail
      refine HPw.out.mono ?_
      rintro e w5 ⟨rfl, _, hD5, hT5, _⟩
      have HD5 := hide hD5
      clear hD5
      go_wp2_with fail
      go_ret2
      exact .inr (.inr ⟨k, rfl, HNx.out, H0.out, HD5.out, (hT04.mono (by simp)).trans (hT5.mono (by simp))⟩)
    · have hdid := St.write_did (l := bytesOf 512 (pageB l)) hd hr2 (bytesOf_length _ _) h0
      have HPw := hide (pwrite_any p b m sm rb s.n _ 0 _ HA4.out.apart s HA4.out.laid.good (k : Nat) w3.heap.size (bytesOf 512 (pageB l)) (bytesOf_length _ _) w4 HB4.out HA4.out.disk HA4.out.pg)
      rw [hdid.1, hdid.2] at HPw
      have H0 := hide h0
      clear hdid h0
      go_wp2_with fail
      refine HPw.out.mono ?_
      rintro e w5 ⟨rfl, hP5, hD5, hT5, _⟩
      rw [if_pos trivial] at hP5
      obtain ⟨T5, hW5, hb5⟩ := hP5.wd
      have HP5 := hide hP5
      have HD5 := hide hD5
      have HW5 := hide hW5
      have HB5 := hide hb5
      have HTab5 := hide (HA4.out.tab.turn hT5 (by have := HA.out.pos; simp; omega))
      clear hP5 hD5 hW5 hb5
      go_wp2_with fail
      refine (take_any p 9 k T5 hk1 w5 HW5.out).mono ?_
      rintro e w6 ⟨rfl, hW6, hT6⟩
      have hP6 := HP5.out.setWords (q' := { q with rd := true, K := fun j => q.K j || decide (j = k) }) hT6.turn (fun o ho => hT6.out o (by omega)) hW6 (fun j hj => by
        rw [bit_takeW, HB5.out j hj]
        unfold Pg.tk
        by_cases e : j = k
        · simp [e]
        · simp [e]) rfl rfl rfl rfl rfl
      have HD6 := hide (HD5.out.turn hT6.turn (by simp; exact Ne.symm HA.out.apart.pb) (by simp; exact Ne.symm HA.out.apart.pm))
      have HTab6 := hide (HTab5.out.turn hT6.turn (by have := HA.out.pos; simp; omega))
      have hcs := hP6.cs
      obtain ⟨j, D, hj, hM, hS⟩ := hP6.since
      have hj' : j ≤ q.u := hj
      obtain ⟨w7, hrun, hM7, hgr⟩ := World.ownsMap.update (t := 111) (e := 3) hM law3 Tryz.underlying111 (by unfold maxLen; omega) (key3 (i := k) (by omega)) (plain3 1 (by omega))
      have hrun' : (Instr.mapUpdate 111 (.map (some sm)) (.int .i64 (k : Nat)) (.int .i64 1)).run Tryz.prog w6 = .ok () w7 := hrun
      have hT7 := turn_of_grown hgr
      have HP7 := hide (hP6.setSince (q' := q.alloced k) hT7 hM7 (by show j + 1 ≤ q.u + 1; omega) (hS.put hM.isMap k 1 (by omega)) HA.out.apart.sr (fun j _ => by
        unfold Pg.tk Pg.alloced setB
        by_cases e : j = k
        · simp [e]
        · simp [e]) rfl rfl rfl)
      have HD7 := hide (HD6.out.turn hT7 (by simp; exact Ne.symm HA.out.apart.sb) (by simp; exact Ne.symm HA.out.apart.smm))
      have HTab7 := hide (HTab6.out.turn hT7 (by have := HA.out.pos; simp; omega))
      clear hP6 hM hM7 hgr hS hj hj' hrun hW6
      go_wp2_with fail
      go_ret2
      refine .inr (.inl ⟨k, rfl, HNx.out, H0.out, ⟨HD7.out, HP7.out, ?_, HA.out.apart, ?_, ?_, ?_, fun h => absurd h (by simp [Pg.alloced]), HTab7.out, HA.out.pos⟩, ?_⟩)
      · exact HA.out.laid.did (by omega) (by omega) (bytesOf_length _ _) (bytesOf_lt (pageB_lt l HBb.out)) hk
      · intro j hj
        have hj : setB q.si k 1 j = 1 := hj
        unfold setB at hj
        split at hj
        · rename_i e
          rw [e]
          exact ⟨HNx.out.range.2.2.1, hr1, hr2⟩
        · exact HA.out.s1 j hj
      · intro j hj
        have hj : setB q.si k 1 j = 2 := hj
        unfold setB at hj
        split at hj
        · omega
        · exact HA.out.s2 j hj
      · intro j
        show setB q.si k 1 j ≤ 2
        unfold setB
        split
        · omega
        · exact HA.out.s3 j
      · exact (((hT04.mono (by simp)).trans (hT5.mono (by simp))).trans (hT6.turn.mono (by simp))).trans (hT7.mono (by simp))
  · have Hall : Hid (∀ k, k < 16384 → q.tk s.n k = true) := fun k hk => by rw [← HBt.out k hk]; exact hall k hk
    clear hall
    go_wp2_with fail
    go_ret2
    exact .inl ⟨rfl, Hall.out, HA3.out, hT03.mono (by simp)⟩

end Go.Proofs.YthgpjkcgccdldaaGreatDoor
