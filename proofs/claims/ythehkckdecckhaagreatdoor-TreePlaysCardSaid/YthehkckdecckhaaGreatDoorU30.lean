/-
  How many pages can be allocated: bounds and steps.
  Alloc of a pager, walked.
  Going through 'since', in whatever order; Abort of a pager, walked.
  writeCommit of a pager, walked.
  Commit of a pager, walked.
-/
import Derived.Test.YthehkckdecckhaaGreatDoorU29

namespace Go.Proofs.YthehkckdecckhaaGreatDoor

set_option maxRecDepth 100000 in
theorem fc_succ (t : Nat → Bool) (n : Nat) : freeCount t (n + 1) = freeCount t n + if t n = true then 0 else 1 := by
  unfold freeCount
  rw [List.range_succ, List.countP_append]
  congr 1
  rw [List.countP_singleton]
  cases t n <;> rfl

set_option maxRecDepth 100000 in
theorem fc_mono {s t : Nat → Bool} (n : Nat) (h : ∀ k, k < n → s k = true → t k = true) : freeCount t n ≤ freeCount s n := by
  induction n with
  | zero => exact Nat.le_refl _
  | succ n ih =>
    rw [fc_succ, fc_succ]
    have := ih fun k hk => h k (by omega)
    by_cases hs : s n = true
    · rw [if_pos hs, if_pos (h n (by omega) hs)]; omega
    · rw [if_neg hs]; split <;> omega

set_option maxRecDepth 100000 in
/-- One more is taken. -/
theorem fc_more (t : Nat → Bool) (k n : Nat) : freeCount t n ≤ freeCount (fun j => t j || decide (j = k)) n + 1 := by
  have h : ∀ n, freeCount t n ≤ freeCount (fun j => t j || decide (j = k)) n + (if k < n then 1 else 0) := by
    intro n
    induction n with
    | zero => exact Nat.zero_le _
    | succ n ih =>
      rw [fc_succ, fc_succ]
      by_cases e : n = k
      · subst e
        rw [if_pos (show n < n + 1 by omega)]
        rw [if_neg (show ¬ n < n by omega)] at ih
        have : (if (t n || decide (n = n)) = true then 0 else 1) = 0 := by simp
        rw [this]
        split <;> omega
      · have : (t n || decide (n = k)) = t n := by simp [e]
        rw [this]
        have h1 : (if k < n + 1 then 1 else 0) = (if k < n then 1 else 0) := by
          by_cases h : k < n
          · rw [if_pos h, if_pos (by omega)]
          · rw [if_neg h, if_neg (by omega)]
        rw [h1]
        omega
  have := h n
  split at this <;> omega

set_option maxRecDepth 100000 in
/-- One that was taken is let go. -/
theorem fc_less (t : Nat → Bool) (k n : Nat) (hk : k < n) (ht : t k = true) : freeCount (fun j => t j && !decide (j = k)) n = freeCount t n + 1 := by
  have h : ∀ n, freeCount (fun j => t j && !decide (j = k)) n = freeCount t n + (if k < n then 1 else 0) := by
    intro n
    induction n with
    | zero => rfl
    | succ n ih =>
      rw [fc_succ, fc_succ, ih]
      by_cases e : n = k
      · subst e
        rw [if_pos (show n < n + 1 by omega), if_neg (show ¬ n < n by omega), if_pos ht]
        have : (if (t n && !decide (n = n)) = true then 0 else 1) = 1 := by simp
        rw [this]
      · have : (t n && !decide (n = k)) = t n := by simp [e]
        rw [this]
        have h1 : (if k < n + 1 then 1 else 0) = (if k < n then 1 else 0) := by
          by_cases h : k < n
          · rw [if_pos h, if_pos (by omega)]
          · rw [if_neg h, if_neg (by omega)]
        rw [h1]
        omega
  rw [h n, if_pos hk]

set_option maxRecDepth 100000 in
theorem fc_list (t : Nat → Bool) (L : List Nat) (n : Nat) : freeCount t n ≤ freeCount (fun j => t j || decide (j ∈ L)) n + L.length := by
  induction L generalizing t with
  | nil =>
    have : (fun j => t j || decide (j ∈ ([] : List Nat))) = t := by funext j; simp
    rw [this]
    exact Nat.le_refl _
  | cons x L ih =>
    have h1 := fc_more t x n
    have h2 := ih (fun j => t j || decide (j = x))
    have e : (fun j => (t j || decide (j = x)) || decide (j ∈ L)) = fun j => t j || decide (j ∈ x :: L) := by
      funext j
      by_cases h3 : j = x <;> by_cases h4 : j ∈ L <;> simp [h3, h4]
    rw [e] at h2
    rw [List.length_cons]
    omega

set_option maxRecDepth 100000 in
theorem fc_base (F N n : Nat) : freeCount (fun k => decide (k < F) || decide (N ≤ k)) n = min n N - F := by
  induction n with
  | zero => simp [freeCount]
  | succ n ih =>
    rw [fc_succ, ih]
    by_cases h1 : n < F
    · simp [h1]; omega
    · by_cases h2 : N ≤ n
      · simp [h2]; omega
      · simp [h1, h2]; omega

set_option maxRecDepth 100000 in
/-- There is room for all but those that are used. -/
theorem left_ge (q : Pg) (N : Nat) (hN : N ≤ 16384) (L : List Nat) (h : ∀ k, fp N ≤ k → k < N → (q.K k || q.si k == 1) = true → k ∈ L) : N - fp N ≤ q.left N + L.length := by
  have h1 := fc_list (fun k => decide (k < fp N) || decide (N ≤ k)) L 16384
  rw [fc_base, Nat.min_eq_right hN] at h1
  have h2 : freeCount (fun k => (decide (k < fp N) || decide (N ≤ k)) || decide (k ∈ L)) 16384 ≤ q.left N := fc_mono 16384 fun k _ hk => by
    unfold Pg.tk at hk
    by_cases h3 : k < fp N
    · simp [h3]
    · by_cases h4 : N ≤ k
      · simp [h4]
      · have : (q.K k || q.si k == 1) = true := by simpa [h3, h4] using hk
        simp [h k (by omega) (by omega) this]
  omega

set_option maxRecDepth 100000 in
theorem left_le (q : Pg) (N : Nat) : q.left N ≤ 16384 := freeCount_le _ _

set_option maxRecDepth 100000 in
/-- None is left just where all are taken. -/
theorem fc_zero (t : Nat → Bool) (n : Nat) : freeCount t n = 0 ↔ ∀ k, k < n → t k = true := by
  induction n with
  | zero => simp [freeCount]
  | succ n ih =>
    rw [fc_succ]
    constructor
    · intro h k hk
      by_cases e : k = n
      · subst e
        by_cases ht : t k = true
        · exact ht
        · rw [if_neg ht] at h; omega
      · exact ih.1 (by omega) k (by omega)
    · intro h
      rw [if_pos (h n (by omega))]
      have := ih.2 fun k hk => h k (by omega)
      omega
end Go.Proofs.YthehkckdecckhaaGreatDoor

namespace Go.Proofs.YthehkckdecckhaaGreatDoor
open Go.RowKit Go.Maps

set_option maxRecDepth 100000 in
theorem St.out_no {s : St} {j : Nat} (hj : j < s.n) : s.out j = false := by unfold St.out; simp; omega
/-- A write that is done. -/
def St.did (s : St) (j : Nat) (l : List Nat) : St := { s with k := s.k + 1, left := if s.left < 0 then s.left else s.left - 1, f := put s.f j l }
set_option maxRecDepth 100000 in
theorem St.write_did {s : St} {j : Nat} {l : List Nat} (hd : s.dead = false) (hj : j < s.n) (hl : l.length = 512) (h0 : s.left ≠ 0) : s.write j l = s.did j l ∧ s.writeErr j 512 = 0 := by
  have ho := St.out_no hj
  constructor
  · unfold St.write St.did
    simp [hd, ho, hl, h0]
  · unfold St.writeErr
    simp [hd, ho, h0]
set_option maxRecDepth 100000 in
theorem St.write_cut {s : St} {j : Nat} {l : List Nat} (hd : s.dead = false) (hj : j < s.n) (hl : l.length = 512) (h0 : s.left = 0) : s.write j l = { s with dead := true } ∧ s.writeErr j 512 = 12 := by
  have ho := St.out_no hj
  constructor
  · unfold St.write
    simp [hd, ho, hl, h0]
  · unfold St.writeErr
    simp [hd, ho, h0]
set_option maxRecDepth 100000 in
theorem St.did_f (s : St) (j i : Nat) (l : List Nat) (h : i ≠ j) : (s.did j l).f i = s.f i := by show put s.f j l i = _; unfold put; rw [if_neg h]
set_option maxRecDepth 100000 in
theorem St.did_f_same (s : St) (j : Nat) (l : List Nat) : (s.did j l).f j = l := by show put s.f j l j = _; unfold put; rw [if_pos rfl]
set_option maxRecDepth 100000 in
theorem St.Good.did {s : St} (h : s.Good) {j : Nat} {l : List Nat} (hl : l.length = 512) (hk : s.k < 1000000) : (s.did j l).Good := by
  have h1 := h.l1
  have h2 := h.l2
  refine ⟨h.n1, by show s.k + 1 ≤ _; omega, ?_, ?_, ?_⟩
  · show -1 ≤ if s.left < 0 then s.left else s.left - 1
    split <;> omega
  · show (if s.left < 0 then s.left else s.left - 1) ≤ _
    split <;> omega
  · intro i
    show (put s.f j l i).length = 512
    unfold put
    split
    · exact hl
    · exact h.len i

set_option maxRecDepth 100000 in
theorem fB_of {s t : St} {i : Nat} (h : t.f i = s.f i) : fB t i = fB s i := by funext j; unfold fB; rw [h]

set_option maxRecDepth 100000 in
theorem Laid.dead {s : St} {c : Nat} {root : List Nat} {K : Nat → Bool} (h : Laid s c root K) (x : Bool) : Laid { s with dead := x } c root K :=
  ⟨⟨h.good.n1, h.good.k1, h.good.l1, h.good.l2, h.good.len⟩, h.n64, h.n16, h.byte, h.num, h.ck, h.zero, h.some, h.map, h.kr, h.rl, h.rbytes⟩

set_option maxRecDepth 100000 in
/-- A write that touches neither the heads, nor the map that holds. -/
theorem Laid.did {s : St} {c : Nat} {root : List Nat} {K : Nat → Bool} (h : Laid s c root K) {j : Nat} (hj : 2 ≤ j) (hj2 : j < 2 + c % 2 * mbs s.n ∨ 2 + c % 2 * mbs s.n + mbs s.n ≤ j) {l : List Nat} (hl : l.length = 512) (hb : ∀ x ∈ l, x < 256) (hk : s.k < 1000000) : Laid (s.did j l) c root K := by
  have hf : ∀ i, i < 2 → fB (s.did j l) i = fB s i := fun i hi => fB_of (s.did_f j i l (by omega))
  refine ⟨h.good.did hl hk, h.n64, h.n16, ?_, ?_, by show c ≤ s.k + 1; have := h.ck; omega, ?_, ?_, ?_, h.kr, h.rl, h.rbytes⟩
  · intro i x hx
    by_cases e : i = j
    · rw [e, St.did_f_same] at hx; exact hb x hx
    · rw [St.did_f _ _ _ _ e] at hx; exact h.byte i x hx
  · intro i hi; rw [hf i hi]; exact h.num i hi
  · intro h0; rw [hf 0 (by omega), hf 1 (by omega)]; exact h.zero h0
  · intro h0; rw [hf _ (Nat.mod_lt _ (by decide)), hf _ (Nat.mod_lt _ (by decide))]; exact h.some h0
  · obtain ⟨T, h1, h2, h3⟩ := h.map
    refine ⟨T, h1, fun i hi => ?_, h3⟩
    have hi' : i < mbs s.n := hi
    show (s.did j l).f (2 + c % 2 * mbs s.n + i) = _
    rw [St.did_f _ _ _ _ (by omega)]
    exact h2 i hi

/-- Behind an Alloc. -/
def Pg.alloced (q : Pg) (n : Nat) : Pg := { q with si := setB q.si n 1, rd := true, u := q.u + 1 }
/-- The page that comes next. -/
def Pg.Next (q : Pg) (N n : Nat) : Prop := n < 16384 ∧ q.tk N n = false ∧ ∀ k, k < n → q.tk N k = true
set_option maxRecDepth 100000 in
theorem Pg.Next.range {q : Pg} {N n : Nat} (h : q.Next N n) : fp N ≤ n ∧ n < N ∧ q.K n = false ∧ q.si n ≠ 1 := by
  have := h.2.1
  unfold Pg.tk at this
  simp at this
  obtain ⟨⟨⟨h1, h2⟩, h3⟩, h4⟩ := this
  exact ⟨h1, h2, h3, h4⟩

set_option maxRecDepth 100000 in
set_option maxHeartbeats 1600000 in
theorem alloc_long (p b m sm rb : Nat) (s : St) (q : Pg) (hd : s.dead = false) (hq : q.dead = false) (a : Option Addr) (cap n : Nat) (hn : 496 < n) (_hn2 : n ≤ maxLen) (w : World) (hA : PAt w p b m sm rb s q) :
    Calls Tryz.prog 67 #[.pointer (some ⟨p, 0, none⟩), .slice a n cap] w fun e w' => e = .returned (.tuple #[.int .i64 0, .int .i64 5]) ∧ PAt w' p b m sm rb s q ∧ Turn [p] w w' := by
  have HI := hide (isDead_no p b m sm rb s.n q.word 0 q s hq hd w hA.disk hA.pg hA.apart)
  have HA := hide hA
  clear hA
  go_enter Tryz.func67, Tryz.ntmps67
  go_wp2_with fail
  refine HI.out.mono ?_
  rintro e w1 ⟨rfl, hP1, hD1, hT1⟩
  have HA1 : Hid (PAt w1 p b m sm rb s q) := ⟨hD1, hP1, HA.out.laid, HA.out.apart, HA.out.s1, HA.out.s2, HA.out.s3, HA.out.s0, HA.out.tab.turn hT1 (by have := HA.out.pos.1; simp; omega), HA.out.pos⟩
  clear hP1 hD1
  go_wp2_with fail
  go_ret2
  exact ⟨rfl, HA1.out, hT1⟩

set_option maxRecDepth 100000 in
set_option maxHeartbeats 3200000 in
theorem alloc_any (p b m sm rb : Nat) (s : St) (q : Pg) (hd : s.dead = false) (hq : q.dead = false) (hu : q.u < 1000000000) (hk : s.k < 1000000) (a : Option Addr) (cap : Nat) (l : List Nat) (n : Nat) (hn : l.length = n) (hl : n ≤ 496) (hb : ∀ x ∈ l, x < 256)
    (w : World) (hB : BytesAt w a l) (hx : ∀ x, l ≠ [] → a = some x → x.block ≠ p) (hA : PAt w p b m sm rb s q) :
    Calls Tryz.prog 67 #[.pointer (some ⟨p, 0, none⟩), .slice a n cap] w fun e w' =>
      (e = .returned (.tuple #[.int .i64 0, .int .i64 13]) ∧ (∀ k, k < 16384 → q.tk s.n k = true) ∧ PAt w' p b m sm rb s { q with rd := true } ∧ Turn [p, b, m, sm] w w') ∨
      (∃ k : Nat, e = .returned (.tuple #[.int .i64 (k : Nat), .int .i64 0]) ∧ q.Next s.n k ∧ s.left ≠ 0 ∧ PAt w' p b m sm rb (s.did k (bytesOf 512 (pageB l))) (q.alloced k) ∧ Turn [p, b, m, sm] w w') ∨
      (∃ k : Nat, e = .returned (.tuple #[.int .i64 0, .int .i64 12]) ∧ q.Next s.n k ∧ s.left = 0 ∧ DiskAt w' b m { s with dead := true } ∧ Turn [p, b, m, sm] w w') := by
  have hnot : ∀ (x : Bool) (w : World), (Op.unary .not (.bool x)).run Tryz.prog w = .ok (.bool (!x)) w := fun _ _ => rfl
  have HI := hide (isDead_no p b m sm rb s.n q.word 0 q s hq hd w hA.disk hA.pg hA.apart)
  have HA := hide hA
  have HB := hide hB
  have HX := hide hx
  have HN := hide hn
  have HBb := hide hb
  clear hA hB hx hn hb
  go_enter Tryz.func67, Tryz.ntmps67
  go_wp2_with fail
  refine HI.out.mono ?_
  rintro e w1 ⟨rfl, hP1, hD1, hT1⟩
  have HA1 : Hid (PAt w1 p b m sm rb s q) := ⟨hD1, hP1, HA.out.laid, HA.out.apart, HA.out.s1, HA.out.s2, HA.out.s3, HA.out.s0, HA.out.tab.turn hT1 (by have := HA.out.pos.1; simp; omega), HA.out.pos⟩
  clear hP1 hD1
  go_wp2_with fail
  refine (freeMap_any p b m sm rb s q hd w1 HA1.out).mono ?_
  rintro e w2 ⟨rfl, hA2, hT2⟩
  obtain ⟨T, hW, hbt⟩ := hA2.pg.wd
  have HA2 := hide hA2
  have HW := hide hW
  have HBt : Hid (∀ k, k < 16384 → bit T k = q.tk s.n k) := fun k hk => by rw [hbt k hk]; rfl
  have hT02 := hT1.trans hT2
  clear hA2 hW hbt hT1 hT2 HA1
  go_wp2_with fail
  refine (firstFree_any p 9 T w2 HW.out HA2.out.tab).mono ?_
  rintro e w3 ⟨v, ok, rfl, hF, hT3⟩
  have HA3 := hide (HA2.out.turn0 hT3)
  have hT03 : Turn [p] w w3 := hT02.then hT3 (by simp)
  clear HA2 hT02 hT3
  rcases hF with ⟨rfl, k, rfl, hk1, hk2, hk3⟩ | ⟨rfl, rfl, hall⟩
  · have hNx : q.Next s.n k := ⟨hk1, by rw [← HBt.out k hk1]; exact hk2, fun j hj => by rw [← HBt.out j (by omega)]; exact hk3 j hj⟩
    obtain ⟨hr1, hr2, hr3, hr4⟩ := hNx.range
    have HNx := hide hNx
    have HB3 := hide (HB.out.turn hT03 (fun x h1 h2 => by simp; exact HX.out x h1 h2))
    have HPg := hide (fun w' (h : BytesAt w' a l) => pageBlock_any a cap l n HN.out hl w' h)
    have hs3 := HA3.out.pg.lt
    clear hNx hk2 hk3 hr3 HB
    go_wp2_with fail
    refine (HPg.out _ HB3.out).mono ?_
    rintro e w4 ⟨rfl, hR4, hT4⟩
    have HA4 := hide (HA3.out.turn0 hT4)
    have HR4 := hide hR4
    have hT04 : Turn [p] w w4 := hT03.then hT4 (by simp)
    have HB4 := hide hR4.bytes0
    have hN16 := HA4.out.laid.n16
    clear hR4 hT4 hT03 HA3 HB3
    by_cases h0 : s.left = 0
    · have hcut := St.write_cut (l := bytesOf 512 (pageB l)) hd hr2 (bytesOf_length _ _) h0
      have HPw := hide (pwrite_any p b m sm rb s.n _ 0 _ HA4.out.apart s HA4.out.laid.good (k : Nat) w3.heap.size (bytesOf 512 (pageB l)) (bytesOf_length _ _) w4 HB4.out HA4.out.disk HA4.out.pg)
      rw [hcut.1, hcut.2] at HPw
      have H0 := hide h0
      clear hcut h0
      go_wp2_with fail
      refine HPw.out.mono ?_
      rintro e w5 ⟨rfl, _, hD5, hT5, _⟩
      have HD5 := hide hD5
      clear hD5
      go_wp2_with fail
      go_ret2
      exact .inr (.inr ⟨k, rfl, HNx.out, H0.out, HD5.out, (hT04.mono (by simp)).trans (hT5.mono (by simp))⟩)
    · have hdid := St.write_did (l := bytesOf 512 (pageB l)) hd hr2 (bytesOf_length _ _) h0
      have HPw := hide (pwrite_any p b m sm rb s.n _ 0 _ HA4.out.apart s HA4.out.laid.good (k : Nat) w3.heap.size (bytesOf 512 (pageB l)) (bytesOf_length _ _) w4 HB4.out HA4.out.disk HA4.out.pg)
      rw [hdid.1, hdid.2] at HPw
      have H0 := hide h0
      clear hdid h0
      go_wp2_with fail
      refine HPw.out.mono ?_
      rintro e w5 ⟨rfl, hP5, hD5, hT5, _⟩
      rw [if_pos trivial] at hP5
      obtain ⟨T5, hW5, hb5⟩ := hP5.wd
      have HP5 := hide hP5
      have HD5 := hide hD5
      have HW5 := hide hW5
      have HB5 := hide hb5
      have HTab5 := hide (HA4.out.tab.turn hT5 (by have := HA.out.pos; simp; omega))
      clear hP5 hD5 hW5 hb5
      go_wp2_with fail
      refine (take_any p 9 k T5 hk1 w5 HW5.out).mono ?_
      rintro e w6 ⟨rfl, hW6, hT6⟩
      have hP6 := HP5.out.setWords (q' := { q with rd := true, K := fun j => q.K j || decide (j = k) }) hT6.turn (fun o ho => hT6.out o (by omega)) hW6 (fun j hj => by
        rw [bit_takeW, HB5.out j hj]
        unfold Pg.tk
        by_cases e : j = k
        · simp [e]
        · simp [e]) rfl rfl rfl rfl rfl
      have HD6 := hide (HD5.out.turn hT6.turn (by simp; exact Ne.symm HA.out.apart.pb) (by simp; exact Ne.symm HA.out.apart.pm))
      have HTab6 := hide (HTab5.out.turn hT6.turn (by have := HA.out.pos; simp; omega))
      have hcs := hP6.cs
      obtain ⟨j, D, hj, hM, hS⟩ := hP6.since
      have hj' : j ≤ q.u := hj
      obtain ⟨w7, hrun, hM7, hgr⟩ := World.ownsMap.update (t := 135) (e := 3) hM law3 Tryz.underlying135 (by unfold maxLen; omega) (key3 (i := k) (by omega)) (plain3 1 (by omega))
      have hrun' : (Instr.mapUpdate 135 (.map (some sm)) (.int .i64 (k : Nat)) (.int .i64 1)).run Tryz.prog w6 = .ok () w7 := hrun
      have hT7 := turn_of_grown hgr
      have HP7 := hide (hP6.setSince (q' := q.alloced k) hT7 hM7 (by show j + 1 ≤ q.u + 1; omega) (hS.put hM.isMap k 1 (by omega)) HA.out.apart.sr (fun j _ => by
        unfold Pg.tk Pg.alloced setB
        by_cases e : j = k
        · simp [e]
        · simp [e]) rfl rfl rfl)
      have HD7 := hide (HD6.out.turn hT7 (by simp; exact Ne.symm HA.out.apart.sb) (by simp; exact Ne.symm HA.out.apart.smm))
      have HTab7 := hide (HTab6.out.turn hT7 (by have := HA.out.pos; simp; omega))
      clear hP6 hM hM7 hgr hS hj hj' hrun hW6
      go_wp2_with fail
      go_ret2
      refine .inr (.inl ⟨k, rfl, HNx.out, H0.out, ⟨HD7.out, HP7.out, ?_, HA.out.apart, ?_, ?_, ?_, fun h => absurd h (by simp [Pg.alloced]), HTab7.out, HA.out.pos⟩, ?_⟩)
      · exact HA.out.laid.did (by have := fp_bd HA.out.laid.n64 HA.out.laid.n16; omega) (.inr (Nat.le_trans (slot_map q.c HA.out.laid.n64 HA.out.laid.n16) hr1)) (bytesOf_length _ _) (bytesOf_lt (pageB_lt l HBb.out)) hk
      · intro j hj
        have hj : setB q.si k 1 j = 1 := hj
        unfold setB at hj
        split at hj
        · rename_i e
          rw [e]
          exact ⟨HNx.out.range.2.2.1, hr1, hr2⟩
        · exact HA.out.s1 j hj
      · intro j hj
        have hj : setB q.si k 1 j = 2 := hj
        unfold setB at hj
        split at hj
        · omega
        · exact HA.out.s2 j hj
      · intro j
        show setB q.si k 1 j ≤ 2
        unfold setB
        split
        · omega
        · exact HA.out.s3 j
      · exact (((hT04.mono (by simp)).trans (hT5.mono (by simp))).trans (hT6.turn.mono (by simp))).trans (hT7.mono (by simp))
  · have Hall : Hid (∀ k, k < 16384 → q.tk s.n k = true) := fun k hk => by rw [← HBt.out k hk]; exact hall k hk
    clear hall
    go_wp2_with fail
    go_ret2
    exact .inl ⟨rfl, Hall.out, HA3.out, hT03.mono (by simp)⟩

end Go.Proofs.YthehkckdecckhaaGreatDoor

namespace Go.Proofs.YthehkckdecckhaaGreatDoor
open Go.RowKit Go.Maps

/-- Of the bits T those are struck whose page has v in 'since', and is no more to come. -/
def Swept (T T' : Nat → Nat) (si : Nat → Nat) (v : Nat) (left : Lit → Bool) : Prop := ∀ k, k < 16384 → bit T' k = (bit T k && !(si k == v && !left (.int .i64 (k : Int))))

set_option maxRecDepth 100000 in
theorem Swept.start {D : DataW Value} {si : Nat → Nat} (h : Since D si) (T : Nat → Nat) {v : Nat} (hv : v ≠ 0) : Swept T T si v (has D) := by
  intro k _
  by_cases e : si k = v
  · have : has D (.int .i64 (k : Int)) = true := by
      cases hh : has D (.int .i64 (k : Int)) with
      | true => rfl
      | false =>
        have h1 := h.at_ k
        rw [atKey_of_not_has hh] at h1
        have := (Lit.int.inj (DataW.lit.inj h1)).2
        omega
    rw [this]
    simp
  · have : (si k == v) = false := by rw [beq_eq_false_iff_ne]; exact e
    rw [this]
    simp

set_option maxRecDepth 100000 in
theorem strike_other (left : Lit → Bool) {k n : Nat} (h : k ≠ n) : (left (.int .i64 (k : Int)) && !(Lit.int .i64 (k : Int)).sameKey (.int .i64 (n : Int))) = left (.int .i64 (k : Int)) := by
  have : (Lit.int .i64 (k : Int)).sameKey (.int .i64 (n : Int)) = false := by
    cases hh : (Lit.int .i64 (k : Int)).sameKey (.int .i64 (n : Int)) with
    | false => rfl
    | true => exact absurd (WideAt.sameKey_eq hh) (key_ne h)
  rw [this]
  simp
set_option maxRecDepth 100000 in
theorem strike_same (left : Lit → Bool) (n : Nat) : (left (.int .i64 (n : Int)) && !(Lit.int .i64 (n : Int)).sameKey (.int .i64 (n : Int))) = false := by
  rw [WideAt.sameKey_self (isKey n)]
  simp

set_option maxRecDepth 100000 in
theorem Swept.hit {T T' : Nat → Nat} {si : Nat → Nat} {v : Nat} {left : Lit → Bool} (h : Swept T T' si v left) {n : Nat} (hn : si n = v) : Swept T (freeW T' n) si v (fun z => left z && !z.sameKey (.int .i64 (n : Int))) := by
  intro k hk
  show _ = (bit T k && !(si k == v && !(left (.int .i64 (k : Int)) && !(Lit.int .i64 (k : Int)).sameKey (.int .i64 (n : Int)))))
  rw [bit_freeW, h k hk]
  by_cases e : k = n
  · subst e
    rw [strike_same]
    simp [hn]
  · rw [strike_other left e]
    simp [e]
set_option maxRecDepth 100000 in
theorem Swept.miss {T T' : Nat → Nat} {si : Nat → Nat} {v : Nat} {left : Lit → Bool} (h : Swept T T' si v left) {n : Nat} (hn : si n ≠ v) : Swept T T' si v (fun z => left z && !z.sameKey (.int .i64 (n : Int))) := by
  intro k hk
  show _ = (bit T k && !(si k == v && !(left (.int .i64 (k : Int)) && !(Lit.int .i64 (k : Int)).sameKey (.int .i64 (n : Int)))))
  rw [h k hk]
  by_cases e : k = n
  · subst e
    have : (si k == v) = false := by rw [beq_eq_false_iff_ne]; exact hn
    rw [this]
    simp
  · rw [strike_other left e]
set_option maxRecDepth 100000 in
theorem Swept.done {T T' : Nat → Nat} {si : Nat → Nat} {v : Nat} {left : Lit → Bool} (h : Swept T T' si v left) (hl : ∀ kl, left kl = false) : ∀ k, k < 16384 → bit T' k = (bit T k && !(si k == v)) := by
  intro k hk
  rw [h k hk, hl]
  simp

set_option maxRecDepth 100000 in
/-- What has come out. -/
theorem Since.entry {D : DataW Value} {si : Nat → Nat} (h : Since D si) {x c : Int} (hx : has D (.int .i64 x) = true) (hat : ∀ zd, D.atKey (.int .i64 x) zd = .lit (.int .i64 c)) : ∃ n : Nat, x = n ∧ c = si n ∧ si n ≠ 0 := by
  obtain ⟨n, e, hn⟩ := h.keys _ hx
  have hxn : x = n := (Lit.int.inj e).2
  subst hxn
  have h1 := h.at_ n
  rw [hat] at h1
  exact ⟨n, rfl, (Lit.int.inj (DataW.lit.inj h1)).2, hn⟩

set_option maxRecDepth 100000 in
theorem Wturn.grown {p off r : Nat} {u w w' : World} (h : Wturn p off u w) (hg : w.grownBy w' (some r)) (hr : u.heap.size ≤ r) (hp : p < u.heap.size) : Wturn p off u w' :=
  ⟨h.turn.then (turn_of_grown hg) (fun x hx => by rw [List.mem_singleton.1 hx]; exact .inr hr), fun o ho => ((turn_of_grown hg).cell (p := ⟨p, o, none⟩) (Nat.lt_of_lt_of_le hp h.turn.size) (by simp; omega)).trans (h.out o ho)⟩
set_option maxRecDepth 100000 in
theorem Wturn.of_turn {p off : Nat} {u w : World} (hT : Turn [] u w) (hp : p < u.heap.size) : Wturn p off u w := ⟨hT.mono (by simp), fun o _ => hT.cell (p := ⟨p, o, none⟩) hp (by simp)⟩
set_option maxRecDepth 100000 in
theorem turn_of_none {w w' : World} (h : w.grownBy w' none) : Turn [] w w' := ⟨h.os, h.tape, h.output, h.size, fun k hk _ => h.block k hk (by simp)⟩
set_option maxRecDepth 100000 in
theorem grown_of_turn {p : Nat} {w w' : World} (h : Turn [p] w w') : w.grownBy w' (some p) := ⟨h.os, h.tape, h.output, h.size, fun k hk hn => h.block k hk (fun hm => hn (by rw [List.mem_singleton.1 hm]))⟩

set_option maxRecDepth 100000 in
/-- The bitmap has turned, and there is a new 'since'. -/
theorem PgAt.newSince {w w1 : World} {p b sm rb N : Nat} {d l : Int} {q : Pg} (h : PgAt w p b sm rb N d l q) (hT : Wturn p 9 w w1) {T : Nat → Nat} (hW : WordsAt w1 p 9 T) {q' : Pg} (e1 : q'.dead = q.dead) (e2 : q'.c = q.c) (e3 : q'.root = q.root) (e4 : ∀ n, q'.si n = 0) (hb : ∀ k, k < 16384 → bit T k = (q'.rd && q'.tk N k)) :
    PgAt ((w1.alloc (.map #[] 0)).setCell ⟨p, 265, none⟩ (.map (some w1.heap.size))) p b w1.heap.size rb N d l q' := by
  have hp1 := hW.blk
  have hT1 : Turn [] w1 (w1.alloc (.map #[] 0)) := (Turn.refl [] w1).alloc _
  have hT2 : Turn [p] (w1.alloc (.map #[] 0)) ((w1.alloc (.map #[] 0)).setCell ⟨p, 265, none⟩ (.map (some w1.heap.size))) := (Turn.refl [p] _).setCell (List.mem_singleton.2 rfl) _ _
  have ho : ∀ o, o < 9 → ((w1.alloc (.map #[] 0)).setCell ⟨p, 265, none⟩ (.map (some w1.heap.size))).cell? ⟨p, o, none⟩ = w.cell? ⟨p, o, none⟩ := fun o h' =>
    ((World.cell?_setCell_other _ _ _ _ (off_ne (by omega))).trans (hT1.cell (p := ⟨p, o, none⟩) hp1 (by simp))).trans (hT.out o (by omega))
  obtain ⟨x1, k1⟩ := h.c1
  obtain ⟨x2, k2⟩ := h.c2
  obtain ⟨ra, rc, k5, hB, hn, hx⟩ := h.c5
  have hr : ∀ x, q.root ≠ [] → ra = some x → x.block ∉ [p] := fun x h1 h2 hm => h.nr (by rw [← hx x h1 h2]; exact (List.mem_singleton.1 hm).symm)
  have c265 : (w1.alloc (.map #[] 0)).cell? ⟨p, 265, none⟩ = some (.map (some sm)) := ((hT1.cell (p := ⟨p, 265, none⟩) hp1 (by simp)).trans (hT.out 265 (by omega))).trans h.cs
  refine ⟨(ho 0 (by omega)).trans h.c0, ⟨x1, (ho 1 (by omega)).trans k1⟩, ⟨x2, (ho 2 (by omega)).trans k2⟩, by rw [e1]; exact (ho 3 (by omega)).trans h.c3, by rw [e2]; exact (ho 4 (by omega)).trans h.c4,
    ⟨ra, rc, by rw [e3]; exact (ho 5 (by omega)).trans k5, by rw [e3]; exact ((hB.turn hT.turn hr).turn hT1 (by simp)).turn hT2 hr, hn, by rw [e3]; exact hx⟩, (ho 6 (by omega)).trans h.c6, (ho 7 (by omega)).trans h.c7, ⟨T, ?_, hb⟩,
    World.cell?_setCell_same _ _ _ c265, ⟨0, .map [], Nat.zero_le _, (World.ownsMap_made w1 Tryz.prog 3 (plainElem Tryz.prog 3)).setCell (by simp; omega) _, ⟨fun kl hk => by simp [has] at hk, fun n => by rw [e4 n]; rfl⟩⟩, by omega, h.nr⟩
  have hWa := hW.turn hT1 (by simp)
  exact ⟨fun i hi => (World.cell?_setCell_other _ _ _ _ (off_ne (by omega))).trans (hWa.cell i hi), fun o => by rw [World.frozen?_setCell]; exact hWa.fz o, hWa.lt, by rw [World.size_setCell]; exact hWa.blk⟩

end Go.Proofs.YthehkckdecckhaaGreatDoor

namespace Go.Proofs.YthehkckdecckhaaGreatDoor
open Go.RowKit Go.Maps

/-- The disk when the first blocks of a Commit's map, when all of its map, and when its head, is written. -/
def St.maps (s : St) (c : Nat) (T : Nat → Nat) : Nat → St
  | 0 => s
  | j + 1 => (s.maps c T j).did (2 + c % 2 * mbs s.n + j) (bytesOf 512 (mapB T j))
def St.mapped (s : St) (c : Nat) (T : Nat → Nat) : St := s.maps c T (mbs s.n)
theorem St.maps_n (s : St) (c : Nat) (T : Nat → Nat) : ∀ j, (s.maps c T j).n = s.n
  | 0 => rfl
  | j + 1 => St.maps_n s c T j
theorem St.maps_k (s : St) (c : Nat) (T : Nat → Nat) : ∀ j, (s.maps c T j).k = s.k + j
  | 0 => rfl
  | j + 1 => by
    show (s.maps c T j).k + 1 = _
    rw [St.maps_k s c T j]
    rfl
theorem St.maps_dead (s : St) (c : Nat) (T : Nat → Nat) : ∀ j, (s.maps c T j).dead = s.dead
  | 0 => rfl
  | j + 1 => St.maps_dead s c T j
theorem St.maps_on (s : St) (c : Nat) (T : Nat → Nat) (h : s.left < 0) : ∀ j, (s.maps c T j).left = s.left
  | 0 => rfl
  | j + 1 => by
    show (if (s.maps c T j).left < 0 then (s.maps c T j).left else (s.maps c T j).left - 1) = _
    rw [St.maps_on s c T h j, if_pos h]
theorem St.maps_off (s : St) (c : Nat) (T : Nat → Nat) (h : 0 ≤ s.left) : ∀ j : Nat, ((j : Nat) : Int) ≤ s.left → (s.maps c T j).left = s.left - j
  | 0, _ => by show s.left = s.left - 0; omega
  | j + 1, hj => by
    show (if (s.maps c T j).left < 0 then (s.maps c T j).left else (s.maps c T j).left - 1) = _
    rw [St.maps_off s c T h j (by omega), if_neg (by omega)]
    omega
theorem St.maps_old (s : St) (c : Nat) (T : Nat → Nat) (i : Nat) : ∀ j, (∀ k, k < j → i ≠ 2 + c % 2 * mbs s.n + k) → (s.maps c T j).f i = s.f i
  | 0, _ => rfl
  | j + 1, h => (St.did_f _ _ _ _ (h j (by omega))).trans (St.maps_old s c T i j fun k hk => h k (by omega))
theorem St.maps_new (s : St) (c : Nat) (T : Nat → Nat) (i : Nat) : ∀ j, i < j → (s.maps c T j).f (2 + c % 2 * mbs s.n + i) = bytesOf 512 (mapB T i)
  | j + 1, h => by
    by_cases e : i = j
    · subst e
      exact St.did_f_same _ _ _
    · exact (St.did_f _ _ _ _ (by omega)).trans (St.maps_new s c T i j (by omega))
def St.headed (s : St) (c : Nat) (root : List Nat) (T : Nat → Nat) : St := (s.mapped c T).did (c % 2) (bytesOf 512 (headB c root))

set_option maxRecDepth 100000 in
theorem fB_did_same (s : St) (j : Nat) (B : Nat → Nat) : ∀ i, i < 512 → fB (s.did j (bytesOf 512 B)) j i = B i := by
  intro i hi
  unfold fB
  rw [St.did_f_same, bytesOf_get _ _ _ hi]

set_option maxRecDepth 100000 in
theorem hd_congr {A B : Nat → Nat} (h : ∀ i, i < 512 → A i = B i) (hb : B 12 ≤ 64) : hdNum A = hdNum B ∧ hdC A = hdC B ∧ hdR A = hdR B := by
  have h1 : hdSum A = hdSum B := by unfold hdSum; rw [bytesOf_congr fun i hi => h i (by omega)]
  have h2 : hdCrc A = hdCrc B := by
    have e : (bytesOf 508 fun i => A (4 + i)) = bytesOf 508 fun i => B (4 + i) := bytesOf_congr fun i hi => h _ (by omega)
    unfold hdCrc
    rw [e]
  have h3 : hdNum A = hdNum B := by
    have e : (bytesOf 8 fun i => A (4 + i)) = bytesOf 8 fun i => B (4 + i) := bytesOf_congr fun i hi => h _ (by omega)
    unfold hdNum
    rw [e]
  refine ⟨h3, by unfold hdC; rw [h1, h2, h3], ?_⟩
  unfold hdR
  rw [h1, h2, h 12 (by omega), bytesOf_congr fun i hi => h _ (by omega)]

set_option maxRecDepth 100000 in
theorem headB_12 (c : Nat) (root : List Nat) : headB c root 12 = root.length := by
  unfold headB putN headB0 setB
  rw [if_neg (by omega), if_neg (by omega), if_pos rfl]

set_option maxRecDepth 100000 in
theorem bytesOf_mem {n : Nat} {B : Nat → Nat} (h : ∀ i, B i < 256) : ∀ x ∈ bytesOf n B, x < 256 := bytesOf_lt h

set_option maxRecDepth 100000 in
/-- The map alone, or its first blocks, is written: what was committed holds. -/
theorem Laid.maps {s : St} {c : Nat} {root : List Nat} {K : Nat → Bool} (h : Laid s c root K) (T : Nat → Nat) : ∀ j, j ≤ mbs s.n → s.k + j < 1000000 → Laid (s.maps (c + 1) T j) c root K
  | 0, _, _ => h
  | j + 1, hj, hk => by
    have ih := Laid.maps h T j (by omega) (by omega)
    refine ih.did (by omega) ?_ (bytesOf_length _ _) (bytesOf_mem (mapB_lt T j)) (by rw [St.maps_k]; omega)
    rw [St.maps_n]
    have hc : c % 2 = 0 ∧ (c + 1) % 2 = 1 ∨ c % 2 = 1 ∧ (c + 1) % 2 = 0 := by omega
    rcases hc with ⟨h1, h2⟩ | ⟨h1, h2⟩
    · rw [h1, h2]; omega
    · rw [h1, h2]; omega
theorem Laid.mapped {s : St} {c : Nat} {root : List Nat} {K : Nat → Bool} (h : Laid s c root K) (T : Nat → Nat) (hk : s.k + mbs s.n < 1000000) : Laid (s.mapped (c + 1) T) c root K := h.maps T _ (Nat.le_refl _) hk

set_option maxRecDepth 100000 in
/-- The head is written too: the new Commit holds. -/
theorem Laid.headed {s : St} {c : Nat} {root : List Nat} {K : Nat → Bool} (h : Laid s c root K) (T : Nat → Nat) (hT : ∀ i, T i < 18446744073709551616) (root' : List Nat) (hr : root'.length ≤ 64) (hrb : ∀ x ∈ root', x < 256) (K' : Nat → Bool)
    (hK : ∀ n, fp s.n ≤ n → n < s.n → bit T n = K' n) (hKr : ∀ n, K' n = true → fp s.n ≤ n ∧ n < s.n) (hk : s.k < 999990) : Laid (s.headed (c + 1) root' T) (c + 1) root' K' := by
  obtain ⟨f4, f10, fN, m1, m4, fe, fc⟩ := fp_bd h.n64 h.n16
  have hm := h.mapped T (by omega)
  have hmn : (s.headed (c + 1) root' T).n = s.n := St.maps_n s (c + 1) T _
  have hmk : (s.mapped (c + 1) T).k = s.k + mbs s.n := St.maps_k s (c + 1) T _
  have hc : c + 1 < 9223372036854775808 := by have := h.ck; omega
  obtain ⟨hb1, hb2, hb3⟩ := head_back (c + 1) hc root' hrb hr
  have hsame : ∀ i, i < 512 → fB (s.headed (c + 1) root' T) ((c + 1) % 2) i = headB (c + 1) root' i := fB_did_same _ _ _
  obtain ⟨e1, e2, e3⟩ := hd_congr hsame (by rw [headB_12]; exact hr)
  have hoth : fB (s.headed (c + 1) root' T) ((c + 1 + 1) % 2) = fB s (c % 2) := by
    have h1 : (s.headed (c + 1) root' T).f ((c + 1 + 1) % 2) = (s.mapped (c + 1) T).f ((c + 1 + 1) % 2) := St.did_f _ _ _ _ (by omega)
    have h2 : (s.mapped (c + 1) T).f ((c + 1 + 1) % 2) = s.f ((c + 1 + 1) % 2) := St.maps_old _ _ _ _ _ fun k _ => by omega
    rw [fB_of (h1.trans h2), show (c + 1 + 1) % 2 = c % 2 by omega]
  have hcl : hdC (fB s (c % 2)) < c + 1 := by
    by_cases h0 : c = 0
    · obtain ⟨_, h1, h2⟩ := h.zero h0
      subst h0
      show hdC (fB s 0) < 1
      omega
    · have := (h.some (by omega)).1; omega
  refine ⟨hm.good.did (bytesOf_length _ _) (by rw [hmk]; omega), by rw [hmn]; exact h.n64, by rw [hmn]; exact h.n16, ?_, ?_, by show c + 1 ≤ (s.mapped (c + 1) T).k + 1; rw [hmk]; have := h.ck; omega, fun h0 => by omega, fun _ => ⟨by rw [e2, hb2], by rw [e3, hb3], by rw [hoth]; exact hcl⟩, ⟨T, hT, ?_, by rw [hmn]; exact hK⟩, by rw [hmn]; exact hKr, hr, hrb⟩
  · intro i x hx
    by_cases e : i = (c + 1) % 2
    · rw [e] at hx
      have : (s.headed (c + 1) root' T).f ((c + 1) % 2) = bytesOf 512 (headB (c + 1) root') := St.did_f_same _ _ _
      rw [this] at hx
      exact bytesOf_mem (headB_lt _ _ hrb hr) x hx
    · have : (s.headed (c + 1) root' T).f i = (s.mapped (c + 1) T).f i := St.did_f _ _ _ _ e
      rw [this] at hx
      exact hm.byte i x hx
  · intro i hi
    by_cases e : i = (c + 1) % 2
    · rw [e, e1, hb1]; exact hc
    · have : i = (c + 1 + 1) % 2 := by omega
      rw [this, hoth]
      exact h.num _ (Nat.mod_lt _ (by decide))
  · rw [hmn]
    intro j hj
    have h1 : (s.headed (c + 1) root' T).f (2 + (c + 1) % 2 * mbs s.n + j) = (s.mapped (c + 1) T).f (2 + (c + 1) % 2 * mbs s.n + j) := St.did_f _ _ _ _ (by omega)
    rw [h1]
    exact St.maps_new _ _ _ _ _ hj

set_option maxRecDepth 100000 in
theorem page_maps (s : St) (c : Nat) (T : Nat → Nat) (h1 : 64 ≤ s.n) (h2 : s.n ≤ 16384) (n : Nat) (hn : fp s.n ≤ n) (j : Nat) (hj : j ≤ mbs s.n) : (s.maps c T j).f n = s.f n := by
  have := slot_map c h1 h2
  exact St.maps_old _ _ _ _ _ fun k hk => by omega
theorem page_headed (s : St) (c : Nat) (root : List Nat) (T : Nat → Nat) (h1 : 64 ≤ s.n) (h2 : s.n ≤ 16384) (n : Nat) (hn : fp s.n ≤ n) : (s.headed c root T).f n = s.f n := by
  have := fp_bd h1 h2
  exact (St.did_f _ _ _ _ (by omega)).trans (page_maps s c T h1 h2 n hn _ (Nat.le_refl _))

set_option maxRecDepth 100000 in
set_option maxHeartbeats 3200000 in
theorem writeCommit_any (p b m sm rb nx : Nat) (s : St) (q : Pg) (hd : s.dead = false) (hk : s.k < 999990) (T : Nat → Nat) (ra : Option Addr) (rc : Nat) (root : List Nat) (n : Nat) (hn : root.length = n) (hl : n ≤ 64) (hrb : ∀ x ∈ root, x < 256)
    (w : World) (hA : PAt w p b m sm rb s q) (hW : WordsAt w nx 0 T) (hnx : nx ≠ p ∧ nx ≠ b ∧ nx ≠ m) (hB : BytesAt w ra root) (hx : ∀ x, root ≠ [] → ra = some x → x.block ≠ p ∧ x.block ≠ b ∧ x.block ≠ m) :
    Calls Tryz.prog 74 #[.pointer (some ⟨p, 0, none⟩), .agg #[.int .i64 (q.c + 1 : Nat), .slice ra n rc], .pointer (some ⟨nx, 0, none⟩)] w fun e w' =>
      (e = .returned (.int .i64 0) ∧ ¬ (0 ≤ s.left ∧ s.left ≤ mbs s.n) ∧ DiskAt w' b m (s.headed (q.c + 1) root T) ∧ PgAt w' p b sm rb s.n q.word 0 q ∧ Turn [p, b, m] w w') ∨
      (e = .returned (.int .i64 12) ∧ (0 ≤ s.left ∧ s.left ≤ mbs s.n) ∧ (∃ s', s'.dead = true ∧ s'.n = s.n ∧ Laid s' q.c q.root q.K ∧ (∀ k, fp s.n ≤ k → s'.f k = s.f k) ∧ DiskAt w' b m s') ∧ Turn [p, b, m] w w') := by
  have hck := hA.laid.ck
  have hcb : q.c + 1 < 1000000000 := by omega
  obtain ⟨c', hc'⟩ : ∃ c', c' = q.c + 1 := ⟨_, rfl⟩
  rw [← hc'] at hcb ⊢
  have HC' := hide hc'
  clear hc' hck
  have hT0 : Turn [] w (w.alloc (.cells #[.int .i64 (c' : Nat), .slice ra n rc] 143)) := (Turn.refl [] w).alloc _
  have hk0 : (w.alloc (.cells #[.int .i64 (c' : Nat), .slice ra n rc] 143)).cell? ⟨w.heap.size, 0, none⟩ = some (.int .i64 (c' : Nat)) := World.cell?_alloc_at _ _ _ _ rfl
  have hk1 : (w.alloc (.cells #[.int .i64 (c' : Nat), .slice ra n rc] 143)).cell? ⟨w.heap.size, 1, none⟩ = some (.slice ra n rc) := World.cell?_alloc_at _ _ _ _ rfl
  have hkl : w.heap.size < (w.alloc (.cells #[.int .i64 (c' : Nat), .slice ra n rc] 143)).heap.size := by simp
  have HA0 := hide (hA.turn0 hT0)
  have HW0 := hide (hW.turn hT0 (by simp))
  have HB0 := hide (hB.turn hT0 (by simp))
  have hpl := hA.pg.lt
  have hbl := hA.disk.lt
  have hml := hA.disk.ltm
  have h0 := hA.pg.c0
  have hn1 := hA.laid.n64
  have hn2 := hA.laid.n16
  have HX := hide hx
  have HN := hide hn
  have HRb := hide hrb
  have hnx1 := hnx.1
  have hnx2 := hnx.2.1
  have hnx3 := hnx.2.2
  have HS := hide (fun w' => slotOf_any c' hcb w')
  have HM := hide (fun w' => mapStart_any (c' % 2) s.n (by omega) (by omega) w')
  have HMb := hide (fun w' => mapBlocks_any s.n (by omega) w')
  obtain ⟨f4, f10, fN, m1, m4, fe, fc⟩ := fp_bd hn1 hn2
  have hsl := slot_map c' hn1 hn2
  obtain ⟨fr, hfr⟩ : ∃ fr, fr = 2 + c' % 2 * mbs s.n := ⟨_, rfl⟩
  rw [← hfr] at HM hsl
  have HFr := hide hfr
  clear hfr
  clear hA hW hB hx hn hrb hnx
  go_enter Tryz.func74, Tryz.ntmps74
  go_wp2_with fail
  generalize hw0 : w.alloc (.cells #[.int .i64 (c' : Nat), .slice ra n rc] 143) = w0 at *
  clear hw0 h0
  refine (blocks_any b m s w0 HA0.out.disk).mono ?_
  rintro e w1 ⟨rfl, rfl⟩
  go_wp2_with fail
  refine (HS.out _).mono ?_
  rintro e w2 ⟨rfl, rfl⟩
  go_wp2_with fail
  refine (HM.out _).mono ?_
  rintro e w2 ⟨rfl, rfl⟩
  go_wp2_with fail
  refine (HMb.out _).mono ?_
  rintro e w2 ⟨rfl, rfl⟩
  go_wp2_with fail
  go_loopw [25] (fun i wr => ∃ j : Nat, j ≤ mbs s.n ∧ i = .int .i64 (j : Nat) ∧ (s.left < 0 ∨ (j : Int) ≤ s.left) ∧ DiskAt wr b m (s.maps c' T j) ∧ PgAt wr p b sm rb s.n q.word 0 q ∧ Turn [p, b, m] w2 wr) (fun i _ => mbs s.n - (intOf i).toNat)
  case atStart => exact ⟨0, Nat.zero_le _, rfl, by omega, HA0.out.disk, HA0.out.pg, Turn.refl _ _⟩
  case round =>
    obtain ⟨j, hj, rfl, hlj, hD3, hP3, hT3⟩ := hrel
    have hg1 : Hid (Laid (s.maps c' T j) q.c q.root q.K) := by show Laid _ _ _ _; rw [HC'.out]; exact HA0.out.laid.maps T j hj (by omega)
    have hdj : (s.maps c' T j).dead = false := (St.maps_dead s c' T j).trans hd
    have hnj := St.maps_n s c' T j
    by_cases hlt : j < mbs s.n
    · have hslot : fr + j < (s.maps c' T j).n := by rw [hnj]; omega
      have HT3 := hide hT3
      have HWr := hide (HW0.out.turn hT3 (by simp; omega))
      have HD3 := hide hD3
      have HP3 := hide hP3
      have hplr := hP3.lt
      clear hD3 hP3
      go_wp2_with fail
      refine (block_any nx 0 j (by omega) T wr HWr.out).mono ?_
      rintro e w3 ⟨rfl, hR3, hT4⟩
      have HR3 := hide hR3.bytes0
      have HD4 := hide (HD3.out.turn hT4 (by simp) (by simp))
      have HP4 := hide (HP3.out.turn0 hT4)
      have HPw := hide (pwrite_any p b m sm rb s.n q.word 0 q HA0.out.apart (s.maps c' T j) hg1.out.good (fr + j : Nat) wr.heap.size (bytesOf 512 (mapB T j)) (bytesOf_length _ _) w3 HR3.out HD4.out HP4.out)
      rw [show ((fr + j : Nat) : Int) = (fr : Int) + (j : Int) by omega] at HPw
      clear hR3
      by_cases h0 : (s.maps c' T j).left = 0
      · have hcut := St.write_cut (l := bytesOf 512 (mapB T j)) hdj hslot (bytesOf_length _ _) h0
        rw [show ((fr + j : Nat) : Int) = (fr : Int) + (j : Int) by omega] at hcut
        rw [hcut.1, hcut.2] at HPw
        have Hor : Hid (0 ≤ s.left ∧ s.left ≤ mbs s.n) := by
          show _ ∧ _
          by_cases hs : s.left < 0
          · rw [St.maps_on s c' T hs] at h0
            omega
          · rw [St.maps_off s c' T (by omega) j (by omega)] at h0
            omega
        clear hcut h0
        go_wp2_with fail
        refine HPw.out.mono ?_
        rintro e w5 ⟨rfl, _, hD5, hT5, _⟩
        have HD5 := hide hD5
        clear hD5
        go_wp2_with fail
        go_ret
        exact .inr ⟨rfl, Hor.out, ⟨{ s.maps c' T j with dead := true }, rfl, hnj, hg1.out.dead true, fun k hk => page_maps s c' T hn1 hn2 k hk j hj, HD5.out⟩, ((hT0.mono (by simp)).trans (HT3.out.then hT4 (by simp))).trans hT5⟩
      · have hdid := St.write_did (l := bytesOf 512 (mapB T j)) hdj hslot (bytesOf_length _ _) h0
        rw [show ((fr + j : Nat) : Int) = (fr : Int) + (j : Int) by omega] at hdid
        rw [hdid.1, hdid.2] at HPw
        have hnext : (s.maps c' T j).did (fr + j) (bytesOf 512 (mapB T j)) = s.maps c' T (j + 1) := by rw [HFr.out]; rfl
        rw [hnext] at HPw
        have hlj' : s.left < 0 ∨ ((j + 1 : Nat) : Int) ≤ s.left := by
          by_cases hs : s.left < 0
          · exact .inl hs
          · rw [St.maps_off s c' T (by omega) j (by omega)] at h0
            omega
        clear hdid h0 hnext
        go_wp2_with fail
        refine HPw.out.mono ?_
        rintro e w5 ⟨rfl, hP5, hD5, hT5, _⟩
        rw [if_pos trivial] at hP5
        have HD5 := hide hD5
        have HP5 := hide hP5
        clear hD5 hP5
        go_wp2_with fail
        go_roundw
        case rel => exact ⟨j + 1, by omega, by go_num, hlj', HD5.out, HP5.out, (HT3.out.then hT4 (by simp)).trans hT5⟩
        case measure => simp [intOf]; omega
    · obtain rfl : j = mbs s.n := by omega
      have hS : w.heap.size ∉ [p, b, m] := by simp; omega
      have hk0' := (hT3.cell (p := ⟨w.heap.size, 0, none⟩) hkl hS).trans hk0
      have hk1' := (hT3.cell (p := ⟨w.heap.size, 1, none⟩) hkl hS).trans hk1
      have HD3 := hide hD3
      have HP3 := hide hP3
      have HB3 := hide (HB0.out.turn hT3 (fun x h1 h2 => by have := HX.out x h1 h2; simp; omega))
      have HH := hide (headBlock_any c' (by omega) ra rc root n HN.out hl HRb.out wr HB3.out)
      change DiskAt wr b m (s.mapped c' T) at hD3
      change Hid (Laid (s.mapped c' T) q.c q.root q.K) at hg1
      change (s.mapped c' T).dead = false at hdj
      change (s.mapped c' T).n = s.n at hnj
      have hslot : c' % 2 < (s.mapped c' T).n := by rw [hnj]; omega
      have HMl : Hid ((s.left < 0 → (s.mapped c' T).left = s.left) ∧ (0 ≤ s.left → (s.mapped c' T).left = s.left - mbs s.n)) := ⟨fun h => St.maps_on s c' T h _, fun h => St.maps_off s c' T h _ (by omega)⟩
      clear hD3 hP3 hk0 hk1
      go_wp2_with fail
      refine HH.out.mono ?_
      rintro e w4 ⟨rfl, hR4, hT4⟩
      have HR4 := hide hR4.bytes0
      have HD4 := hide (HD3.out.turn hT4 (by simp) (by simp))
      have HP4 := hide (HP3.out.turn0 hT4)
      have HPw := hide (pwrite_any p b m sm rb s.n q.word 0 q HA0.out.apart (s.mapped c' T) hg1.out.good (c' % 2 : Nat) (wr.heap.size + 1) (bytesOf 512 (headB c' root)) (bytesOf_length _ _) w4 HR4.out HD4.out HP4.out)
      have hT04 : Turn [p, b, m] w w4 := ((hT0.mono (by simp)).trans hT3).trans (hT4.mono (by simp))
      clear hR4
      by_cases h0 : (s.mapped c' T).left = 0
      · have hcut := St.write_cut (s := s.mapped c' T) (l := bytesOf 512 (headB c' root)) hdj hslot (bytesOf_length _ _) h0
        rw [hcut.1, hcut.2] at HPw
        have Hor : Hid (0 ≤ s.left ∧ s.left ≤ mbs s.n) := by
          show _ ∧ _
          by_cases hs : s.left < 0
          · have := HMl.out.1 hs
            omega
          · have := HMl.out.2 (by omega)
            omega
        clear hcut h0
        go_wp2_with fail
        refine HPw.out.mono ?_
        rintro e w5 ⟨rfl, _, hD5, hT5, _⟩
        have HD5 := hide hD5
        clear hD5
        go_wp2_with fail
        go_ret
        exact .inr ⟨rfl, Hor.out, ⟨{ s.mapped c' T with dead := true }, rfl, hnj, hg1.out.dead true, fun k hk => page_maps s c' T hn1 hn2 k hk _ (Nat.le_refl _), HD5.out⟩, hT04.trans hT5⟩
      · have hdid := St.write_did (s := s.mapped c' T) (l := bytesOf 512 (headB c' root)) hdj hslot (bytesOf_length _ _) h0
        rw [hdid.1, hdid.2] at HPw
        have H0 : Hid (¬ (0 ≤ s.left ∧ s.left ≤ mbs s.n)) := by
          intro e
          have := HMl.out.2 e.1
          omega
        clear hdid h0
        go_wp2_with fail
        refine HPw.out.mono ?_
        rintro e w5 ⟨rfl, hP5, hD5, hT5, _⟩
        rw [if_pos trivial] at hP5
        have HD5 := hide hD5
        have HP5 := hide hP5
        clear hD5 hP5
        go_wp2_with fail
        go_ret
        exact .inl ⟨rfl, H0.out, HD5.out, HP5.out, hT04.trans hT5⟩
end Go.Proofs.YthehkckdecckhaaGreatDoor

namespace Go.Proofs.YthehkckdecckhaaGreatDoor
open Go.RowKit Go.Maps

/-- A bitmap's words as cells. -/
def wlist (T : Nat → Nat) : List Value := (List.range 256).map fun i => Value.int .u64 (T i : Nat)
set_option maxRecDepth 100000 in
theorem wlist_length (T : Nat → Nat) : (wlist T).length = 256 := by simp [wlist]
set_option maxRecDepth 100000 in
theorem wlist_get (T : Nat → Nat) (j : Nat) (u : Value) (h : (wlist T)[j]? = some u) : j < 256 ∧ u = .int .u64 (T j : Nat) := by
  have hj : j < 256 := by
    rcases Nat.lt_or_ge j 256 with h' | h'
    · exact h'
    · rw [List.getElem?_eq_none (by rw [wlist_length]; exact h')] at h; cases h
  refine ⟨hj, ?_⟩
  simp [wlist, hj] at h
  exact h.symm
set_option maxRecDepth 100000 in
theorem wlist_at (T : Nat → Nat) (j : Nat) (hj : j < 256) : (wlist T)[j]? = some (.int .u64 (T j : Nat)) := by simp [wlist, hj]
set_option maxRecDepth 100000 in
theorem wlist_one (T : Nat → Nat) : ∀ v ∈ wlist T, v.oneCell' = true := by
  intro v hv
  obtain ⟨i, _, rfl⟩ := List.mem_map.1 hv
  rfl

set_option maxRecDepth 100000 in
theorem words_src {w : World} {g off : Nat} {T : Nat → Nat} (h : WordsAt w g off T) : ∀ j u, (wlist T)[j]? = some u → w.cell? ((⟨g, off, none⟩ : Addr).add j) = some u := by
  intro j u hu
  obtain ⟨hj, rfl⟩ := wlist_get T j u hu
  rw [add_spot]
  exact h.cell j hj

set_option maxRecDepth 100000 in
theorem words_load {w : World} {g off : Nat} {T : Nat → Nat} (h : WordsAt w g off T) : (loadCellsFrom ⟨g, off, none⟩ 0 256 #[]).run Tryz.prog w = .ok (wlist T).toArray w := by
  have := run_loadCells_list (P := Tryz.prog) w ⟨g, off, none⟩ (wlist T) (words_src h)
  rw [wlist_length] at this
  exact this

set_option maxRecDepth 100000 in
theorem words_new (w : World) {T : Nat → Nat} (hT : ∀ i, T i < 18446744073709551616) : WordsAt (w.alloc (.cells (wlist T).toArray 134)) w.heap.size 0 T := by
  refine ⟨fun i hi => ?_, fun o => World.frozen?_alloc_at _ _ _ _ rfl, hT, by simp⟩
  rw [Nat.zero_add, World.cell?_alloc_at _ _ _ _ rfl, List.getElem?_toArray, wlist_at T i hi]

set_option maxRecDepth 100000 in
theorem words_put {w : World} {g off : Nat} {T : Nat → Nat} (h : WordsAt w g off T) {T' : Nat → Nat} (hT : ∀ i, T' i < 18446744073709551616) : WordsAt (w.setCells g off (wlist T')) g off T' ∧ Wturn g off w (w.setCells g off (wlist T')) := by
  have hsz : ∀ (vs : List Value) (o : Nat) (w : World), (w.setCells g o vs).heap.size = w.heap.size := by
    intro vs
    induction vs with
    | nil => intro o w; rfl
    | cons v vs ih => intro o w; show ((w.setCell _ _).setCells g (o + 1) vs).heap.size = _; rw [ih, World.size_setCell]
  refine ⟨⟨fun i hi => ?_, fun o => by rw [World.frozen?_setCells]; exact h.fz o, hT, by rw [hsz]; exact h.blk⟩, ⟨setCells_turn (S := [g]) (by simp) _ _ (Turn.refl _ _), fun o ho => ?_⟩⟩
  · have := World.cell?_setCells_in g (wlist T') off w (fun j hj => by rw [h.cell j (by rw [wlist_length] at hj; exact hj)]; rfl) i (by rw [wlist_length]; exact hi)
    rw [this]
    have := wlist_at T' i hi
    rw [List.getElem?_eq_getElem (by rw [wlist_length]; exact hi)] at this
    exact this
  · exact World.cell?_setCells_out g _ off w ⟨g, o, none⟩ (fun _ _ => by rw [wlist_length]; exact ho)

def zw : Array Value := (wlist fun _ => 0).toArray
set_option maxRecDepth 100000 in
theorem zero78 (w : World) : Sem.run Tryz.prog (zeroValue 134) w = .ok (.agg zw) w := by kernel_rfl
set_option maxRecDepth 100000 in
theorem info78 : (Tryz.prog.info? 134).map (·.size) = some 256 := by kernel_rfl
set_option maxRecDepth 100000 in
theorem size78 (w : World) : Sem.run Tryz.prog (sizeOf 134) w = .ok 256 w := by kernel_rfl

/-- Behind a Commit. -/
def Pg.committed (q : Pg) (root : List Nat) : Pg := { dead := q.dead, c := q.c + 1, root := root, K := q.there, si := fun _ => 0, rd := true, u := 0 }

set_option maxRecDepth 100000 in
set_option maxHeartbeats 1600000 in
theorem commit_long (p b m sm rb : Nat) (s : St) (q : Pg) (hd : s.dead = false) (hq : q.dead = false) (a : Option Addr) (cap n : Nat) (hn : 64 < n) (_hn2 : n ≤ maxLen) (w : World) (hA : PAt w p b m sm rb s q) :
    Calls Tryz.prog 48 #[.pointer (some ⟨p, 0, none⟩), .slice a n cap] w fun e w' => e = .returned (.int .i64 5) ∧ PAt w' p b m sm rb s q ∧ Turn [p] w w' := by
  have HI := hide (isDead_no p b m sm rb s.n q.word 0 q s hq hd w hA.disk hA.pg hA.apart)
  have HA := hide hA
  clear hA
  go_enter Tryz.func48, Tryz.ntmps48
  go_wp2_with fail
  refine HI.out.mono ?_
  rintro e w1 ⟨rfl, hP1, hD1, hT1⟩
  have HA1 : Hid (PAt w1 p b m sm rb s q) := ⟨hD1, hP1, HA.out.laid, HA.out.apart, HA.out.s1, HA.out.s2, HA.out.s3, HA.out.s0, HA.out.tab.turn hT1 (by have := HA.out.pos.1; simp; omega), HA.out.pos⟩
  clear hP1 hD1
  go_wp2_with fail
  go_ret
  exact ⟨rfl, HA1.out, hT1⟩

set_option maxRecDepth 100000 in
set_option maxHeartbeats 1600000 in
theorem commit_dead (p b m sm rb : Nat) (s : St) (q : Pg) (hd : s.dead = true) (hq : q.dead = false) (a : Option Addr) (cap n : Nat) (w : World) (hA : PAt w p b m sm rb s q) :
    Calls Tryz.prog 48 #[.pointer (some ⟨p, 0, none⟩), .slice a n cap] w fun e w' => e = .returned (.int .i64 12) ∧ Turn [p] w w' := by
  have HI := hide (isDead_yes p b m sm rb s.n q.word 0 q s hq hd w hA.disk hA.pg hA.apart)
  clear hA
  go_enter Tryz.func48, Tryz.ntmps48
  go_wp2_with fail
  refine HI.out.mono ?_
  rintro e w1 ⟨rfl, _, _, hT1⟩
  go_wp2_with fail
  go_ret
  exact ⟨rfl, hT1⟩

set_option maxRecDepth 100000 in
set_option maxHeartbeats 3200000 in
theorem commit_any (p b m sm rb : Nat) (s : St) (q : Pg) (hd : s.dead = false) (hq : q.dead = false) (hk : s.k < 999990) (a : Option Addr) (cap : Nat) (root : List Nat) (n : Nat) (hn : root.length = n) (hl : n ≤ 64) (hrb : ∀ x ∈ root, x < 256) (hnil : a = none → cap = 0)
    (w : World) (hA : PAt w p b m sm rb s q) (hB : BytesAt w a root) (hx : ∀ x, root ≠ [] → a = some x → x.block ≠ p) (_hrl : rb < w.heap.size) :
    Calls Tryz.prog 48 #[.pointer (some ⟨p, 0, none⟩), .slice a n cap] w fun e w' =>
      (e = .returned (.int .i64 0) ∧ ¬ (0 ≤ s.left ∧ s.left ≤ mbs s.n) ∧ (∃ s' sm' rb', s'.dead = false ∧ s'.n = s.n ∧ s'.k = s.k + mbs s.n + 1 ∧ (s.left < 0 → s'.left < 0) ∧ (∀ k, fp s.n ≤ k → s'.f k = s.f k) ∧ w.heap.size ≤ sm' ∧ w.heap.size ≤ rb' ∧ rb' < w'.heap.size ∧ PAt w' p b m sm' rb' s' (q.committed root)) ∧ Turn [p, b, m] w w') ∨
      (e = .returned (.int .i64 12) ∧ (0 ≤ s.left ∧ s.left ≤ mbs s.n) ∧ (∃ s', s'.dead = true ∧ s'.n = s.n ∧ Laid s' q.c q.root q.K ∧ (∀ k, fp s.n ≤ k → s'.f k = s.f k) ∧ DiskAt w' b m s') ∧ Turn [p, b, m] w w') := by
  have HI := hide (isDead_no p b m sm rb s.n q.word 0 q s hq hd w hA.disk hA.pg hA.apart)
  have HA := hide hA
  have HB := hide hB
  have HX := hide hx
  have HN := hide hn
  have HRb := hide hrb
  have hpl := hA.pg.lt
  have hbl := hA.disk.lt
  have hml := hA.disk.ltm
  have hsl := hA.pg.lts
  have hz := zero78
  clear hA hB hx hn hrb
  go_enter Tryz.func48, Tryz.ntmps48
  go_wp2_with fail
  refine HI.out.mono ?_
  rintro e w1 ⟨rfl, hP1, hD1, hT1⟩
  have HA1 : Hid (PAt w1 p b m sm rb s q) := ⟨hD1, hP1, HA.out.laid, HA.out.apart, HA.out.s1, HA.out.s2, HA.out.s3, HA.out.s0, HA.out.tab.turn hT1 (by have := HA.out.pos.1; simp; omega), HA.out.pos⟩
  clear hP1 hD1
  go_wp2_with fail
  refine (freeMap_any p b m sm rb s q hd w1 HA1.out).mono ?_
  rintro e w2 ⟨rfl, hA2, hT2⟩
  obtain ⟨T, hW, hbt⟩ := hA2.pg.wd
  obtain ⟨N, hN, hld⟩ : ∃ N : Nat, (∀ w, Sem.run Tryz.prog (sizeOf 134) w = .ok N w) ∧ (loadCellsFrom ⟨p, 9, none⟩ 0 N #[]).run Tryz.prog w2 = .ok (wlist T).toArray w2 := ⟨256, size78, words_load hW⟩
  have HA2 := hide hA2
  have HBt : Hid (∀ k, k < 16384 → bit T k = q.tk s.n k) := fun k hk => by rw [hbt k hk]; rfl
  have HTl := hide hW.lt
  have hT02 := hT1.trans hT2
  have hst := run_storeCells_new (P := Tryz.prog) w2 134 zw (wlist T).toArray (by rw [List.size_toArray, wlist_length]; exact info78) (by show (wlist fun _ => 0).toArray.size = _; rw [List.size_toArray, List.size_toArray, wlist_length, wlist_length]) (all_oneCell_toArray (wlist_one T))
  have hsz : (wlist T).toArray.size = N := by
    have e := hN w2
    rw [size78] at e
    have : 256 = N := by injection e
    rw [← this, List.size_toArray, wlist_length]
  have hcs2 := hA2.pg.cs
  have hpl2 := hA2.pg.lt
  obtain ⟨nn, D, hnn, hM, hS⟩ := hA2.pg.since
  have hM3 := hM.alloc (.cells (wlist T).toArray 134)
  have HM3 := hide hM3
  have HS := hide hS
  clear hA2 hW hbt hT1 hT2 HA1 hM hM3 hnn hS
  go_wp2_with (first
    | (at_range; refine wpList_range_own _ rfl _ 135 rfl 3 3 law3 Tryz.underlying135 _ sm nn D rfl HM3.out ?_; intro w0 hrg0 hg0 hs0)
    | go_in)
  go_frame
  have hsz3 : (w2.alloc (.cells (wlist T).toArray 134)).heap.size = w2.heap.size + 1 := by simp
  rw [hsz3] at hrg0 hs0 ⊢
  have hT0 : Turn [] w2 w0 := ((Turn.refl [] w2).alloc (.cells (wlist T).toArray 134)).then (turn_of_none hg0) (by simp)
  have HW0 := hide ((words_new w2 HTl.out).turn (turn_of_none hg0) (by simp))
  have hsm2 : sm < w2.heap.size := Nat.lt_of_lt_of_le hsl hT02.size
  clear hld hst hsz hN hz hg0 HM3 hsz3
  go_loopw [6] (fun _ wr => ∃ (left : Lit → Bool) (cnt : Nat) (T' : Nat → Nat), wr.ranges Tryz.prog 3 (plainElem Tryz.prog 3) sm (w2.heap.size + 1) nn D left cnt ∧ (∀ kl, left kl = true → has D kl = true) ∧ WordsAt wr w2.heap.size 0 T' ∧ Swept T T' q.si 2 left ∧ Turn [] w2 wr)
    (fun _ wr => wr.rangeLeft sm (w2.heap.size + 1))
  case atStart => exact ⟨_, _, T, hrg0, fun _ h => h, HW0.out, Swept.start HS.out T (by omega), hT0⟩
  case round =>
    obtain ⟨left, cnt, T', hrg, hleft, hW', hsw, hTr⟩ := hrel
    have HLeft := hide hleft
    have HW' := hide hW'
    have HSw := hide hsw
    clear hleft hW' hsw hrg0 hT0 HW0 hs0
    go_wp2_with (first
      | (at_next; refine wpList_next_ranges_ii _ rfl _ rfl 3 3 .i64 .i64 law3 Tryz.underlying3 Tryz.underlying3 sm (w2.heap.size + 1) nn _ _ _ rfl hrg ?_ ?_)
      | go_in)
    · intro _ hl0
      have HSd := hide (HSw.out.done hl0)
      have HAr := hide (HA2.out.turn0 hTr)
      have h4 : wr.cell? ⟨p, 4, none⟩ = some (.int .i64 (q.c : Nat)) := HAr.out.pg.c4
      have hck := HA.out.laid.ck
      obtain ⟨c', hc'⟩ : ∃ c', c' = q.c + 1 := ⟨_, rfl⟩
      have HC' := hide hc'
      have hcc : ((q.c : Nat) : Int) + 1 = (c' : Int) := by omega
      have hcb : q.c < 1000000 := by omega
      have hT0r : Turn [p] w wr := hT02.then hTr (by simp)
      have HBr := hide (HB.out.turn hT0r (fun x h1 h2 => by have := HX.out x h1 h2; simp; omega))
      have HCl := hide (clone_any a cap root n HN.out (by omega) hnil wr HBr.out)
      have hplr := HAr.out.pg.lt
      have hnxr := HW'.out.blk
      have hsw := hT0r.size
      have h2r := hTr.size
      have h02 := hT02.size
      clear hrg HLeft HSw hl0 hc' hck
      go_wp2_with fail
      refine (load_any p 4 _ wr h4).mono ?_
      rintro e w5 ⟨rfl, rfl⟩
      go_wp2_with fail
      refine HCl.out.mono ?_
      rintro e w6 ⟨a', cc, rfl, hB6, hn6, hx6, hT6⟩
      have HB6 := hide (hB6.turn ((Turn.refl [] w6).alloc (.cells #[.int .i64 (c' : Nat), .slice a' n cc] 143)) (by simp))
      have HX6 := hide hx6
      have HN6 := hide hn6
      have hT67 : Turn [] w5 (w6.alloc (.cells #[.int .i64 (c' : Nat), .slice a' n cc] 143)) := hT6.alloc _
      have HA7 := hide (HAr.out.turn0 hT67)
      have HW7 := hide (HW'.out.turn hT67 (by simp))
      have hk71 : (w6.alloc (.cells #[.int .i64 (c' : Nat), .slice a' n cc] 143)).cell? ⟨w6.heap.size, 1, none⟩ = some (.slice a' n cc) := World.cell?_alloc_at _ _ _ _ rfl
      have hkl7 : w6.heap.size < (w6.alloc (.cells #[.int .i64 (c' : Nat), .slice a' n cc] 143)).heap.size := by simp
      have h6s := hT6.size
      have HWc := hide (writeCommit_any p b m sm rb w2.heap.size s { q with rd := true } hd (by omega) T' a' cc root n HN.out hl HRb.out (w6.alloc (.cells #[.int .i64 (c' : Nat), .slice a' n cc] 143)) HA7.out HW7.out ⟨by omega, by omega, by omega⟩ HB6.out (fun x h1 h2 => by have := HX6.out x h2; omega))
      have hq1 : ({ q with rd := true } : Pg).c + 1 = c' := HC'.out.symm
      rw [hq1] at HWc
      clear hB6 hx6 hn6 hq1
      go_wp2_with fail
      refine HWc.out.mono ?_
      rintro e w8 hpost
      rcases hpost with ⟨rfl, hl0, hD8, hP8, hT8⟩ | ⟨rfl, hor, hs', hT8⟩
      · have hP9 := hP8.setC c'
        have h48 : w8.cell? ⟨p, 4, none⟩ = some (.int .i64 (q.c : Nat)) := hP8.c4
        have hf48 := hP8.fz 4
        obtain ⟨_, _, h58, _⟩ := hP8.c5
        have hf58 := hP8.fz 5
        have h18 : w8.cell? ⟨w6.heap.size, 1, none⟩ = some (.slice a' n cc) := (hT8.cell (p := ⟨w6.heap.size, 1, none⟩) hkl7 (by simp; omega)).trans hk71
        have hB8 : BytesAt w8 a' root := HB6.out.turn hT8 (fun x h1 h2 => by have := HX6.out x h2; simp; omega)
        have hW8 : WordsAt w8 w2.heap.size 0 T' := HW7.out.turn hT8 (by simp; omega)
        have hTc : Turn [p] w8 (w8.setCell ⟨p, 4, none⟩ (.int .i64 (c' : Nat))) := (Turn.refl [p] w8).setCell (List.mem_singleton.2 rfl) _ _
        have hTd : Turn [p] w8 ((w8.setCell ⟨p, 4, none⟩ (.int .i64 (c' : Nat))).setCell ⟨p, 5, none⟩ (.slice a' n cc)) := hTc.setCell (List.mem_singleton.2 rfl) _ _
        have h8s := hT8.size
        obtain ⟨rb', hrb1, hrb2, hrb3⟩ : ∃ rb', w5.heap.size ≤ rb' ∧ rb' < w8.heap.size ∧ ∀ x, root ≠ [] → a' = some x → x.block = rb' := by
          by_cases hr : root = []
          · exact ⟨w6.heap.size, h6s, by omega, fun x h => absurd hr h⟩
          · obtain ⟨bb, off, rfl, hcb'⟩ := hB8.at (k := 0) (List.length_pos_iff.2 hr)
            exact ⟨bb, HX6.out _ rfl, lt_of_cell hcb', fun x _ hx => by obtain rfl := Option.some.inj hx; rfl⟩
        have hB9 : BytesAt (w8.setCell ⟨p, 4, none⟩ (.int .i64 (c' : Nat))) a' root := hB8.turn hTc (fun x h1 h2 => by have := HX6.out x h2; simp; omega)
        have hP10 := hP9.setRoot a' cc rb' root hB9 HN6.out hrb3 (by omega)
        rw [HN.out] at hP10
        obtain ⟨T9, hW9, _⟩ := hP10.wd
        have hW9n : WordsAt ((w8.setCell ⟨p, 4, none⟩ (.int .i64 (c' : Nat))).setCell ⟨p, 5, none⟩ (.slice a' n cc)) w2.heap.size 0 T' := hW8.turn hTd (by simp; omega)
        obtain ⟨hWn, hTn⟩ := words_put hW9 hW8.lt
        have hst2 := run_storeCells_cells (P := Tryz.prog) p 9 (wlist T') 0 ((w8.setCell ⟨p, 4, none⟩ (.int .i64 (c' : Nat))).setCell ⟨p, 5, none⟩ (.slice a' n cc)) (fun j hj => by rw [Nat.add_zero, hW9.cell j (by rw [wlist_length] at hj; exact hj)]; rfl) (fun j _ => hW9.fz _) (wlist_one T')
        rw [Nat.add_zero] at hst2
        obtain ⟨N2, hN2, hld2, hsz2, hN0⟩ : ∃ N : Nat, (∀ w, Sem.run Tryz.prog (sizeOf 134) w = .ok N w) ∧ (loadCellsFrom ⟨w2.heap.size, 0, none⟩ 0 N #[]).run Tryz.prog ((w8.setCell ⟨p, 4, none⟩ (.int .i64 (c' : Nat))).setCell ⟨p, 5, none⟩ (.slice a' n cc)) = .ok (wlist T').toArray ((w8.setCell ⟨p, 4, none⟩ (.int .i64 (c' : Nat))).setCell ⟨p, 5, none⟩ (.slice a' n cc)) ∧ (wlist T').length = N ∧ ¬ N = 0 := ⟨256, size78, words_load hW9n, wlist_length T', by decide⟩
        have HPf := hide (hP10.newSince hTn hWn (q' := q.committed root) rfl HC'.out.symm rfl (fun _ => rfl) (fun k hk => by
          rw [HSd.out k hk, HBt.out k hk]
          show _ = (true && _)
          unfold Pg.tk Pg.committed Pg.there
          by_cases h4 : k < fp s.n
          · by_cases e : q.si k = 2
            · have := HA.out.laid.kr k (HA.out.s2 k e); omega
            · have e' : (q.si k == 2) = false := by rw [beq_eq_false_iff_ne]; exact e
              simp [h4, e']
          · by_cases h5 : s.n ≤ k
            · by_cases e : q.si k = 2
              · have := HA.out.laid.kr k (HA.out.s2 k e); omega
              · have e' : (q.si k == 2) = false := by rw [beq_eq_false_iff_ne]; exact e
                simp [h5, e']
            · simp [h4, h5]))
        have hcsn : (((w8.setCell ⟨p, 4, none⟩ (.int .i64 (c' : Nat))).setCell ⟨p, 5, none⟩ (.slice a' n cc)).setCells p 9 (wlist T')).cell? ⟨p, 265, none⟩ = some (.map (some sm)) := (hTn.out 265 (by omega)).trans hP10.cs
        have hfn := hWn.fz 265
        have hpn := hWn.blk
        have hTn0 : Turn [p] w8 (((w8.setCell ⟨p, 4, none⟩ (.int .i64 (c' : Nat))).setCell ⟨p, 5, none⟩ (.slice a' n cc)).setCells p 9 (wlist T')) := hTd.trans hTn.turn
        have hmm := @run_makeMap Tryz.prog
        have HD8 := hide hD8
        have HTl' := hide HW'.out.lt
        have Hl0 := hide hl0
        have HAdd := hide (add_any p 4 q.c (by omega) w8 h48 hf48)
        rw [← HC'.out] at HAdd
        generalize hw10 : ((w8.setCell ⟨p, 4, none⟩ (.int .i64 (c' : Nat))).setCell ⟨p, 5, none⟩ (.slice a' n cc)).setCells p 9 (wlist T') = w10 at *
        clear hD8 hP8 hP9 hB8 hB9 hW8 hW9 hW9n hP10 hWn hTn hw10 HWc HW7 HA7 HB6 HCl
        go_wp2_with fail
        refine HAdd.out.mono ?_
        rintro e w9 ⟨rfl, rfl⟩
        go_wp2_with fail
        go_ret
        rw [← World.setCell_alloc_past _ _ _ _ hpn]
        have hTa : Turn [p] w8 ((w10.alloc (.map #[] 0)).setCell ⟨p, 265, none⟩ (.map (some w10.heap.size))) := (hTn0.alloc _).setCell (List.mem_singleton.2 rfl) _ _
        have hTz : Turn [p, b, m] w ((w10.alloc (.map #[] 0)).setCell ⟨p, 265, none⟩ (.map (some w10.heap.size))) := (((hT0r.mono (by simp)).trans (hT67.mono (by simp))).trans hT8).trans (hTa.mono (by simp))
        have h10s := hTn0.size
        have hzs := hTa.size
        refine .inl ⟨rfl, Hl0.out, ⟨s.headed c' root T', w10.heap.size, rb', (St.maps_dead s c' T' _).trans hd, St.maps_n s c' T' _, by show (s.maps c' T' _).k + 1 = _; rw [St.maps_k], ?_, fun k hk => page_headed s c' root T' HA.out.laid.n64 HA.out.laid.n16 k hk, by omega, by omega, by omega, ?_⟩, hTz⟩
        · intro h
          have e1 : (s.mapped c' T').left = s.left := St.maps_on s c' T' h _
          show (if (s.mapped c' T').left < 0 then (s.mapped c' T').left else (s.mapped c' T').left - 1) < 0
          rw [e1, if_pos h]
          exact h
        · refine ⟨HD8.out.turn hTa (by simp; exact Ne.symm HA.out.apart.pb) (by simp; exact Ne.symm HA.out.apart.pm), by rw [show (s.headed c' root T').n = s.n from St.maps_n s c' T' _]; exact HPf.out, ?_, ⟨HA.out.apart.pb, HA.out.apart.pm, by omega, by omega, by omega, by omega, by omega⟩, fun n h => by simp [Pg.committed] at h, fun n h => by simp [Pg.committed] at h, fun n => by simp [Pg.committed], fun h => by simp [Pg.committed] at h, ?_, ⟨HA.out.pos.1, HA.out.pos.2.1, HA.out.pos.2.2.1, by omega⟩⟩
          · have hh := HA.out.laid.headed T' HTl'.out root (by rw [HN.out]; exact hl) HRb.out q.there (fun k h4 h5 => by
              rw [HSd.out k (by have := HA.out.laid.n16; omega), HBt.out k (by have := HA.out.laid.n16; omega)]
              unfold Pg.tk Pg.there
              have h4' : ¬ k < fp s.n := by omega
              have h5' : ¬ s.n ≤ k := by omega
              simp [h4', h5']) (fun k hk => by
              unfold Pg.there at hk
              simp at hk
              rcases hk.1 with h | h
              · exact HA.out.laid.kr k h
              · exact (HA.out.s1 k h).2) (by omega)
            rw [← HC'.out] at hh
            show Laid _ (q.c + 1) root q.there
            rw [← HC'.out]
            exact hh
          · exact HA.out.tab.turn hTz (by have := HA.out.pos; simp; omega)
      · have HS' := hide hs'
        have Hor := hide hor
        clear hs' hor
        go_wp2_with fail
        go_ret
        exact .inr ⟨rfl, Hor.out, HS'.out, ((hT0r.mono (by simp)).trans (hT67.mono (by simp))).trans hT8⟩
    · intro x c w3 cnt1 hwx hwc hlx hat hrg1 hlt hg1 hs1 hen
      obtain ⟨k, rfl, rfl, hk0⟩ := HS.out.entry (HLeft.out _ hlx) hat
      have hk0' : q.si k ≠ 0 := hk0
      have hk3 := HA.out.s3 k
      have hk16 : k < 16384 := by
        have hN := HA.out.laid.n16
        by_cases e : q.si k = 1
        · have := HA.out.s1 k e; omega
        · have e2 : q.si k = 2 := by omega
          have := HA.out.laid.kr k (HA.out.s2 k e2); omega
      have HT1 := hide (hTr.then (turn_of_grown hg1) (by simp))
      have HW1 := hide (HW'.out.turn (turn_of_grown hg1) (by simp))
      have HL1 : Hid (∀ kl, (left kl && !kl.sameKey (.int .i64 (k : Int))) = true → has D kl = true) := fun kl h => HLeft.out kl (by simp at h; exact h.1)
      have Hrg1 := hide hrg1
      have hmeas : w3.rangeLeft sm (w2.heap.size + 1) < wr.rangeLeft sm (w2.heap.size + 1) := by rw [hrg1.left_eq, hrg.left_eq]; exact hlt
      have HM := hide hmeas
      clear hrg hrg1 hat hlx hmeas hg1 hwx hwc hk0
      have hl1 : ({ q with rd := true } : Pg).si k = q.si k := rfl
      rw [hl1] at hen ⊢
      by_cases e : q.si k = 2
      · have HSh := hide (HSw.out.hit e)
        have t1 : ((q.si k : Int) == 2) = true := by rw [e]; rfl
        clear e
        go_wp2_with fail
        refine (free_any w2.heap.size 0 k T' hk16 w3 HW1.out).mono ?_
        rintro e w4 ⟨rfl, hW2, hT2⟩
        have hrg2 := Hrg1.out.kept (grown_of_turn hT2.turn) (by intro e; simp at e; omega) (by intro e; simp at e)
        go_wp2_with fail
        go_roundw
        case rel => exact ⟨_, cnt1, _, hrg2, HL1.out, hW2, HSh.out, HT1.out.then hT2.turn (by simp)⟩
        case measure =>
          rw [hrg2.left_eq, ← Hrg1.out.left_eq]
          exact HM.out
      · have HSm := hide (HSw.out.miss e)
        have t1 : ((q.si k : Int) == 2) = false := by rw [beq_eq_false_iff_ne]; omega
        go_wp2_with fail
        go_roundw
        case rel => exact ⟨_, cnt1, _, Hrg1.out, HL1.out, HW1.out, HSm.out, HT1.out⟩
        case measure => exact HM.out
end Go.Proofs.YthehkckdecckhaaGreatDoor
