/-
  writeCommit of a pager, walked.
-/
import Derived.Test.YthgpjkcgccdldaaGreatDoorPabort
namespace Go.Proofs.YthgpjkcgccdldaaGreatDoor
open Go.RowKit Go.Maps

/-- The disk when a Commit's map, and when its head, is written. -/
def St.mapped (s : St) (c : Nat) (T : Nat → Nat) : St := s.did (2 + c % 2) (bytesOf 512 (mapB T 0))
def St.headed (s : St) (c : Nat) (root : List Nat) (T : Nat → Nat) : St := (s.mapped c T).did (c % 2) (bytesOf 512 (headB c root))

set_option maxRecDepth 100000 in
theorem fB_did_same (s : St) (j : Nat) (B : Nat → Nat) : ∀ i, i < 512 → fB (s.did j (bytesOf 512 B)) j i = B i := by
  intro i hi
  unfold fB
  rw [St.did_f_same, bytesOf_get _ _ _ hi]

set_option maxRecDepth 100000 in
theorem hd_congr {A B : Nat → Nat} (h : ∀ i, i < 512 → A i = B i) (hb : B 12 ≤ 64) : hdNum A = hdNum B ∧ hdC A = hdC B ∧ hdR A = hdR B := by
  have h1 : hdSum A = hdSum B := by unfold hdSum; rw [bytesOf_congr fun i hi => h i (by omega)]
  have h2 : hdCrc A = hdCrc B := by
    have e : (bytesOf 508 fun i => A (4 + i)) = bytesOf 508 fun i => B (4 + i) := bytesOf_congr fun i hi => h _ (by omega)
    unfold hdCrc
    rw [e]
  have h3 : hdNum A = hdNum B := by
    have e : (bytesOf 8 fun i => A (4 + i)) = bytesOf 8 fun i => B (4 + i) := bytesOf_congr fun i hi => h _ (by omega)
    unfold hdNum
    rw [e]
  refine ⟨h3, by unfold hdC; rw [h1, h2, h3], ?_⟩
  unfold hdR
  rw [h1, h2, h 12 (by omega), bytesOf_congr fun i hi => h _ (by omega)]

set_option maxRecDepth 100000 in
theorem headB_12 (c : Nat) (root : List Nat) : headB c root 12 = root.length := by
  unfold headB putN headB0 setB
  rw [if_neg (by omega), if_neg (by omega), if_pos rfl]

set_option maxRecDepth 100000 in
theorem bytesOf_mem {n : Nat} {B : Nat → Nat} (h : ∀ i, B i < 256) : ∀ x ∈ bytesOf n B, x < 256 := bytesOf_lt h

set_option maxRecDepth 100000 in
/-- The map alone is written: what was committed holds. -/
theorem Laid.mapped {s : St} {c : Nat} {root : List Nat} {K : Nat → Bool} (h : Laid s c root K) (T : Nat → Nat) (hk : s.k < 1000000) : Laid (s.mapped (c + 1) T) c root K :=
  h.did (by omega) (by omega) (bytesOf_length _ _) (bytesOf_mem (mapB_lt T 0)) hk

set_option maxRecDepth 100000 in
/-- The head is written too: the new Commit holds. -/
theorem Laid.headed {s : St} {c : Nat} {root : List Nat} {K : Nat → Bool} (h : Laid s c root K) (T : Nat → Nat) (hT : ∀ i, T i < 18446744073709551616) (root' : List Nat) (hr : root'.length ≤ 64) (hrb : ∀ x ∈ root', x < 256) (K' : Nat → Bool)
    (hK : ∀ n, 4 ≤ n → n < s.n → bit T n = K' n) (hKr : ∀ n, K' n = true → 4 ≤ n ∧ n < s.n) (hk : s.k < 999999) : Laid (s.headed (c + 1) root' T) (c + 1) root' K' := by
  have hm := h.mapped T (by omega)
  have hc : c + 1 < 9223372036854775808 := by have := h.ck; omega
  obtain ⟨hb1, hb2, hb3⟩ := head_back (c + 1) hc root' hrb hr
  have hsame : ∀ i, i < 512 → fB (s.headed (c + 1) root' T) ((c + 1) % 2) i = headB (c + 1) root' i := fB_did_same _ _ _
  obtain ⟨e1, e2, e3⟩ := hd_congr hsame (by rw [headB_12]; exact hr)
  have hoth : fB (s.headed (c + 1) root' T) ((c + 1 + 1) % 2) = fB s (c % 2) := by
    have h1 : (s.headed (c + 1) root' T).f ((c + 1 + 1) % 2) = (s.mapped (c + 1) T).f ((c + 1 + 1) % 2) := St.did_f _ _ _ _ (by omega)
    have h2 : (s.mapped (c + 1) T).f ((c + 1 + 1) % 2) = s.f ((c + 1 + 1) % 2) := St.did_f _ _ _ _ (by omega)
    rw [fB_of (h1.trans h2), show (c + 1 + 1) % 2 = c % 2 by omega]
  have hcl : hdC (fB s (c % 2)) < c + 1 := by
    by_cases h0 : c = 0
    · obtain ⟨_, h1, h2⟩ := h.zero h0
      subst h0
      show hdC (fB s 0) < 1
      omega
    · have := (h.some (by omega)).1; omega
  refine ⟨hm.good.did (bytesOf_length _ _) (by show s.k + 1 < 1000000; omega), h.n64, h.n4096, ?_, ?_, by show c + 1 ≤ s.k + 1 + 1; have := h.ck; omega, fun h0 => by omega, fun _ => ⟨by rw [e2, hb2], by rw [e3, hb3], by rw [hoth]; exact hcl⟩, ⟨T, hT, ?_, hK⟩, hKr, hr, hrb⟩
  · intro i x hx
    by_cases e : i = (c + 1) % 2
    · rw [e] at hx
      have : (s.headed (c + 1) root' T).f ((c + 1) % 2) = bytesOf 512 (headB (c + 1) root') := St.did_f_same _ _ _
      rw [this] at hx
      exact bytesOf_mem (headB_lt _ _ hrb hr) x hx
    · have : (s.headed (c + 1) root' T).f i = (s.mapped (c + 1) T).f i := St.did_f _ _ _ _ e
      rw [this] at hx
      exact hm.byte i x hx
  · intro i hi
    by_cases e : i = (c + 1) % 2
    · rw [e, e1, hb1]; exact hc
    · have : i = (c + 1 + 1) % 2 := by omega
      rw [this, hoth]
      exact h.num _ (Nat.mod_lt _ (by decide))
  · have h1 : (s.headed (c + 1) root' T).f (2 + (c + 1) % 2) = (s.mapped (c + 1) T).f (2 + (c + 1) % 2) := St.did_f _ _ _ _ (by omega)
    rw [h1]
    exact St.did_f_same _ _ _

set_option maxRecDepth 100000 in
theorem page_headed (s : St) (c : Nat) (root : List Nat) (T : Nat → Nat) (n : Nat) (hn : 4 ≤ n) : (s.headed c root T).f n = s.f n ∧ (s.mapped c T).f n = s.f n := by
  have h2 : (s.mapped c T).f n = s.f n := St.did_f _ _ _ _ (by omega)
  exact ⟨(St.did_f _ _ _ _ (by omega)).trans h2, h2⟩

set_option maxRecDepth 100000 in
set_option maxHeartbeats 3200000 in
theorem writeCommit_any (p b m sm rb nx : Nat) (s : St) (q : Pg) (hd : s.dead = false) (hk : s.k < 999999) (T : Nat → Nat) (ra : Option Addr) (rc : Nat) (root : List Nat) (n : Nat) (hn : root.length = n) (hl : n ≤ 64) (hrb : ∀ x ∈ root, x < 256)
    (w : World) (hA : PAt w p b m sm rb s q) (hW : WordsAt w nx 0 T) (hnx : nx ≠ p ∧ nx ≠ b ∧ nx ≠ m) (hB : BytesAt w ra root) (hx : ∀ x, root ≠ [] → ra = some x → x.block ≠ p ∧ x.block ≠ b ∧ x.block ≠ m) :
    Calls Tryz.prog 138 #[.pointer (some ⟨p, 0, none⟩), .agg #[.int .i64 (q.c + 1 : Nat), .slice ra n rc], .pointer (some ⟨nx, 0, none⟩)] w fun e w' =>
      (e = .returned (.int .i64 0) ∧ s.left ≠ 0 ∧ s.left ≠ 1 ∧ DiskAt w' b m (s.headed (q.c + 1) root T) ∧ PgAt w' p b sm rb s.n q.word 0 q ∧ Turn [p, b, m] w w') ∨
      (e = .returned (.int .i64 12) ∧ (s.left = 0 ∨ s.left = 1) ∧ (∃ s', s'.dead = true ∧ s'.n = s.n ∧ Laid s' q.c q.root q.K ∧ (∀ k, 4 ≤ k → s'.f k = s.f k) ∧ DiskAt w' b m s') ∧ Turn [p, b, m] w w') := by
  have hck := hA.laid.ck
  have hcb : q.c + 1 < 1000000000 := by omega
  obtain ⟨c', hc'⟩ : ∃ c', c' = q.c + 1 := ⟨_, rfl⟩
  rw [← hc'] at hcb ⊢
  have HC' := hide hc'
  clear hc' hck
  have hT0 : Turn [] w (w.alloc (.cells #[.int .i64 (c' : Nat), .slice ra n rc] 118)) := (Turn.refl [] w).alloc _
  have hk0 : (w.alloc (.cells #[.int .i64 (c' : Nat), .slice ra n rc] 118)).cell? ⟨w.heap.size, 0, none⟩ = some (.int .i64 (c' : Nat)) := World.cell?_alloc_at _ _ _ _ rfl
  have hk1 : (w.alloc (.cells #[.int .i64 (c' : Nat), .slice ra n rc] 118)).cell? ⟨w.heap.size, 1, none⟩ = some (.slice ra n rc) := World.cell?_alloc_at _ _ _ _ rfl
  have hkl : w.heap.size < (w.alloc (.cells #[.int .i64 (c' : Nat), .slice ra n rc] 118)).heap.size := by simp
  have HA0 := hide (hA.turn0 hT0)
  have HW0 := hide (hW.turn hT0 (by simp))
  have HB0 := hide (hB.turn hT0 (by simp))
  have hpl := hA.pg.lt
  have hbl := hA.disk.lt
  have hml := hA.disk.ltm
  have h0 := hA.pg.c0
  have hn1 := hA.laid.n64
  have hn2 := hA.laid.n4096
  have HX := hide hx
  have HN := hide hn
  have HRb := hide hrb
  have hnx1 := hnx.1
  have hnx2 := hnx.2.1
  have hnx3 := hnx.2.2
  have HS := hide (fun w' => slotOf_any c' hcb w')
  have HM := hide (fun w' => mapStart_any (c' % 2) s.n (by omega) (by omega) w')
  have HMb := hide (fun w' => mapBlocks_any s.n (by omega) w')
  rw [mbs_one hn1 hn2] at HM HMb
  rw [Nat.mul_one] at HM
  clear hA hW hB hx hn hrb hnx
  go_enter Tryz.func138, Tryz.ntmps138
  go_wp2_with fail
  generalize hw0 : w.alloc (.cells #[.int .i64 (c' : Nat), .slice ra n rc] 118) = w0 at *
  clear hw0 h0
  refine (blocks_any b m s w0 HA0.out.disk).mono ?_
  rintro e w1 ⟨rfl, rfl⟩
  go_wp2_with fail
  refine (HS.out _).mono ?_
  rintro e w2 ⟨rfl, rfl⟩
  go_wp2_with fail
  refine (HM.out _).mono ?_
  rintro e w2 ⟨rfl, rfl⟩
  go_wp2_with fail
  refine (HMb.out _).mono ?_
  rintro e w2 ⟨rfl, rfl⟩
  go_wp2_with fail
  go_loopw [25] (fun i wr => (i = .int .i64 0 ∧ wr = w2) ∨ (i = .int .i64 1 ∧ s.left ≠ 0 ∧ DiskAt wr b m (s.mapped c' T) ∧ PgAt wr p b sm rb s.n q.word 0 q ∧ Turn [p, b, m] w2 wr)) (fun i _ => 1 - (intOf i).toNat)
  case atStart => exact .inl ⟨rfl, rfl⟩
  case round =>
    rcases hrel with ⟨rfl, rfl⟩ | ⟨rfl, hl0, hD3, hP3, hT3⟩
    · have HP2 := hide HA0.out.pg
      have hslot : 2 + c' % 2 < s.n := by omega
      go_wp2_with fail
      refine (block_any nx 0 0 (by omega) T wr HW0.out).mono ?_
      rintro e w3 ⟨rfl, hR3, hT3⟩
      have HR3 := hide hR3.bytes0
      have HD3 := hide (HA0.out.disk.turn hT3 (by simp) (by simp))
      have HP3 := hide (HA0.out.pg.turn0 hT3)
      have HPw := hide (pwrite_any p b m sm rb s.n q.word 0 q HA0.out.apart s HA0.out.laid.good (2 + c' % 2 : Nat) wr.heap.size (bytesOf 512 (mapB T 0)) (bytesOf_length _ _) w3 HR3.out HD3.out HP3.out)
      clear hR3
      by_cases h0 : s.left = 0
      · have hcut := St.write_cut (l := bytesOf 512 (mapB T 0)) hd hslot (bytesOf_length _ _) h0
        rw [hcut.1, hcut.2] at HPw
        have Hor : Hid (s.left = 0 ∨ s.left = 1) := .inl h0
        clear hcut h0
        go_wp2_with fail
        refine HPw.out.mono ?_
        rintro e w5 ⟨rfl, _, hD5, hT5, _⟩
        have HD5 := hide hD5
        clear hD5
        go_wp2_with fail
        go_ret
        exact .inr ⟨rfl, Hor.out, ⟨{ s with dead := true }, rfl, rfl, HA0.out.laid.dead true, fun _ _ => rfl, HD5.out⟩, ((hT0.then hT3 (by simp)).mono (by simp)).trans hT5⟩
      · have hdid := St.write_did (l := bytesOf 512 (mapB T 0)) hd hslot (bytesOf_length _ _) h0
        rw [hdid.1, hdid.2] at HPw
        have H0 := hide h0
        clear hdid h0
        go_wp2_with fail
        refine HPw.out.mono ?_
        rintro e w5 ⟨rfl, hP5, hD5, hT5, _⟩
        rw [if_pos trivial] at hP5
        have HD5 := hide hD5
        have HP5 := hide hP5
        clear hD5 hP5
        go_wp2_with fail
        go_roundw
        case rel => exact .inr ⟨by go_num, H0.out, HD5.out, HP5.out, (hT3.mono (by simp)).trans hT5⟩
        case measure => simp [intOf]
    · have hS : w.heap.size ∉ [p, b, m] := by simp; omega
      have hk0' := (hT3.cell (p := ⟨w.heap.size, 0, none⟩) hkl hS).trans hk0
      have hk1' := (hT3.cell (p := ⟨w.heap.size, 1, none⟩) hkl hS).trans hk1
      have HD3 := hide hD3
      have HP3 := hide hP3
      have HB3 := hide (HB0.out.turn hT3 (fun x h1 h2 => by have := HX.out x h1 h2; simp; omega))
      have HH := hide (headBlock_any c' (by omega) ra rc root n HN.out hl HRb.out wr HB3.out)
      have hslot : c' % 2 < s.n := by omega
      have hg1 : Hid (Laid (s.mapped c' T) q.c q.root q.K) := by show Laid _ _ _ _; rw [HC'.out]; exact HA0.out.laid.mapped T (by omega)
      clear hD3 hP3 hk0 hk1
      go_wp2_with fail
      refine HH.out.mono ?_
      rintro e w4 ⟨rfl, hR4, hT4⟩
      have HR4 := hide hR4.bytes0
      have HD4 := hide (HD3.out.turn hT4 (by simp) (by simp))
      have HP4 := hide (HP3.out.turn0 hT4)
      have HPw := hide (pwrite_any p b m sm rb s.n q.word 0 q HA0.out.apart (s.mapped c' T) hg1.out.good (c' % 2 : Nat) (wr.heap.size + 1) (bytesOf 512 (headB c' root)) (bytesOf_length _ _) w4 HR4.out HD4.out HP4.out)
      have hT04 : Turn [p, b, m] w w4 := ((hT0.mono (by simp)).trans hT3).trans (hT4.mono (by simp))
      clear hR4
      by_cases h0 : (s.mapped c' T).left = 0
      · have hcut := St.write_cut (s := s.mapped c' T) (l := bytesOf 512 (headB c' root)) hd hslot (bytesOf_length _ _) h0
        rw [hcut.1, hcut.2] at HPw
        have Hor : Hid (s.left = 0 ∨ s.left = 1) := by
          right
          have h0' : (if s.left < 0 then s.left else s.left - 1) = 0 := h0
          split at h0' <;> omega
        clear hcut h0
        go_wp2_with fail
        refine HPw.out.mono ?_
        rintro e w5 ⟨rfl, _, hD5, hT5, _⟩
        have HD5 := hide hD5
        clear hD5
        go_wp2_with fail
        go_ret
        exact .inr ⟨rfl, Hor.out, ⟨{ s.mapped c' T with dead := true }, rfl, rfl, hg1.out.dead true, fun k hk => (page_headed s c' root T k hk).2, HD5.out⟩, hT04.trans hT5⟩
      · have hdid := St.write_did (s := s.mapped c' T) (l := bytesOf 512 (headB c' root)) hd hslot (bytesOf_length _ _) h0
        rw [hdid.1, hdid.2] at HPw
        have H0 : Hid (s.left ≠ 1) := by
          intro e
          apply h0
          show (if s.left < 0 then s.left else s.left - 1) = 0
          rw [e]
          rfl
        clear hdid h0
        go_wp2_with fail
        refine HPw.out.mono ?_
        rintro e w5 ⟨rfl, hP5, hD5, hT5, _⟩
        rw [if_pos trivial] at hP5
        have HD5 := hide hD5
        have HP5 := hide hP5
        clear hD5 hP5
        go_wp2_with fail
        go_ret
        exact .inl ⟨rfl, hl0, H0.out, HD5.out, HP5.out, hT04.trans hT5⟩
end Go.Proofs.YthgpjkcgccdldaaGreatDoor
