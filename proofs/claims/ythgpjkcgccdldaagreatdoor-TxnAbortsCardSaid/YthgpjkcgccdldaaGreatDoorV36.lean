/-
  Commit of a tree that is one fresh leaf.
  Commit of a tree, whatever it writes and whatever pages it lets go.
  Commit of a tree, whatever it writes and whatever pages it lets go, with what the disk has behind it.
  Abort, Len; Open of a tree without keys.
  What the laws of trees call: within, May, row, length.
  A tree on a new disk; the laws' own example.
-/
import Derived.Test.YthgpjkcgccdldaaGreatDoorV34
import Derived.Test.YthgpjkcgccdldaaGreatDoorV29
import Derived.Test.YthgpjkcgccdldaaGreatDoorV31

namespace Go.Proofs.YthgpjkcgccdldaaGreatDoor
open Go.RowKit Go.Maps

theorem zero67 (w : World) : Sem.run Tryz.prog (zeroValue 124) w = .ok (.agg #[.pointer none, .int .i64 0, .bool false, .int .i64 0, .slice none 0 0]) w := by kernel_rfl

theorem TreeAt.setD {w : World} {t p : Nat} {D D' S : Stt} (h : TreeAt w t p D S) (k : Nat) (h0 : 0 < k) (hk : k < 6) (v : Value) (hS : SttAt (w.setCell ⟨t, k, none⟩ v) t 1 D') : TreeAt (w.setCell ⟨t, k, none⟩ v) t p D' S :=
  have hc : ∀ o, o ≠ k → (w.setCell ⟨t, k, none⟩ v).cell? ⟨t, o, none⟩ = w.cell? ⟨t, o, none⟩ := fun o hne => World.cell?_setCell_other _ _ _ _ (off_ne hne.symm)
  ⟨(hc 0 (by omega)).trans h.c0, hS, h.now.of fun o _ _ => hc o (by omega), fun o => by rw [World.frozen?_setCell]; exact h.fz o⟩
theorem TreeAt.setDRoot {w : World} {t p : Nat} {D S : Stt} (h : TreeAt w t p D S) (r : Option Nat) : TreeAt (w.setCell ⟨t, 1, none⟩ (rootV r)) t p { D with root := r } S :=
  have hc : ∀ o, o ≠ 1 → (w.setCell ⟨t, 1, none⟩ (rootV r)).cell? ⟨t, o, none⟩ = w.cell? ⟨t, o, none⟩ := fun o hne => World.cell?_setCell_other _ _ _ _ (off_ne hne.symm)
  h.setD 1 (by omega) (by omega) _ ⟨World.cell?_setCell_same _ _ _ h.done.c0, (hc 2 (by omega)).trans h.done.c1, (hc 3 (by omega)).trans h.done.c2, (hc 4 (by omega)).trans h.done.c3, (hc 5 (by omega)).trans h.done.c4⟩
theorem TreeAt.setDKeys {w : World} {t p : Nat} {D S : Stt} (h : TreeAt w t p D S) (n : Nat) : TreeAt (w.setCell ⟨t, 2, none⟩ (.int .i64 (n : Nat))) t p { D with keys := n } S :=
  have hc : ∀ o, o ≠ 2 → (w.setCell ⟨t, 2, none⟩ (.int .i64 (n : Nat))).cell? ⟨t, o, none⟩ = w.cell? ⟨t, o, none⟩ := fun o hne => World.cell?_setCell_other _ _ _ _ (off_ne hne.symm)
  h.setD 2 (by omega) (by omega) _ ⟨(hc 1 (by omega)).trans h.done.c0, World.cell?_setCell_same _ _ _ h.done.c1, (hc 3 (by omega)).trans h.done.c2, (hc 4 (by omega)).trans h.done.c3, (hc 5 (by omega)).trans h.done.c4⟩
theorem TreeAt.setDChanged {w : World} {t p : Nat} {D S : Stt} (h : TreeAt w t p D S) (x : Bool) : TreeAt (w.setCell ⟨t, 3, none⟩ (.bool x)) t p { D with changed := x } S :=
  have hc : ∀ o, o ≠ 3 → (w.setCell ⟨t, 3, none⟩ (.bool x)).cell? ⟨t, o, none⟩ = w.cell? ⟨t, o, none⟩ := fun o hne => World.cell?_setCell_other _ _ _ _ (off_ne hne.symm)
  h.setD 3 (by omega) (by omega) _ ⟨(hc 1 (by omega)).trans h.done.c0, (hc 2 (by omega)).trans h.done.c1, World.cell?_setCell_same _ _ _ h.done.c2, (hc 4 (by omega)).trans h.done.c3, (hc 5 (by omega)).trans h.done.c4⟩
theorem TreeAt.setDFresh {w : World} {t p : Nat} {D S : Stt} (h : TreeAt w t p D S) (n : Nat) : TreeAt (w.setCell ⟨t, 4, none⟩ (.int .i64 (n : Nat))) t p { D with fresh := n } S :=
  have hc : ∀ o, o ≠ 4 → (w.setCell ⟨t, 4, none⟩ (.int .i64 (n : Nat))).cell? ⟨t, o, none⟩ = w.cell? ⟨t, o, none⟩ := fun o hne => World.cell?_setCell_other _ _ _ _ (off_ne hne.symm)
  h.setD 4 (by omega) (by omega) _ ⟨(hc 1 (by omega)).trans h.done.c0, (hc 2 (by omega)).trans h.done.c1, (hc 3 (by omega)).trans h.done.c2, World.cell?_setCell_same _ _ _ h.done.c3, (hc 5 (by omega)).trans h.done.c4⟩
theorem TreeAt.setDDropped {w : World} {t p : Nat} {D S : Stt} (h : TreeAt w t p D S) (v : Value) : TreeAt (w.setCell ⟨t, 5, none⟩ v) t p { D with dropped := v } S :=
  have hc : ∀ o, o ≠ 5 → (w.setCell ⟨t, 5, none⟩ v).cell? ⟨t, o, none⟩ = w.cell? ⟨t, o, none⟩ := fun o hne => World.cell?_setCell_other _ _ _ _ (off_ne hne.symm)
  h.setD 5 (by omega) (by omega) _ ⟨(hc 1 (by omega)).trans h.done.c0, (hc 2 (by omega)).trans h.done.c1, (hc 3 (by omega)).trans h.done.c2, (hc 4 (by omega)).trans h.done.c3, World.cell?_setCell_same _ _ _ h.done.c4⟩

end Go.Proofs.YthgpjkcgccdldaaGreatDoor

namespace Go.Proofs.YthgpjkcgccdldaaGreatDoor
open Go.RowKit Go.Maps

set_option maxRecDepth 100000 in
set_option maxHeartbeats 800000 in
theorem bytes_none (keys : Nat) (x2 x3 x4 : Value) (_hx2 : x2.oneCell' = true) (_hx3 : x3.oneCell' = true) (_hx4 : x4.oneCell' = true) (w : World) :
    Calls Tryz.prog 104 #[.agg #[.pointer none, .int .i64 (keys : Nat), x2, x3, x4]] w fun e w' => e = .returned (.slice none 0 0) ∧ Turn [] w w' := by
  go_enter Tryz.func104, Tryz.ntmps104
  go_wp2
  go_ret
  exact ⟨rfl, (Turn.refl [] w).alloc _⟩

set_option maxRecDepth 100000 in
set_option maxHeartbeats 800000 in
theorem write_nil (t : Nat) (w : World) : Calls Tryz.prog 101 #[.pointer (some ⟨t, 0, none⟩), .pointer none] w fun e w' => e = .returned (.int .i64 0) ∧ w' = w := by
  go_enter Tryz.func101, Tryz.ntmps101
  go_wp2
  go_ret
  exact ⟨rfl, rfl⟩

/-- The world when a committed tree's state is set down. -/
def setW (w : World) (t : Nat) (r : Option Nat) (keys : Nat) : World :=
  ((((((((((w.setCell ⟨t, 1, none⟩ (rootV r)).setCell ⟨t, 2, none⟩ (.int .i64 (keys : Nat))).setCell ⟨t, 3, none⟩ (.bool false)).setCell ⟨t, 4, none⟩ (.int .i64 0)).setCell ⟨t, 5, none⟩ (.slice none 0 0)).setCell ⟨t, 6, none⟩ (rootV r)).setCell ⟨t, 7, none⟩ (.int .i64 (keys : Nat))).setCell ⟨t, 8, none⟩ (.bool false)).setCell ⟨t, 9, none⟩ (.int .i64 0)).setCell ⟨t, 10, none⟩ (.slice none 0 0)).drew

theorem set_tree {w : World} {t p : Nat} {D S : Stt} (h : TreeAt w t p D S) (r : Option Nat) (keys : Nat) : TreeAt (setW w t r keys) t p ⟨r, keys, false, 0, .slice none 0 0⟩ ⟨r, keys, false, 0, .slice none 0 0⟩ :=
  (((((((((((h.setDRoot r).setDKeys keys).setDChanged false).setDFresh 0).setDDropped (.slice none 0 0)).setRoot r).setKeys keys).setChanged false).setFresh 0).setDropped (.slice none 0 0)).turn (Turn.refl [] _).drew (by simp) :)
theorem set_turn (w : World) (t : Nat) (r : Option Nat) (keys : Nat) : Turn [t] w (setW w t r keys) := by
  have ht : t ∈ [t] := List.mem_singleton.2 rfl
  exact ((((((((((((Turn.refl [t] w).setCell ht _ _).setCell ht _ _).setCell ht _ _).setCell ht _ _).setCell ht _ _).setCell ht _ _).setCell ht _ _).setCell ht _ _).setCell ht _ _).setCell ht _ _).drew)

theorem freed_dead (q : Pg) (n : Nat) : (q.freed n).dead = q.dead := by unfold Pg.freed; split <;> rfl
theorem freed_u (q : Pg) (n : Nat) : (q.freed n).u ≤ q.u + 1 := by unfold Pg.freed; split <;> simp
theorem freeds_dead (dr : List Nat) : ∀ (q : Pg), (dr.foldl Pg.freed q).dead = q.dead := by
  induction dr with
  | nil => intro q; rfl
  | cons x xs ih => intro q; rw [List.foldl_cons, ih, freed_dead]
theorem freeds_u (dr : List Nat) : ∀ (q : Pg), (dr.foldl Pg.freed q).u ≤ q.u + dr.length := by
  induction dr with
  | nil => intro q; simp
  | cons x xs ih => intro q; rw [List.foldl_cons]; have := ih (q.freed x); have := freed_u q x; simp; omega
theorem freeds_take (dr : List Nat) (q : Pg) (i : Nat) (h : i < dr.length) : (dr.take (i + 1)).foldl Pg.freed q = ((dr.take i).foldl Pg.freed q).freed dr[i] := by
  rw [List.take_succ_eq_append_getElem h, List.foldl_append]
  rfl

/-- What a tree's writes have made, ahead of what is let go. -/
structure Wrote (w3 : World) (p sm n : Nat) (s3 : St) (q3 : Pg) (root : List Nat) (dr : List Nat) (da : Option Addr) (S : Stt) : Prop where
  sd : s3.dead = false
  qd : q3.dead = false
  k : s3.k < 999990
  left : s3.left < 0
  nn : s3.n = n
  rl : root.length ≤ 64
  rb : ∀ x ∈ root, x < 256
  u : q3.u + dr.length < 1000000
  row : ∀ i (h : i < dr.length), ∃ g off, da = some ⟨g, off, none⟩ ∧ w3.cell? ⟨g, off + i, none⟩ = some (.int .i64 (dr[i] : Nat)) ∧ g ≠ p ∧ g ≠ sm
  there : ∀ i (h : i < dr.length), ((dr.take i).foldl Pg.freed q3).thereI n (dr[i] : Nat) = true
  bytes : ∀ w4, Turn [p, sm] w3 w4 → Calls Tryz.prog 104 #[.agg #[rootV S.root, .int .i64 (S.keys : Nat), .bool true, .int .i64 (S.fresh : Nat), S.dropped]] w4 fun e w' => ∃ a2 c2, e = .returned (.slice a2 root.length c2) ∧ (a2 = none → c2 = 0) ∧ BytesAt w' a2 root ∧ (∀ x, a2 = some x → w4.heap.size ≤ x.block) ∧ Turn [] w4 w'

end Go.Proofs.YthgpjkcgccdldaaGreatDoor

namespace Go.Proofs.YthgpjkcgccdldaaGreatDoor
open Go.RowKit Go.Maps

theorem commit_tailF {t p b m sm rb : Nat} {s s3 : St} {q3 : Pg} {D S : Stt} {X dr root : List Nat} (hO : Off t p b m sm rb) (R : World → St → Pg → List Nat → Prop) {w w2 w3 wr w4 w5 : World} (hR : R w3 s3 q3 root) (hT2 : Turn [p] w w2) (hT3 : Turn X w2 w3) (hTr : Turn [p, sm] w3 wr) (hTrr : TreeAt wr t p D S) (hT4 : Turn [] wr w4) (hT5 : Turn [p, b, m] w4 w5)
    (hP5 : ∃ s' sm' rb', s'.dead = false ∧ s'.n = s.n ∧ s'.k = s3.k + mbs s.n + 1 ∧ s'.left < 0 ∧ (∀ k, fp s.n ≤ k → s'.f k = s3.f k) ∧ wr.heap.size ≤ sm' ∧ wr.heap.size ≤ rb' ∧ rb' < w5.heap.size ∧ PAt w5 p b m sm' rb' s' ((dr.foldl Pg.freed q3).committed root)) (hTr5 : TreeAt w5 t p D S) :
    ∃ w3 s3 q3 root s' sm' rb', R w3 s3 q3 root ∧ w.heap.size ≤ w3.heap.size ∧ s'.dead = false ∧ s'.n = s.n ∧ s'.k = s3.k + mbs s.n + 1 ∧ s'.left < 0 ∧ (∀ k, fp s.n ≤ k → s'.f k = s3.f k) ∧ w.heap.size ≤ sm' ∧ w.heap.size ≤ rb' ∧ rb' < (setW w5 t S.root S.keys).heap.size ∧ TreeAt (setW w5 t S.root S.keys) t p ⟨S.root, S.keys, false, 0, .slice none 0 0⟩ ⟨S.root, S.keys, false, 0, .slice none 0 0⟩ ∧ PAt (setW w5 t S.root S.keys) p b m sm' rb' s' ((dr.foldl Pg.freed q3).committed root) ∧ Turn [t, p, b, m, sm] w3 (setW w5 t S.root S.keys) ∧ Turn (X ++ [t, p, b, m, sm]) w (setW w5 t S.root S.keys) := by
  obtain ⟨s', sm', rb', h1, h2, h3, h4, hf, h6, h7, h8, h9⟩ := hP5
  have hTs := set_turn w5 t S.root S.keys
  have hTs' := set_tree hTr5 S.root S.keys
  have htl : t < wr.heap.size := hTrr.lt
  have hsz5 : wr.heap.size ≤ w5.heap.size := Nat.le_trans hT4.size hT5.size
  have hs0 : w.heap.size ≤ w3.heap.size := Nat.le_trans hT2.size hT3.size
  have hsr := hTr.size
  have hT35 : Turn [t, p, b, m, sm] w3 w5 := ((hTr.mono (by simp)).then hT4 (by simp)).trans (hT5.mono (by simp))
  have hT05 : Turn (X ++ [t, p, b, m, sm]) w w5 := ((hT2.mono (by simp)).trans (hT3.mono (by intro k hk; simp [hk]))).trans (hT35.mono (by intro k hk; exact List.mem_append_right _ hk))
  have hsm : t ≠ sm' := by omega
  have hrb : t ≠ rb' := by omega
  exact ⟨w3, s3, q3, root, s', sm', rb', hR, hs0, h1, h2, h3, h4, hf, by omega, by omega, Nat.lt_of_lt_of_le h8 hTs.size, hTs', h9.turnX hTs (by simp; exact ⟨hO.one, hO.p, hO.b, hO.m, hsm, hrb⟩), hT35.trans (hTs.mono (by simp)), hT05.trans (hTs.mono (by simp))⟩

set_option maxRecDepth 100000 in
set_option maxHeartbeats 6400000 in
theorem commit_genF (t p b m sm rb : Nat) (s : St) (q : Pg) (D S : Stt) (hd : s.dead = false) (hq : q.dead = false) (hO : Off t p b m sm rb) (hfr : S.fresh ≤ 100000) (_hks : S.keys ≤ 1000000) (hroom : S.fresh ≤ q.left s.n) (hch : S.changed = true) (X : List Nat) (dr : List Nat) (da : Option Addr) (dcap : Nat) (hdl : dr.length ≤ 100000) (hdr : S.dropped = .slice da dr.length dcap) (_hX : t ∉ X)
    (R : World → St → Pg → List Nat → Prop) (w : World) (hrb : rb < w.heap.size) (hA : PAt w p b m sm rb s q) (hT : TreeAt w t p D S)
    (hW : ∀ w2, PAt w2 p b m sm rb s { q with rd := true } → TreeAt w2 t p D S → Turn [p] w w2 → Calls Tryz.prog 101 #[.pointer (some ⟨t, 0, none⟩), rootV S.root] w2 fun e w3 => e = .returned (.int .i64 0) ∧ ∃ s3 q3 root, Wrote w3 p sm s.n s3 q3 root dr da S ∧ R w3 s3 q3 root ∧ TreeAt w3 t p D S ∧ PAt w3 p b m sm rb s3 q3 ∧ Turn X w2 w3) :
    Calls Tryz.prog 72 #[.pointer (some ⟨t, 0, none⟩)] w fun e w' => e = .returned (.int .i64 0) ∧ ∃ w3 s3 q3 root s' sm' rb', R w3 s3 q3 root ∧ w.heap.size ≤ w3.heap.size ∧ s'.dead = false ∧ s'.n = s.n ∧ s'.k = s3.k + mbs s.n + 1 ∧ s'.left < 0 ∧ (∀ k, fp s.n ≤ k → s'.f k = s3.f k) ∧ w.heap.size ≤ sm' ∧ w.heap.size ≤ rb' ∧ rb' < w'.heap.size ∧ TreeAt w' t p ⟨S.root, S.keys, false, 0, .slice none 0 0⟩ ⟨S.root, S.keys, false, 0, .slice none 0 0⟩ ∧ PAt w' p b m sm' rb' s' ((dr.foldl Pg.freed q3).committed root) ∧ Turn [t, p, b, m, sm] w3 w' ∧ Turn (X ++ [t, p, b, m, sm]) w w' := by
  have HC := hide (tdead_any t p b m sm rb s q D S hd hq w hA hT)
  have HT := hide hT
  have HW := hide hW
  have hlle := left_le q s.n
  clear hA hT hW
  go_enter Tryz.func72, Tryz.ntmps72
  go_wp2_with fail
  refine HC.out.mono ?_
  rintro e w1 ⟨rfl, ⟨r, hA1⟩, hT1⟩
  have HTr1 := hide (HT.out.turn hT1 (by simp; exact hO.p))
  have HLf := hide (tleft_any t p b m sm rb s { q with rd := r } D S hd hO.p (by omega) w1 hA1 HTr1.out)
  have HT1 := hide hT1
  have h8 := HTr1.out.now.c2
  rw [hch] at h8
  change Hid (Calls Tryz.prog 66 _ w1 fun e w' => e = .returned (.int .i64 ((q.left s.n : Nat) - (S.fresh : Nat) : Int)) ∧ PAt w' p b m sm rb s { q with rd := true } ∧ Turn [p] w1 w') at HLf
  have HLL : Hid (∃ lf, lf = q.left s.n) := ⟨_, rfl⟩
  obtain ⟨lf, hlf⟩ := HLL.out
  have HLfE := hide hlf
  rw [← hlf] at HLf hroom hlle
  clear hA1 hT1 hlf HLL
  go_wp2_with fail
  refine HLf.out.mono ?_
  rintro e w2 ⟨rfl, hA2, hT2⟩
  have HTr2 := hide (HTr1.out.turn hT2 (by simp; exact hO.p))
  have HT2 := hide (HT1.out.trans hT2)
  have h6 : w2.cell? ⟨t, 6, none⟩ = some (rootV S.root) := HTr2.out.now.c0
  have hnl : ¬ ((lf : Int) - (S.fresh : Int) < 0) := by omega
  have HW2 := hide (HW.out w2 hA2 HTr2.out HT2.out)
  clear hA2 hT2 h8
  obtain ⟨ra, hrv⟩ : ∃ ra, Value.pointer ra = rootV S.root := ⟨_, rfl⟩
  have HRV := hide hrv
  rw [← hrv] at h6 HW2
  clear hrv
  go_wp2_with fail
  refine HW2.out.mono ?_
  rintro e w3 ⟨rfl, s3, q3, root, hWr, hR, hTr3, hA3, hT3⟩
  have HWr := hide hWr
  have HR := hide hR
  have HTr3 := hide hTr3
  have HA3 := hide hA3
  have HT3 := hide hT3
  have h10 := hTr3.now.c4
  rw [hdr] at h10
  clear hWr hR hTr3 hA3 hT3 h6
  go_wp2_with fail
  go_loopw [5, 6, 38] (fun _ _ i wr => ∃ j : Nat, j ≤ dr.length ∧ i = .int .i64 (j : Nat) ∧ PAt wr p b m sm rb s3 ((dr.take j).foldl Pg.freed q3) ∧ Turn [p, sm] w3 wr) (fun _ _ i _ => dr.length - (intOf i).toNat)
  case atStart => exact ⟨0, Nat.zero_le _, rfl, by simpa using HA3.out, Turn.refl _ _⟩
  case round =>
    obtain ⟨j, hj, rfl, hAr, hTr⟩ := hrel
    have HAr := hide hAr
    have HTr := hide hTr
    have HTrr := hide (HTr3.out.turn hTr (by simp; exact ⟨hO.p, hO.sm⟩))
    have hc0 := HTrr.out.c0
    clear hAr hTr
    by_cases hlt : j < dr.length
    · obtain ⟨g, off, rfl, hcell, hg⟩ := HWr.out.row j hlt
      have hcr : wr.cell? ⟨g, off + j, none⟩ = some (.int .i64 (dr[j] : Nat)) := (HTr.out.cell (p := ⟨g, off + j, none⟩) (lt_of_cell hcell) (by simpa using hg)).trans hcell
      have hu := freeds_u (dr.take j) q3
      have hu3 := HWr.out.u
      have HFr := hide (free_yes p b m sm rb s3 ((dr.take j).foldl Pg.freed q3) HWr.out.sd ((freeds_dead _ _).trans HWr.out.qd) (by simp at hu; omega) dr[j] (by rw [HWr.out.nn]; exact HWr.out.there j hlt) wr HAr.out)
      rw [← freeds_take dr q3 j hlt] at HFr
      clear hu hu3 hcell
      generalize dr[j] = pj at *
      go_wp2_with fail
      refine HFr.out.mono ?_
      rintro e w4 ⟨rfl, hA4, hT4⟩
      have HA4 := hide hA4
      have HT4 := hide (HTr.out.trans hT4)
      clear hA4 hT4
      go_wp2_with fail
      go_roundw
      case rel => exact ⟨j + 1, by omega, by go_num, HA4.out, HT4.out⟩
      case measure => simp [intOf]; omega
    · obtain rfl : j = dr.length := by omega
      have HAf : Hid (PAt wr p b m sm rb s3 (dr.foldl Pg.freed q3)) := by have := HAr.out; rwa [List.take_length] at this
      have hc6 : wr.cell? ⟨t, 6, none⟩ = some (.pointer ra) := by rw [HRV.out]; exact HTrr.out.now.c0
      have hc7 : wr.cell? ⟨t, 7, none⟩ = some (.int .i64 (S.keys : Nat)) := HTrr.out.now.c1
      have hc8 : wr.cell? ⟨t, 8, none⟩ = some (.bool true) := by have := HTrr.out.now.c2; rw [hch] at this; exact this
      have hc9 : wr.cell? ⟨t, 9, none⟩ = some (.int .i64 (S.fresh : Nat)) := HTrr.out.now.c3
      have hc10 : wr.cell? ⟨t, 10, none⟩ = some (.slice da dr.length dcap) := by have := HTrr.out.now.c4; rw [hdr] at this; exact this
      have hpl3 := HAf.out.pg.lt
      have hs03 : w.heap.size ≤ wr.heap.size := Nat.le_trans HT2.out.size (Nat.le_trans HT3.out.size HTr.out.size)
      have HBy : Hid (Calls Tryz.prog 104 #[.agg #[.pointer ra, .int .i64 (S.keys : Nat), .bool true, .int .i64 (S.fresh : Nat), .slice da dr.length dcap]] wr.drew fun e w' => ∃ a2 c2, e = .returned (.slice a2 root.length c2) ∧ (a2 = none → c2 = 0) ∧ BytesAt w' a2 root ∧ (∀ x, a2 = some x → wr.heap.size ≤ x.block) ∧ Turn [] wr w') := by
        have h := HWr.out.bytes wr.drew HTr.out.drew
        rw [hdr, ← HRV.out] at h
        refine h.mono ?_
        rintro e w4 ⟨a2, c2, rfl, hn, hB4, hx4, hT4⟩
        exact ⟨a2, c2, rfl, hn, hB4, hx4, ((Turn.refl [] wr).drew).then hT4 (by simp)⟩
      have HCm : Hid (∀ (w4 : World) (a2 : Option Addr) (c2 : Nat), Turn [] wr w4 → (a2 = none → c2 = 0) → BytesAt w4 a2 root → (∀ x, a2 = some x → wr.heap.size ≤ x.block) → Calls Tryz.prog 103 #[.pointer (some ⟨p, 0, none⟩), .slice a2 root.length c2] w4 fun e w5 => e = .returned (.int .i64 0) ∧ (∃ s' sm' rb', s'.dead = false ∧ s'.n = s.n ∧ s'.k = s3.k + mbs s.n + 1 ∧ s'.left < 0 ∧ (∀ k, fp s.n ≤ k → s'.f k = s3.f k) ∧ wr.heap.size ≤ sm' ∧ wr.heap.size ≤ rb' ∧ rb' < w5.heap.size ∧ PAt w5 p b m sm' rb' s' ((dr.foldl Pg.freed q3).committed root)) ∧ Turn [p, b, m] w4 w5) := fun w4 a2 c2 hT4 hn hB hx => by
        refine (commit_any p b m sm rb s3 (dr.foldl Pg.freed q3) HWr.out.sd ((freeds_dead _ _).trans HWr.out.qd) HWr.out.k a2 c2 root root.length rfl HWr.out.rl HWr.out.rb hn w4 (HAf.out.turn0 hT4) hB (fun x _ hx' => by have := hx x hx'; omega) (by have := hT4.size; omega)).mono ?_
        rintro e w5 hpost
        have hl' := HWr.out.left
        rcases hpost with ⟨rfl, _, ⟨s', sm', rb', h1, h2, h3, h4, hf, h6, h7, h8, h9⟩, hT5⟩ | ⟨_, h, _⟩
        · have := hT4.size
          exact ⟨rfl, ⟨s', sm', rb', h1, h2.trans HWr.out.nn, by rw [h3, HWr.out.nn], h4 hl', fun k hk => hf k (by rw [HWr.out.nn]; exact hk), by omega, by omega, h8, h9⟩, hT5⟩
        · omega
      have HCh := hide hch
      have HDr := hide hdr
      generalize root.length = rl at *
      generalize dr.length = dl at *
      clear HW HLf HC hch hdr HW2 HWr
      go_wp2_with fail
      go_region_with (first
        | (go_at_call 104; refine HBy.out.mono ?_; rintro e w4 ⟨a2, c2, rfl, hn4, hB4, hx4, hT4⟩; have hc04 := (HTrr.out.turn hT4 (by simp)).c0; have HB4 := hide hB4; have HX4 := hide hx4; have HN4 := hide hn4; have HT4 := hide hT4; clear hB4 hx4 hn4 hT4)
        | (go_at_call 103; refine (HCm.out w4 a2 c2 HT4.out HN4.out HB4.out HX4.out).mono ?_; rintro e w5 ⟨rfl, hP5, hT5⟩; have HP5 := hide hP5; have HT5 := hide hT5; clear hP5 hT5))
      all_goals
        have hTr5 := (HTrr.out.turn HT4.out (by simp)).turn HT5.out (by simp; exact ⟨hO.p, hO.b, hO.m⟩)
        have hd6 : w5.cell? ⟨t, 6, none⟩ = some (.pointer ra) := by rw [HRV.out]; exact hTr5.now.c0
        have hd7 : w5.cell? ⟨t, 7, none⟩ = some (.int .i64 (S.keys : Nat)) := hTr5.now.c1
        have hd8 : w5.cell? ⟨t, 8, none⟩ = some (.bool S.changed) := hTr5.now.c2
        have hd9 : w5.cell? ⟨t, 9, none⟩ = some (.int .i64 (S.fresh : Nat)) := hTr5.now.c3
        have hd10 : w5.cell? ⟨t, 10, none⟩ = some S.dropped := hTr5.now.c4
        have hd1 : w5.cell? ⟨t, 1, none⟩ = some (rootV D.root) := hTr5.done.c0
        have hd2 : w5.cell? ⟨t, 2, none⟩ = some (.int .i64 (D.keys : Nat)) := hTr5.done.c1
        have hd3 : w5.cell? ⟨t, 3, none⟩ = some (.bool D.changed) := hTr5.done.c2
        have hd4 : w5.cell? ⟨t, 4, none⟩ = some (.int .i64 (D.fresh : Nat)) := hTr5.done.c3
        have hd5 : w5.cell? ⟨t, 5, none⟩ = some D.dropped := hTr5.done.c4
        have hz67 := zero67
        have hff := hTr5.fz
        have HTr5 := hide hTr5
        clear hTr5 HBy HCm hc0 hc6 hc7 hc8 hc9 hc10
        have hf1 := hff 1
        have hf2 := hff 2
        have hf3 := hff 3
        have hf4 := hff 4
        have hf5 := hff 5
        have hf6 := hff 6
        have hf7 := hff 7
        have hf8 := hff 8
        have hf9 := hff 9
        have hf10 := hff 10
        clear hff
        go_wp2_with fail
        go_region
        all_goals
          go_wp2_with fail
          go_ret
          have hfin := commit_tailF (s := s) hO R HR.out HT2.out HT3.out HTr.out HTrr.out HT4.out HT5.out HP5.out HTr5.out
          unfold setW at hfin
          rw [← HRV.out] at hfin
          exact ⟨rfl, hfin⟩

end Go.Proofs.YthgpjkcgccdldaaGreatDoor

namespace Go.Proofs.YthgpjkcgccdldaaGreatDoor
open Go.RowKit Go.Maps

theorem zero70 (w : World) : Sem.run Tryz.prog (zeroValue 126) w = .ok (.agg #[.pointer none, .pointer none, .int .i64 0, .bool false, .int .i64 0, .slice none 0 0, .pointer none, .int .i64 0, .bool false, .int .i64 0, .slice none 0 0]) w := by kernel_rfl

set_option maxRecDepth 100000 in
set_option maxHeartbeats 1600000 in
theorem stateOf_none (a : Option Addr) (n cap : Nat) (hn : n < 9) (w : World) : Calls Tryz.prog 61 #[.slice a n cap] w fun e w' => e = .returned (.agg #[.pointer none, .int .i64 0, .bool false, .int .i64 0, .slice none 0 0]) ∧ Turn [] w w' := by
  have hz := zero67
  have hnn : ((n : Int) == 9) = false := by rw [beq_eq_false_iff_ne]; omega
  have hn9 : ¬ n = 9 := by omega
  go_enter Tryz.func61, Tryz.ntmps61
  go_wp2_with fail
  refine bodyPost_ret (v := .agg #[.pointer none, .int .i64 0, .bool false, .int .i64 0, .slice none 0 0]) (by simp [results, Tryz.results61, go_sem]) rfl ⟨rfl, (Turn.refl [] w).alloc _⟩

set_option maxRecDepth 100000 in
set_option maxHeartbeats 3200000 in
theorem topen_new (p b m sm rb : Nat) (s : St) (q : Pg) (hd : s.dead = false) (hq : q.dead = false) (hroot : q.root.length < 9) (w : World) (hrb : rb < w.heap.size) (hA : PAt w p b m sm rb s q) :
    Calls Tryz.prog 35 #[.pointer (some ⟨p, 0, none⟩)] w fun e w' => ∃ t r, e = .returned (.tuple #[.pointer (some ⟨t, 0, none⟩), .int .i64 0]) ∧ w.heap.size ≤ t ∧ TreeAt w' t p ⟨none, 0, false, 0, .slice none 0 0⟩ ⟨none, 0, false, 0, .slice none 0 0⟩ ∧ PAt w' p b m sm rb s { q with rd := r } ∧ Turn [p] w w' := by
  have hz := zero70
  have hpl := hA.pg.lt
  have HP0 : Hid (w.heap.size ≠ 1 ∧ w.heap.size ≠ p ∧ w.heap.size ≠ b ∧ w.heap.size ≠ m ∧ w.heap.size ≠ sm ∧ w.heap.size ≠ rb) := by
    have h1 := hA.disk.lt
    have h2 := hA.disk.ltm
    have h3 := hA.pg.lts
    have h4 := hA.pos
    exact ⟨by omega, by omega, by omega, by omega, by omega, by omega⟩
  have hT0 : Turn [] w (w.alloc (.cells #[.pointer (some ⟨p, 0, none⟩), .pointer none, .int .i64 0, .bool false, .int .i64 0, .slice none 0 0, .pointer none, .int .i64 0, .bool false, .int .i64 0, .slice none 0 0] 126)) := (Turn.refl [] w).alloc _
  have hTr0 : TreeAt (w.alloc (.cells #[.pointer (some ⟨p, 0, none⟩), .pointer none, .int .i64 0, .bool false, .int .i64 0, .slice none 0 0, .pointer none, .int .i64 0, .bool false, .int .i64 0, .slice none 0 0] 126)) w.heap.size p ⟨none, 0, false, 0, .slice none 0 0⟩ ⟨none, 0, false, 0, .slice none 0 0⟩ :=
    ⟨World.cell?_alloc_at _ _ _ _ rfl, ⟨World.cell?_alloc_at _ _ _ _ rfl, World.cell?_alloc_at _ _ _ _ rfl, World.cell?_alloc_at _ _ _ _ rfl, World.cell?_alloc_at _ _ _ _ rfl, World.cell?_alloc_at _ _ _ _ rfl⟩, ⟨World.cell?_alloc_at _ _ _ _ rfl, World.cell?_alloc_at _ _ _ _ rfl, World.cell?_alloc_at _ _ _ _ rfl, World.cell?_alloc_at _ _ _ _ rfl, World.cell?_alloc_at _ _ _ _ rfl⟩, fun o => World.frozen?_alloc_at _ _ _ _ rfl⟩
  have HC := hide (tdead_any w.heap.size p b m sm rb s q _ _ hd hq _ (hA.turn0 hT0) hTr0)
  have HT0 := hide hT0
  have HTr0 := hide hTr0
  clear hT0 hTr0 hA
  go_enter Tryz.func35, Tryz.ntmps35
  go_wp2_with fail
  refine HC.out.mono ?_
  rintro e w1 ⟨rfl, ⟨r, hA1⟩, hT1⟩
  have HTr1 := hide (HTr0.out.turn hT1 (by simp; omega))
  have HA1 := hide hA1
  have HT1 := hide ((show Turn [p] w _ from ⟨HT0.out.os, HT0.out.tape, HT0.out.output, HT0.out.size, fun i hi _ => HT0.out.block i hi (by simp)⟩).trans hT1)
  clear hA1 hT1
  go_wp2_with fail
  refine (root_any p b sm rb s.n _ 0 { q with rd := r } (by show q.root.length ≤ 64; omega) w1 HA1.out.pg).mono ?_
  rintro e w2 ⟨a2, c2, rfl, _, _, hT2⟩
  have HTr2 := hide (HTr1.out.turn hT2 (by simp))
  have HA2 := hide (HA1.out.turn0 hT2)
  have HT2 := hide (HT1.out.then hT2 (by simp))
  clear hT2
  go_wp2_with fail
  refine (stateOf_none a2 q.root.length c2 hroot w2).mono ?_
  rintro e w3 ⟨rfl, hT3⟩
  have hTr3 := HTr2.out.turn hT3 (by simp)
  have HA3 := hide (HA2.out.turn0 hT3)
  have HT3 := hide (HT2.out.then hT3 (by simp))
  have hs3 := HT3.out.size
  have hd1 := hTr3.done.c0
  have hd2 := hTr3.done.c1
  have hd3 := hTr3.done.c2
  have hd4 := hTr3.done.c3
  have hd5 := hTr3.done.c4
  have hd6 := hTr3.now.c0
  have hd7 := hTr3.now.c1
  have hd8 := hTr3.now.c2
  have hd9 := hTr3.now.c3
  have hd10 := hTr3.now.c4
  have hf1 := hTr3.fz 1
  have hf2 := hTr3.fz 2
  have hf3 := hTr3.fz 3
  have hf4 := hTr3.fz 4
  have hf5 := hTr3.fz 5
  have hf6 := hTr3.fz 6
  have hf7 := hTr3.fz 7
  have hf8 := hTr3.fz 8
  have hf9 := hTr3.fz 9
  have hf10 := hTr3.fz 10
  have HTr3 := hide hTr3
  have htl := hTr3.lt
  have hap := HA3.out.apart
  have hbl := HA3.out.disk.lt
  clear hT3 hTr3 HA1 HA2
  generalize hte : w.heap.size = t at *
  go_wp2_with fail
  have ht : t ∈ [t] := List.mem_singleton.2 rfl
  have hTs := ((((((((((Turn.refl [t] w3).setCell ht 1 (.pointer none)).setCell ht 2 (.int .i64 0)).setCell ht 3 (.bool false)).setCell ht 4 (.int .i64 0)).setCell ht 5 (.slice none 0 0)).setCell ht 6 (.pointer none)).setCell ht 7 (.int .i64 0)).setCell ht 8 (.bool false)).setCell ht 9 (.int .i64 0)).setCell ht 10 (.slice none 0 0)
  have hTr := (((((((((HTr3.out.setDRoot none).setDKeys 0).setDChanged false).setDFresh 0).setDDropped (.slice none 0 0)).setRoot none).setKeys 0).setChanged false).setFresh 0).setDropped (.slice none 0 0)
  refine bodyPost_ret (v := .tuple #[.pointer (some ⟨t, 0, none⟩), .int .i64 0]) (by simp [results, Tryz.results35, go_sem]) rfl ⟨t, r, rfl, by omega, hTr, ?_, ?_⟩
  · exact HA3.out.turnX hTs (by
      intro x hx
      obtain rfl := List.mem_singleton.1 hx
      have h1 := HA3.out.pos
      have h2 := HP0.out
      exact ⟨h2.1, h2.2.1, h2.2.2.1, h2.2.2.2.1, h2.2.2.2.2.1, h2.2.2.2.2.2⟩)
  · exact HT3.out.then hTs (by simp; omega)
end Go.Proofs.YthgpjkcgccdldaaGreatDoor

namespace Go.Proofs.YthgpjkcgccdldaaGreatDoor
open Go.RowKit Go.Maps

/-- What is wrong with a key and a value. -/
def mayE (k v : ByteArray) : Int := if k.size = 0 ∨ 48 < k.size then 1 else if 120 < v.size then 5 else 0
