/-
  Commit of a tree that is one fresh leaf.
-/
import Derived.Test.YthgpjkcgccdldaaGreatDoorTWrite
namespace Go.Proofs.YthgpjkcgccdldaaGreatDoor
open Go.RowKit Go.Maps

theorem zero67 (w : World) : Sem.run Tryz.prog (zeroValue 124) w = .ok (.agg #[.pointer none, .int .i64 0, .bool false, .int .i64 0, .slice none 0 0]) w := by kernel_rfl

theorem TreeAt.setD {w : World} {t p : Nat} {D D' S : Stt} (h : TreeAt w t p D S) (k : Nat) (h0 : 0 < k) (hk : k < 6) (v : Value) (hS : SttAt (w.setCell ⟨t, k, none⟩ v) t 1 D') : TreeAt (w.setCell ⟨t, k, none⟩ v) t p D' S :=
  have hc : ∀ o, o ≠ k → (w.setCell ⟨t, k, none⟩ v).cell? ⟨t, o, none⟩ = w.cell? ⟨t, o, none⟩ := fun o hne => World.cell?_setCell_other _ _ _ _ (off_ne hne.symm)
  ⟨(hc 0 (by omega)).trans h.c0, hS, h.now.of fun o _ _ => hc o (by omega), fun o => by rw [World.frozen?_setCell]; exact h.fz o⟩
theorem TreeAt.setDRoot {w : World} {t p : Nat} {D S : Stt} (h : TreeAt w t p D S) (r : Option Nat) : TreeAt (w.setCell ⟨t, 1, none⟩ (rootV r)) t p { D with root := r } S :=
  have hc : ∀ o, o ≠ 1 → (w.setCell ⟨t, 1, none⟩ (rootV r)).cell? ⟨t, o, none⟩ = w.cell? ⟨t, o, none⟩ := fun o hne => World.cell?_setCell_other _ _ _ _ (off_ne hne.symm)
  h.setD 1 (by omega) (by omega) _ ⟨World.cell?_setCell_same _ _ _ h.done.c0, (hc 2 (by omega)).trans h.done.c1, (hc 3 (by omega)).trans h.done.c2, (hc 4 (by omega)).trans h.done.c3, (hc 5 (by omega)).trans h.done.c4⟩
theorem TreeAt.setDKeys {w : World} {t p : Nat} {D S : Stt} (h : TreeAt w t p D S) (n : Nat) : TreeAt (w.setCell ⟨t, 2, none⟩ (.int .i64 (n : Nat))) t p { D with keys := n } S :=
  have hc : ∀ o, o ≠ 2 → (w.setCell ⟨t, 2, none⟩ (.int .i64 (n : Nat))).cell? ⟨t, o, none⟩ = w.cell? ⟨t, o, none⟩ := fun o hne => World.cell?_setCell_other _ _ _ _ (off_ne hne.symm)
  h.setD 2 (by omega) (by omega) _ ⟨(hc 1 (by omega)).trans h.done.c0, World.cell?_setCell_same _ _ _ h.done.c1, (hc 3 (by omega)).trans h.done.c2, (hc 4 (by omega)).trans h.done.c3, (hc 5 (by omega)).trans h.done.c4⟩
theorem TreeAt.setDChanged {w : World} {t p : Nat} {D S : Stt} (h : TreeAt w t p D S) (x : Bool) : TreeAt (w.setCell ⟨t, 3, none⟩ (.bool x)) t p { D with changed := x } S :=
  have hc : ∀ o, o ≠ 3 → (w.setCell ⟨t, 3, none⟩ (.bool x)).cell? ⟨t, o, none⟩ = w.cell? ⟨t, o, none⟩ := fun o hne => World.cell?_setCell_other _ _ _ _ (off_ne hne.symm)
  h.setD 3 (by omega) (by omega) _ ⟨(hc 1 (by omega)).trans h.done.c0, (hc 2 (by omega)).trans h.done.c1, World.cell?_setCell_same _ _ _ h.done.c2, (hc 4 (by omega)).trans h.done.c3, (hc 5 (by omega)).trans h.done.c4⟩
theorem TreeAt.setDFresh {w : World} {t p : Nat} {D S : Stt} (h : TreeAt w t p D S) (n : Nat) : TreeAt (w.setCell ⟨t, 4, none⟩ (.int .i64 (n : Nat))) t p { D with fresh := n } S :=
  have hc : ∀ o, o ≠ 4 → (w.setCell ⟨t, 4, none⟩ (.int .i64 (n : Nat))).cell? ⟨t, o, none⟩ = w.cell? ⟨t, o, none⟩ := fun o hne => World.cell?_setCell_other _ _ _ _ (off_ne hne.symm)
  h.setD 4 (by omega) (by omega) _ ⟨(hc 1 (by omega)).trans h.done.c0, (hc 2 (by omega)).trans h.done.c1, (hc 3 (by omega)).trans h.done.c2, World.cell?_setCell_same _ _ _ h.done.c3, (hc 5 (by omega)).trans h.done.c4⟩
theorem TreeAt.setDDropped {w : World} {t p : Nat} {D S : Stt} (h : TreeAt w t p D S) (v : Value) : TreeAt (w.setCell ⟨t, 5, none⟩ v) t p { D with dropped := v } S :=
  have hc : ∀ o, o ≠ 5 → (w.setCell ⟨t, 5, none⟩ v).cell? ⟨t, o, none⟩ = w.cell? ⟨t, o, none⟩ := fun o hne => World.cell?_setCell_other _ _ _ _ (off_ne hne.symm)
  h.setD 5 (by omega) (by omega) _ ⟨(hc 1 (by omega)).trans h.done.c0, (hc 2 (by omega)).trans h.done.c1, (hc 3 (by omega)).trans h.done.c2, (hc 4 (by omega)).trans h.done.c3, World.cell?_setCell_same _ _ _ h.done.c4⟩

/-- The world behind a Commit's last stores. -/
def settledW (w : World) (t a keys : Nat) : World :=
  ((((((((((w.setCell ⟨t, 1, none⟩ (.pointer (some ⟨a, 0, none⟩))).setCell ⟨t, 2, none⟩ (.int .i64 (keys : Nat))).setCell ⟨t, 3, none⟩ (.bool false)).setCell ⟨t, 4, none⟩ (.int .i64 0)).setCell ⟨t, 5, none⟩ (.slice none 0 0)).setCell ⟨t, 6, none⟩ (.pointer (some ⟨a, 0, none⟩))).setCell ⟨t, 7, none⟩ (.int .i64 (keys : Nat))).setCell ⟨t, 8, none⟩ (.bool false)).setCell ⟨t, 9, none⟩ (.int .i64 0)).setCell ⟨t, 10, none⟩ (.slice none 0 0)).drew

theorem settled_tree {w : World} {t p : Nat} {D S : Stt} (h : TreeAt w t p D S) (a keys : Nat) : TreeAt (settledW w t a keys) t p ⟨some a, keys, false, 0, .slice none 0 0⟩ ⟨some a, keys, false, 0, .slice none 0 0⟩ :=
  (((((((((((h.setDRoot (some a)).setDKeys keys).setDChanged false).setDFresh 0).setDDropped (.slice none 0 0)).setRoot (some a)).setKeys keys).setChanged false).setFresh 0).setDropped (.slice none 0 0)).turn (Turn.refl [] _).drew (by simp) :)
theorem settled_turn (w : World) (t a keys : Nat) : Turn [t] w (settledW w t a keys) := by
  have ht : t ∈ [t] := List.mem_singleton.2 rfl
  exact ((((((((((((Turn.refl [t] w).setCell ht _ _).setCell ht _ _).setCell ht _ _).setCell ht _ _).setCell ht _ _).setCell ht _ _).setCell ht _ _).setCell ht _ _).setCell ht _ _).setCell ht _ _).drew)

set_option maxRecDepth 100000 in
set_option maxHeartbeats 3200000 in
theorem commit_fresh (t p b m sm rb : Nat) (s : St) (q : Pg) (D S : Stt) (hd : s.dead = false) (hq : q.dead = false) (hu : q.u < 1000000) (hk : s.k < 999000) (hleft : s.left < 0) (hroom : S.fresh ≤ q.left s.n ∧ 0 < q.left s.n) (hO : Off t p b m sm rb) (a : Nat) (d : Int) (bb off cap : Nat) (l : List (ByteArray × ByteArray)) (ha : a ≠ 1 ∧ a ≠ p ∧ a ≠ b ∧ a ≠ m ∧ a ≠ sm ∧ a ≠ rb ∧ a ≠ t) (hbb : bb ≠ a ∧ bb ≠ p ∧ bb ≠ b ∧ bb ≠ m ∧ bb ≠ sm ∧ bb ≠ t) (hlen : l.length ≤ 1000) (hsh : Short l) (hsz : lsize l ≤ 495)
    (hr : S.root = some a) (hks : S.keys ≤ 1000) (hfr : S.fresh ≤ 1000) (hch : S.changed = true) (hdr : S.dropped = .slice none 0 0) (w : World) (hrb : rb < w.heap.size) (hA : PAt w p b m sm rb s q) (hT : TreeAt w t p D S) (hL : LeafAt w a 0 d bb off cap l) :
    Calls Tryz.prog 72 #[.pointer (some ⟨t, 0, none⟩)] w fun e w' => e = .returned (.int .i64 0) ∧ ∃ k s' q' sm' rb', 0 < k ∧ s'.dead = false ∧ q'.dead = false ∧ s'.n = s.n ∧ s'.left < 0 ∧ s'.k = s.k + 3 ∧ q'.u = 0 ∧ w.heap.size ≤ sm' ∧ w.heap.size ≤ rb' ∧ rb' < w'.heap.size ∧ LeafAt w' a k 1 bb off cap l ∧ TreeAt w' t p ⟨some a, S.keys, false, 0, .slice none 0 0⟩ ⟨some a, S.keys, false, 0, .slice none 0 0⟩ ∧ PAt w' p b m sm' rb' s' q' ∧ Turn [t, a, p, b, m, sm] w w' := by
  have HC := hide (tdead_any t p b m sm rb s q D S hd hq w hA hT)
  have HT := hide hT
  have HL := hide hL
  have HSh := hide hsh
  have hlle := left_le q s.n
  clear hA hT hL hsh
  go_enter Tryz.func72, Tryz.ntmps72
  go_wp2_with fail
  refine HC.out.mono ?_
  rintro e w1 ⟨rfl, ⟨r, hA1⟩, hT1⟩
  have HTr1 := hide (HT.out.turn hT1 (by simp; exact hO.p))
  have HLf := hide (tleft_any t p b m sm rb s { q with rd := r } D S hd hO.p (by omega) w1 hA1 HTr1.out)
  have HT1 := hide hT1
  have h8 := HTr1.out.now.c2
  rw [hch] at h8
  change Hid (Calls Tryz.prog 66 _ w1 fun e w' => e = .returned (.int .i64 ((q.left s.n : Nat) - (S.fresh : Nat) : Int)) ∧ PAt w' p b m sm rb s { q with rd := true } ∧ Turn [p] w1 w') at HLf
  have HLL : Hid (∃ lf, lf = q.left s.n) := ⟨_, rfl⟩
  obtain ⟨lf, hlf⟩ := HLL.out
  have HLfE := hide hlf
  rw [← hlf] at HLf hroom hlle
  clear hA1 hT1 hlf HLL
  go_wp2_with fail
  refine HLf.out.mono ?_
  rintro e w2 ⟨rfl, hA2, hT2⟩
  have HTr2 := hide (HTr1.out.turn hT2 (by simp; exact hO.p))
  have HA2 := hide hA2
  have HT2 := hide (HT1.out.trans hT2)
  have HL2 : Hid (LeafAt w2 a 0 d bb off cap l) := ⟨HL.out.place.turn HT2.out (by simp; omega), HL.out.d01, HL.out.kv.turn HT2.out (fun x _ hx => by obtain rfl := Option.some.inj hx; simp; omega), HL.out.cap⟩
  have h6 : w2.cell? ⟨t, 6, none⟩ = some (.pointer (some ⟨a, 0, none⟩)) := by have := HTr2.out.now.c0; rw [hr] at this; exact this
  have hnl : ¬ ((lf : Int) - (S.fresh : Int) < 0) := by omega
  have HW := hide (write_leaf t p b m sm rb s { q with rd := true } D S hd hq hu hk hleft (by show 0 < q.left s.n; rw [← HLfE.out]; omega) hO a d bb off cap l ha ⟨hbb.1, hbb.2.1, hbb.2.2.1, hbb.2.2.2.1, hbb.2.2.2.2.1⟩ hlen HSh.out hsz w2 HA2.out HTr2.out HL2.out)
  clear hA2 hT2 h8
  go_wp2_with fail
  refine HW.out.mono ?_
  rintro e w3 ⟨rfl, k, hNx, hL3, hTr3, hA3, hT3⟩
  have HNx := hide hNx
  have HL3 := hide hL3
  have HTr3 := hide hTr3
  have HA3 := hide hA3
  have HT3 := hide hT3
  have h10 := hTr3.now.c4
  rw [hdr] at h10
  have hkr := hNx.range
  clear hNx hL3 hTr3 hA3 hT3 h6
  go_wp2_with fail
  go_loop [5, 38] (fun _ i => i = .int .i64 0) (fun _ _ => 0)
  case atStart => rfl
  case round =>
    obtain rfl := hrel
    have hc0 := HTr3.out.c0
    have hc6 : w3.cell? ⟨t, 6, none⟩ = some (.pointer (some ⟨a, 0, none⟩)) := by have := HTr3.out.now.c0; rw [hr] at this; exact this
    have hc7 : w3.cell? ⟨t, 7, none⟩ = some (.int .i64 (S.keys : Nat)) := HTr3.out.now.c1
    have hc8 : w3.cell? ⟨t, 8, none⟩ = some (.bool true) := by have := HTr3.out.now.c2; rw [hch] at this; exact this
    have hc9 : w3.cell? ⟨t, 9, none⟩ = some (.int .i64 (S.fresh : Nat)) := HTr3.out.now.c3
    have hkN : k ≤ 4096 := by have := HA2.out.laid.n4096; omega
    have hpl3 := HA3.out.pg.lt
    have hs03 : w.heap.size ≤ w3.heap.size := Nat.le_trans HT2.out.size HT3.out.size
    have HBy : Hid (Calls Tryz.prog 104 #[.agg #[.pointer (some ⟨a, 0, none⟩), .int .i64 (S.keys : Nat), .bool true, .int .i64 (S.fresh : Nat), .slice none 0 0]] w3.drew fun e w' => ∃ a2 c2, e = .returned (.slice a2 9 c2) ∧ (a2 = none → c2 = 0) ∧ BytesAt w' a2 (rootBytes k 1 S.keys) ∧ (∀ x, a2 = some x → w3.heap.size ≤ x.block) ∧ Turn [] w3 w') := by
      refine (bytes_some a k 1 S.keys _ _ _ rfl rfl rfl (by omega) (by omega) (by omega) w3.drew HL3.out.place.c0 HL3.out.place.c1).mono ?_
      rintro e w4 ⟨v4, rfl, hO4, hT4⟩
      obtain ⟨a2, c2, rfl, hn, hB4, hx4⟩ := OwnB.bytes hO4
      exact ⟨a2, c2, rfl, hn, hB4, fun x hx => (hx4 x hx).1, ((Turn.refl [] w3).drew).then hT4 (by simp)⟩
    have HCm : Hid (∀ (w4 : World) (a2 : Option Addr) (c2 : Nat), Turn [] w3 w4 → (a2 = none → c2 = 0) → BytesAt w4 a2 (rootBytes k 1 S.keys) → (∀ x, a2 = some x → w3.heap.size ≤ x.block) → Calls Tryz.prog 103 #[.pointer (some ⟨p, 0, none⟩), .slice a2 9 c2] w4 fun e w5 => e = .returned (.int .i64 0) ∧ (∃ s' sm' rb', s'.dead = false ∧ s'.n = s.n ∧ s'.k = s.k + 3 ∧ s'.left < 0 ∧ w3.heap.size ≤ sm' ∧ w3.heap.size ≤ rb' ∧ rb' < w5.heap.size ∧ PAt w5 p b m sm' rb' s' ((({ q with rd := true } : Pg).alloced k).committed (rootBytes k 1 S.keys))) ∧ Turn [p, b, m] w4 w5) := fun w4 a2 c2 hT4 hn hB hx => by
      refine (commit_any p b m sm rb (s.did k (bytesOf 512 (pageB (leafPage l)))) (({ q with rd := true } : Pg).alloced k) hd hq (by show s.k + 1 < 999990; omega) a2 c2 (rootBytes k 1 S.keys) 9 rfl (by omega) ?_ hn w4 (HA3.out.turn0 hT4) hB (fun x _ hx' => by have := hx x hx'; omega) (by have := hT4.size; omega)).mono ?_
      · intro x hx
        unfold rootBytes at hx
        rcases List.mem_append.1 hx with h | h
        · rcases List.mem_append.1 h with h | h
          · exact be4_lt _ (by omega) x h
          · simp at h
            omega
        · exact be4_lt _ (by omega) x h
      · rintro e w5 hpost
        have hl' : (s.did k (bytesOf 512 (pageB (leafPage l)))).left < 0 := by
          show (if s.left < 0 then s.left else s.left - 1) < 0
          rw [if_pos hleft]
          exact hleft
        rcases hpost with ⟨rfl, _, _, ⟨s', sm', rb', h1, h2, h3, h4, _, h6, h7, h8, h9⟩, hT5⟩ | ⟨_, h, _⟩
        · have := hT4.size
          exact ⟨rfl, ⟨s', sm', rb', h1, h2, by rw [h3]; show s.k + 1 + 2 = _; omega, h4 hl', by omega, by omega, h8, h9⟩, hT5⟩
        · omega
    have HR := hide hr
    have HCh := hide hch
    have HDr := hide hdr
    clear HW HLf HC hr hch hdr
    go_wp2_with fail
    go_region_with (first
      | (go_at_call 104; refine HBy.out.mono ?_; rintro e w4 ⟨a2, c2, rfl, hn4, hB4, hx4, hT4⟩; have hc04 := (HTr3.out.turn hT4 (by simp)).c0; have HB4 := hide hB4; have HX4 := hide hx4; have HN4 := hide hn4; have HT4 := hide hT4; clear hB4 hx4 hn4 hT4)
      | (go_at_call 103; refine (HCm.out w4 a2 c2 HT4.out HN4.out HB4.out HX4.out).mono ?_; rintro e w5 ⟨rfl, hP5, hT5⟩; have HP5 := hide hP5; have HT5 := hide hT5; clear hP5 hT5))
    all_goals
      have hTr5 := (HTr3.out.turn HT4.out (by simp)).turn HT5.out (by simp; exact ⟨hO.p, hO.b, hO.m⟩)
      have hd6 : w5.cell? ⟨t, 6, none⟩ = some (.pointer (some ⟨a, 0, none⟩)) := by have := hTr5.now.c0; rw [HR.out] at this; exact this
      have hd7 : w5.cell? ⟨t, 7, none⟩ = some (.int .i64 (S.keys : Nat)) := hTr5.now.c1
      have hd8 : w5.cell? ⟨t, 8, none⟩ = some (.bool S.changed) := hTr5.now.c2
      have hd9 : w5.cell? ⟨t, 9, none⟩ = some (.int .i64 (S.fresh : Nat)) := hTr5.now.c3
      have hd10 : w5.cell? ⟨t, 10, none⟩ = some S.dropped := hTr5.now.c4
      have hd1 : w5.cell? ⟨t, 1, none⟩ = some (rootV D.root) := hTr5.done.c0
      have hd2 : w5.cell? ⟨t, 2, none⟩ = some (.int .i64 (D.keys : Nat)) := hTr5.done.c1
      have hd3 : w5.cell? ⟨t, 3, none⟩ = some (.bool D.changed) := hTr5.done.c2
      have hd4 : w5.cell? ⟨t, 4, none⟩ = some (.int .i64 (D.fresh : Nat)) := hTr5.done.c3
      have hd5 : w5.cell? ⟨t, 5, none⟩ = some D.dropped := hTr5.done.c4
      have hz67 := zero67
      have hff := hTr5.fz
      have HTr5 := hide hTr5
      clear hTr5 HBy HCm hc0 hc6 hc7 hc8 hc9
      have hf1 := hff 1
      have hf2 := hff 2
      have hf3 := hff 3
      have hf4 := hff 4
      have hf5 := hff 5
      have hf6 := hff 6
      have hf7 := hff 7
      have hf8 := hff 8
      have hf9 := hff 9
      have hf10 := hff 10
      clear hff
      go_wp2_with fail
      go_region
      all_goals
        go_wp2_with fail
        go_ret
        obtain ⟨s', sm', rb', h1, h2, h3, h4, h6, h7, h8, h9⟩ := HP5.out
        have hTs := settled_turn w5 t a S.keys
        have hTr := settled_tree HTr5.out a S.keys
        have ht3 : t < w3.heap.size := HTr3.out.lt
        have hsz5 : w3.heap.size ≤ w5.heap.size := Nat.le_trans HT4.out.size HT5.out.size
        have hT05 : Turn [t, a, p, b, m, sm] w w5 := (((HT2.out.mono (by simp)).trans (HT3.out.mono (by simp))).then HT4.out (by simp)).trans (HT5.out.mono (by simp))
        refine ⟨rfl, k, s', (({ q with rd := true } : Pg).alloced k).committed (rootBytes k 1 S.keys), sm', rb', by omega, h1, hq, h2, h4, h3, rfl, by omega, by omega, Nat.lt_of_lt_of_le h8 hTs.size, ?_, hTr, h9.turnX hTs (by simp; exact ⟨hO.one, hO.p, hO.b, hO.m, by omega, by omega⟩), hT05.trans (hTs.mono (by simp))⟩
        exact ⟨((HL3.out.place.turn HT4.out (by simp)).turn HT5.out (by simp; omega)).turn hTs (by simp; omega), .inr rfl, ((HL3.out.kv.turn0 HT4.out).turn HT5.out (fun x _ hx => by obtain rfl := Option.some.inj hx; simp; omega)).turn hTs (fun x _ hx => by obtain rfl := Option.some.inj hx; simp; omega), HL3.out.cap⟩
end Go.Proofs.YthgpjkcgccdldaaGreatDoor
