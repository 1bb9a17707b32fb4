/-
  write of a fresh leaf.
-/
import Derived.Test.YthehkckdecckhaaGreatDoorU34

namespace Go.Proofs.YthehkckdecckhaaGreatDoor
open Go.RowKit Go.Maps

theorem OwnB.bytes {w : World} {base : Nat} {v : Value} {l : List Nat} (h : OwnB w base v l) : ∃ a cap, v = .slice a l.length cap ∧ (a = none → cap = 0) ∧ BytesAt w a l ∧ ∀ x, a = some x → base ≤ x.block ∧ x.block < w.heap.size := by
  have hlt := World.ownsRow.lt h
  by_cases h0 : 0 < l.length
  · obtain ⟨g, cap, rfl, _, hb, hl, hB, _⟩ := own_bytes h h0
    exact ⟨_, cap, rfl, by simp, hB, fun x hx => by obtain rfl := Option.some.inj hx; exact ⟨hb, hl⟩⟩
  · have hl : l = [] := List.eq_nil_of_length_eq_zero (by omega)
    subst hl
    obtain ⟨a, c, rfl⟩ := own_form h
    obtain ⟨_, ⟨e, _⟩ | ⟨g, cap', cur, e, hb, _⟩⟩ := h
    · injection e with e1 e2 e3
      subst e1 e3
      exact ⟨none, 0, rfl, fun _ => rfl, .inl rfl, by simp⟩
    · injection e with e1 e2 e3
      subst e1 e3
      exact ⟨_, c, rfl, by simp, .inl rfl, fun x hx => by obtain rfl := Option.some.inj hx; exact hlt g rfl⟩

theorem Pg.left_zero (q : Pg) (N : Nat) : q.left N = 0 ↔ ∀ k, k < 16384 → q.tk N k = true := fc_zero _ _

/-- The bytes of a leaf's page. -/
def leafPage (l : List (ByteArray × ByteArray)) : List Nat := [1] ++ lbytes l
theorem leafPage_length (l : List (ByteArray × ByteArray)) : (leafPage l).length = 1 + lsize l := by
  unfold leafPage
  rw [List.length_append, lbytes_length]
  rfl
theorem leafPage_lt {l : List (ByteArray × ByteArray)} (h : Short l) : ∀ x ∈ leafPage l, x < 256 := by
  intro x hx
  rcases List.mem_append.1 hx with h1 | h1
  · simp at h1
    omega
  · exact lbytes_lt h x h1

theorem PlaceAt.setPage {w : World} {a pg lvl : Nat} {d : Int} {v : Value} (h : PlaceAt w a pg lvl d v) (n : Nat) : PlaceAt (w.setCell ⟨a, 0, none⟩ (.int .i64 (n : Nat))) a n lvl d v := by
  obtain ⟨ho, hf⟩ := h.set 0 (.int .i64 (n : Nat))
  exact ⟨World.cell?_setCell_same _ _ _ h.c0, (ho 1 (by omega)).trans h.c1, (ho 2 (by omega)).trans h.c2, (ho 3 (by omega)).trans h.c3, (ho 5 (by omega)).trans h.c5, hf⟩

set_option maxRecDepth 100000 in
set_option maxHeartbeats 3200000 in
theorem write_leaf (t p b m sm rb : Nat) (s : St) (q : Pg) (D S : Stt) (hd : s.dead = false) (hq : q.dead = false) (hu : q.u < 1000000) (hk : s.k < 999000) (hleft : s.left < 0) (hroom : 0 < q.left s.n) (hO : Off t p b m sm rb) (a : Nat) (d : Int) (bb off cap : Nat) (l : List (ByteArray × ByteArray)) (ha : a ≠ 1 ∧ a ≠ p ∧ a ≠ b ∧ a ≠ m ∧ a ≠ sm ∧ a ≠ rb ∧ a ≠ t) (hbb : bb ≠ a ∧ bb ≠ p ∧ bb ≠ b ∧ bb ≠ m ∧ bb ≠ sm) (hlen : l.length ≤ 1000) (hsh : Short l) (hsz : lsize l ≤ 495)
    (w : World) (hA : PAt w p b m sm rb s q) (hT : TreeAt w t p D S) (hL : LeafAt w a 0 d bb off cap l) :
    Calls Tryz.prog 46 #[.pointer (some ⟨t, 0, none⟩), .pointer (some ⟨a, 0, none⟩)] w fun e w' => e = .returned (.int .i64 0) ∧ ∃ k, q.Next s.n k ∧ LeafAt w' a k 1 bb off cap l ∧ TreeAt w' t p D S ∧ PAt w' p b m sm rb (s.did k (bytesOf 512 (pageB (leafPage l)))) (q.alloced k) ∧ Turn [a, p, b, m, sm] w w' := by
  have hta := ta_lb
  have HL := hide hL
  have h0 := hL.place.c0
  have HA := hide hA
  have HT := hide hT
  have HSh := hide hsh
  clear hL hA hT hsh
  go_enter Tryz.func46, Tryz.ntmps46
  go_wp2_with fail
  refine (nodeAt_some t a 0 1 d HL.out.d01 73 _ w HL.out.place).mono ?_
  rintro e w1 ⟨rfl, hP1, hT1⟩
  have HA1 := hide (HA.out.turnX hT1 (by simp; exact ⟨ha.1, ha.2.1, ha.2.2.1, ha.2.2.2.1, ha.2.2.2.2.1, ha.2.2.2.2.2.1⟩))
  have HTr1 := hide (HT.out.turn hT1 (by simp; exact ha.2.2.2.2.2.2.symm))
  have HK1 := hide (HL.out.kv.turn hT1 (fun x _ hx => by obtain rfl := Option.some.inj hx; simp; exact hbb.1))
  have hp0 := HTr1.out.c0
  have h11 := hP1.c1
  have HP1 := hide hP1
  have HT1 := hide hT1
  have hpl := HA1.out.pg.lt
  obtain ⟨n2, hn2⟩ : ∃ n2, (leafPage l).length = n2 := ⟨_, rfl⟩
  have hn2b : n2 ≤ 496 := by rw [← hn2, leafPage_length]; omega
  have HN2 := hide hn2
  have HCe : Hid (Calls Tryz.prog 68 #[.iface 73 (.slice (some ⟨bb, off, none⟩) l.length cap), .int .i64 1] w1.drew fun e w' => ∃ a2 c2, e = .returned (.slice a2 n2 c2) ∧ BytesAt w' a2 (leafPage l) ∧ (∀ x, a2 = some x → w1.heap.size ≤ x.block) ∧ Turn [] w1 w') := by
    refine (encode_leaf bb off cap l 1 (by omega) hlen HSh.out (by omega) w1.drew (HK1.out.turn0 (Turn.refl [] w1).drew)).mono ?_
    rintro e w2 ⟨v2, rfl, hO2, hT2⟩
    obtain ⟨a2, c2, rfl, _, hB2, hx2⟩ := OwnB.bytes hO2
    exact ⟨a2, c2, by rw [← hn2]; rfl, hB2, fun x hx => (hx2 x hx).1, ((Turn.refl [] w1).drew).then hT2 (by simp)⟩
  have HAl : Hid (∀ (w2 : World) (a2 : Option Addr) (c2 : Nat), Turn [] w1 w2 → BytesAt w2 a2 (leafPage l) → (∀ x, a2 = some x → w1.heap.size ≤ x.block) → Calls Tryz.prog 67 #[.pointer (some ⟨p, 0, none⟩), .slice a2 n2 c2] w2 fun e w3 => ∃ k : Nat, e = .returned (.tuple #[.int .i64 (k : Nat), .int .i64 0]) ∧ q.Next s.n k ∧ PAt w3 p b m sm rb (s.did k (bytesOf 512 (pageB (leafPage l)))) (q.alloced k) ∧ Turn [p, b, m, sm] w2 w3) := fun w2 a2 c2 hT2 hB2 hx2 => by
    refine (alloc_any p b m sm rb s q hd hq (by omega) (by omega) a2 c2 (leafPage l) n2 HN2.out hn2b (leafPage_lt HSh.out) w2 hB2 (fun x _ hx => by have := hx2 x hx; omega) (HA1.out.turn0 hT2)).mono ?_
    rintro e w3 hpost
    rcases hpost with ⟨_, hfull, _⟩ | ⟨k, rfl, hNx, _, hA3, hT3⟩ | ⟨_, _, _, h, _⟩
    · exact absurd ((Pg.left_zero q s.n).2 hfull) (by omega)
    · exact ⟨k, rfl, hNx, hA3, hT3⟩
    · omega
  clear hP1 hT1 hn2
  go_wp2_with fail
  go_region_with (first
    | (go_at_call 68; refine HCe.out.mono ?_; rintro e w2 ⟨a2, c2, rfl, hB2, hx2, hT2⟩; have hp2 := (HTr1.out.turn hT2 (by simp)).c0; have HB2 := hide hB2; have HX2 := hide hx2; have HT2 := hide hT2; clear hT2 hB2 hx2)
    | (go_at_call 67; refine (HAl.out w2 a2 c2 HT2.out HB2.out HX2.out).mono ?_; rintro e w3 ⟨k, rfl, hNx, hA3, hT3⟩; have HNx := hide hNx; have HA3 := hide hA3; have HT3 := hide hT3; clear hNx hA3 hT3))
  all_goals
    have hP3 := (HP1.out.turn HT2.out (by simp)).turn HT3.out (by simp; omega)
    have h03 := hP3.c0
    have f03 := hP3.fz 0
    have HP3 := hide hP3
    clear hP3
    go_wp2_with fail
    go_ret
    have hTs : Turn [a] w3 (w3.setCell ⟨a, 0, none⟩ (.int .i64 (k : Nat))) := (Turn.refl [a] w3).setCell (List.mem_singleton.2 rfl) 0 _
    have hT03 : Turn [a, p, b, m, sm] w w3 := ((HT1.out.mono (by simp)).then HT2.out (by simp)).trans (HT3.out.mono (by simp))
    refine ⟨rfl, k, HNx.out, ⟨HP3.out.setPage k, .inr rfl, ((HK1.out.turn0 HT2.out).turn HT3.out (fun x _ hx => by obtain rfl := Option.some.inj hx; simp; omega)).turn hTs (fun x _ hx => by obtain rfl := Option.some.inj hx; simp; omega), HL.out.cap⟩, ((HTr1.out.turn HT2.out (by simp)).turn HT3.out (by simp; exact ⟨hO.p, hO.b, hO.m, hO.sm⟩)).turn hTs (by simp; omega), HA3.out.turnX hTs (by simp; omega), hT03.trans (hTs.mono (by simp))⟩
end Go.Proofs.YthehkckdecckhaaGreatDoor
