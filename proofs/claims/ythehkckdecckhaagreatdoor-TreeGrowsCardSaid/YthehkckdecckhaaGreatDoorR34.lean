/-
  placed: a branch gets its place, or both halves of it do.
-/
import Derived.Test.YthehkckdecckhaaGreatDoorR33

namespace Go.Proofs.YthehkckdecckhaaGreatDoor
open Go.RowKit Go.Maps

theorem KidsAt.part {w : World} {b off : Nat} {l : List (ByteArray × Nat)} (h : KidsAt w (some ⟨b, off, none⟩) l) (m : Nat) : KidsAt w (some ⟨b, off, none⟩) (l.take m) ∧ KidsAt w (some ⟨b, off + m * 2, none⟩) (l.drop m) := by
  have e1 : kidCells (l.take m) = (kidCells l).take m := List.map_take
  have e2 : kidCells (l.drop m) = (kidCells l).drop m := List.map_drop
  exact ⟨PairsAt.kids (by rw [e1]; exact h.pairs.take m), PairsAt.kids (by rw [e2]; exact h.pairs.drop m)⟩

set_option maxRecDepth 100000 in
set_option maxHeartbeats 3200000 in
/-- placed: of branches that fit. -/
theorem bplaced_one (t p : Nat) (D S : Stt) (bb off cap : Nat) (l : List (ByteArray × Nat)) (lvl : Nat) (low : ByteArray) (hfr : S.fresh ≤ 100000) (hlen : l.length ≤ 1000) (hb : ∀ x ∈ l, x.1.size ≤ 1000) (hsz : sumN (bsizes l) ≤ 495) (w : World) (hT : TreeAt w t p D S) (hK : KidsAt w (some ⟨bb, off, none⟩) l) :
    Calls Tryz.prog 86 #[.pointer (some ⟨t, 0, none⟩), .iface 120 (.slice (some ⟨bb, off, none⟩) l.length cap), .int .i64 (lvl : Nat), .string low] w fun e w' => ∃ a g, e = .returned (.slice (some ⟨g, 0, none⟩) 1 1) ∧ w.heap.size ≤ a ∧ w.heap.size ≤ g ∧ KidsAt w' (some ⟨g, 0, none⟩) [(low, a)] ∧ PlaceAt w' a 0 lvl 0 (.iface 120 (.slice (some ⟨bb, off, none⟩) l.length cap)) ∧ TreeAt w' t p D { S with fresh := S.fresh + 1 } ∧ Turn [t] w w' := by
  have HT := hide hT
  have HC := hide (bsizes_any (some ⟨bb, off, none⟩) cap l hlen hb w hK)
  have HLs := hide (bsizes_length l)
  clear hT hK hb
  go_enter Tryz.func86, Tryz.ntmps86
  go_wp2_with fail
  refine HC.out.mono ?_
  rintro e w1 ⟨rfl, hR1, hT1⟩
  have HT1 := hide hT1
  have HTr1 := hide (HT.out.turn hT1 (by simp))
  have h1s := hT1.size
  have HTot := hide (total_any w.heap.size l.length (bsizes l) (by rw [HLs.out]; exact hlen) (by omega) w1 hR1)
  rw [HLs.out] at HTot
  clear hR1 hT1
  generalize sumN (bsizes l) = z at *
  go_wp2_with fail
  refine HTot.out.mono ?_
  rintro e w2 ⟨rfl, rfl⟩
  go_wp2_with fail
  refine (place_any t p D S 120 _ lvl (by omega) w2 HTr1.out).mono ?_
  rintro e w3 ⟨a, rfl, ha, hP3, hTr3, hT3⟩
  have HP3 := hide hP3
  have HTr3 := hide hTr3
  have HT3 := hide hT3
  have h3s := hT3.size
  clear hP3 hTr3 hT3
  go_wp2_with fail
  go_ret
  have hTa : Turn [] w3 (w3.alloc (.cells #[.string low, .pointer (some ⟨a, 0, none⟩)] 122)) := (Turn.refl [] w3).alloc _
  refine ⟨a, w3.heap.size, rfl, by omega, by omega, .inr ⟨_, 0, rfl, fun i hi => ?_⟩, HP3.out.turn hTa (by simp), HTr3.out.turn hTa (by simp), ((HT1.out.mono (by simp)).then HT3.out (by simp)).alloc _⟩
  obtain rfl : i = 0 := by simpa using hi
  exact ⟨World.cell?_alloc_at _ _ _ _ rfl, World.cell?_alloc_at _ _ _ _ rfl⟩

set_option maxRecDepth 100000 in
set_option maxHeartbeats 3200000 in
/-- placed: of branches that are too long. -/
theorem bplaced_two (t p : Nat) (D S : Stt) (bb off cap m : Nat) (l : List (ByteArray × Nat)) (lvl : Nat) (low : ByteArray) (hfr : S.fresh ≤ 100000) (hlen : l.length ≤ 1000) (hcap : l.length ≤ cap ∧ cap ≤ 9223372036854775807) (hb : ∀ x ∈ l, x.1.size ≤ 1000) (hsz : 495 < sumN (bsizes l) ∧ sumN (bsizes l) ≤ 1000000) (hm : m = middleN (bsizes l)) (hml : m < l.length) (hbt : bb ≠ t) (w : World) (hT : TreeAt w t p D S) (hK : KidsAt w (some ⟨bb, off, none⟩) l) :
    Calls Tryz.prog 86 #[.pointer (some ⟨t, 0, none⟩), .iface 120 (.slice (some ⟨bb, off, none⟩) l.length cap), .int .i64 (lvl : Nat), .string low] w fun e w' => ∃ a a' g, e = .returned (.slice (some ⟨g, 0, none⟩) 2 2) ∧ w.heap.size ≤ a ∧ w.heap.size ≤ a' ∧ a ≠ a' ∧ w.heap.size ≤ g ∧ KidsAt w' (some ⟨g, 0, none⟩) [(low, a), (l[m].1, a')]
      ∧ PlaceAt w' a 0 lvl 0 (.iface 120 (.slice (some ⟨bb, off, none⟩) m cap)) ∧ PlaceAt w' a' 0 lvl 0 (.iface 120 (.slice (some ⟨bb, off + m * 2, none⟩) (l.length - m) (cap - m))) ∧ TreeAt w' t p D { S with fresh := S.fresh + 2 } ∧ Turn [t] w w' := by
  have HT := hide hT
  have HK := hide hK
  have HC := hide (bsizes_any (some ⟨bb, off, none⟩) cap l hlen hb w hK)
  have HLs := hide (bsizes_length l)
  have HM := hide hm
  have htl := hT.lt
  clear hT hK hb hm
  go_enter Tryz.func86, Tryz.ntmps86
  go_wp2_with fail
  refine HC.out.mono ?_
  rintro e w1 ⟨rfl, hR1, hT1⟩
  have HT1 := hide hT1
  have HTr1 := hide (HT.out.turn hT1 (by simp))
  have h1s := hT1.size
  have HTot := hide (total_any w.heap.size l.length (bsizes l) (by rw [HLs.out]; exact hlen) (by omega) w1 hR1)
  have HR1 := hide hR1
  have HMid : Hid (∀ w', Turn [] w1 w' → Calls Tryz.prog 119 #[.slice (some ⟨w.heap.size, 0, none⟩) l.length l.length] w' fun e w'' => e = .returned (.int .i64 (m : Nat)) ∧ w'' = w') := fun w' hw' => by
    have := middle_any w.heap.size l.length (bsizes l) (by rw [HLs.out]; exact hlen) (by omega) w' (HR1.out.turn0 hw')
    rw [HLs.out, ← HM.out] at this
    exact this
  rw [HLs.out] at HTot
  clear hR1 hT1 HC
  generalize hzz : sumN (bsizes l) = z at *
  clear hzz
  have hnz : ¬ ((z : Int) ≤ 495) := by omega
  go_wp2_with fail
  refine HTot.out.mono ?_
  rintro e w2 ⟨rfl, rfl⟩
  go_wp2_with fail
  have HCut : Hid (∀ w', Calls Tryz.prog 191 #[.slice (some ⟨bb, off, none⟩) l.length cap, .int .i64 (m : Nat)] w' fun e w'' => e = .returned (.tuple #[.iface 120 (.slice (some ⟨bb, off, none⟩) m cap), .iface 120 (.slice (some ⟨bb, off + m * 2, none⟩) (l.length - m) (cap - m))]) ∧ Turn [] w' w'') := fun w' => bcut_any bb off l.length cap m hml hcap w'
  have hnil := nil_b
  have hmeth := meth_b
  go_region_with (first
    | (go_at_call 119; refine (HMid.out _ (by first | exact Turn.refl _ _ | exact (Turn.refl [] _).drew)).mono ?_; rintro e w9 ⟨rfl, rfl⟩)
    | (go_at_call 191; refine (HCut.out _).mono ?_; rintro e w3 ⟨rfl, hT3⟩; have HT3 := hide hT3; clear hT3))
  all_goals
    have hT13 : Turn [] w w3 := HT1.out.drew.then HT3.out (by simp)
    have HT13 := hide hT13
    have h13s := hT13.size
    have HTr3 := hide (HT.out.turn hT13 (by simp))
    have HK3 := hide (HK.out.turn0 hT13)
    clear hT13 HMid HCut
    go_wp2_with fail
    refine (place_any t p D S 120 _ lvl (by omega) w3 HTr3.out).mono ?_
    rintro e w4 ⟨a, rfl, ha, hP4, hTr4, hT4⟩
    have HP4 := hide hP4
    have HTr4 := hide hTr4
    have HT4 := hide hT4
    have h4s := hT4.size
    have hal := hP4.lt
    have HLow : Hid (Calls Tryz.prog 193 #[.slice (some ⟨bb, off + m * 2, none⟩) (l.length - m) (cap - m)] w4 fun e w' => e = .returned (.string l[m].1) ∧ w' = w4) := by
      have hd : (l.drop m).length = l.length - m := List.length_drop
      have := blow_any (some ⟨bb, off + m * 2, none⟩) (cap - m) (l.drop m) (by omega) (by omega) w4 ((HK3.out.part m).2.turn HT4.out fun x _ hx => by
        obtain rfl := Option.some.inj hx
        simp
        exact hbt)
      have he : ((l.drop m)[0]'(by omega)).1 = l[m].1 := by simp
      rw [he, hd] at this
      exact this
    clear hP4 hTr4 hT4
    go_wp2_with fail
    refine HLow.out.mono ?_
    rintro e w5 ⟨rfl, rfl⟩
    clear HLow
    go_wp2_with fail
    refine (place_any t p D { S with fresh := S.fresh + 1 } 120 _ lvl (by show S.fresh + 1 ≤ _; omega) w5 HTr4.out).mono ?_
    rintro e w6 ⟨a', rfl, ha', hP6, hTr6, hT6⟩
    have HP6 := hide hP6
    have HTr6 := hide hTr6
    have HT6 := hide hT6
    have h6s := hT6.size
    clear hP6 hTr6 hT6
    go_wp2_with fail
    go_ret
    have hTa : Turn [] w6 (w6.alloc (.cells #[.string low, .pointer (some ⟨a, 0, none⟩), .string l[m].1, .pointer (some ⟨a', 0, none⟩)] 122)) := (Turn.refl [] w6).alloc _
    refine ⟨a, a', w6.heap.size, rfl, by omega, by omega, by omega, by omega, .inr ⟨_, 0, rfl, fun i hi => ?_⟩, (HP4.out.turn HT6.out (by simp; omega)).turn hTa (by simp), HP6.out.turn hTa (by simp), HTr6.out.turn hTa (by simp), (((HT13.out.mono (by simp)).then HT4.out (by simp)).then HT6.out (by simp)).alloc _⟩
    match i, hi with
    | 0, _ => exact ⟨World.cell?_alloc_at _ _ _ _ rfl, World.cell?_alloc_at _ _ _ _ rfl⟩
    | 1, _ => exact ⟨World.cell?_alloc_at _ _ _ _ rfl, World.cell?_alloc_at _ _ _ _ rfl⟩
end Go.Proofs.YthehkckdecckhaaGreatDoor
