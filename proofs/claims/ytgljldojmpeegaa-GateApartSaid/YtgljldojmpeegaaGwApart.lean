/-
  GateApart, walked.
-/
import Derived.Test.YtgljldojmpeegaaGFrame
namespace Go.Proofs.Ytgljldojmpeegaa.Ga
open Go.RowKit Go.Maps

theorem bytes_ext {a b : ByteArray} (h : a.data.toList = b.data.toList) : a = b := by
  apply ByteArray.ext
  exact Array.toList_inj.1 h
theorem eq_str (a b : ByteArray) : (a.toList == b.toList) = decide (a = b) := by
  by_cases h : a = b
  · subst h
    simp
  · have : ¬ a.toList = b.toList := fun e => h (by
      apply bytes_ext
      simpa [ByteArray.toList_eq] using e)
    simp [this, h]

def other : ByteArray := ⟨#[111, 116, 104, 101, 114]⟩
def exB : ByteArray := ⟨#[120]⟩
theorem root_list : root.toList = [114, 111, 111, 116] := by simp [ByteArray.toList_eq, root]
theorem other_list : other.toList = [111, 116, 104, 101, 114] := by simp [ByteArray.toList_eq, other]
theorem nm_x : nm exB = true := by kernel_rfl

theorem StrsAt.cell {w : World} {b off : Nat} {l : List ByteArray} (h : StrsAt w (some ⟨b, off, none⟩) l) {i : Nat} (hi : i < l.length) : w.cell? ⟨b, off + i, none⟩ = some (.string (l.getD i empty)) := by
  obtain ⟨b', off', e, hc⟩ := h.at hi
  injection e with e
  injection e with e1 e2
  subst e1 e2
  exact hc

/-- Two gates that the call made, apart from one another. -/
structure Two (W : World) (a : Nat) (ma : Option Nat) (b : Nat) (mb : Option Nat) : Prop where
  fa : Fresh W a ma
  fb : Fresh W b mb
  ne : a ≠ b
  am : ∀ m, ma = some m → m ≠ b
  bm : ∀ m, mb = some m → m ≠ a
  mm : ∀ m, ma = some m → mb ≠ some m
theorem Two.flip {W : World} {a b : Nat} {ma mb : Option Nat} (h : Two W a ma b mb) : Two W b mb a ma := ⟨h.fb, h.fa, fun e => h.ne e.symm, h.bm, h.am, fun m h1 h2 => h.mm m h2 h1⟩
/-- Something was done to the first. -/
theorem Two.step {W w w' : World} {a b : Nat} {ma ma' mb : Option Nat} {s : Gt} (h : Two W a ma b mb) (hT : Turn [] W w) (hB : GateAt w b mb s) (hW : Went w ma ma') (k : Turn (a :: ma.toList) w w') : Two W a ma' b mb ∧ GateAt w' b mb s ∧ Turn [] W w' := by
  refine ⟨⟨h.fa.went hT hW, h.fb, h.ne, fun m hm => ?_, h.bm, fun m hm e => ?_⟩, hB.turn k ?_ ?_, h.fa.turn hT k⟩
  · rcases hW with e | ⟨_, m', e, hm'⟩
    · exact h.am m (e ▸ hm)
    · rw [hm] at e
      injection e with e
      have := hB.lt
      omega
  · subst e
    rcases hW with e | ⟨_, m', e, hm'⟩
    · exact h.mm m (e ▸ hm) rfl
    · rw [hm] at e
      injection e with e
      have := hB.ltm
      omega
  · rw [List.mem_cons, Option.mem_toList]
    rintro (e | e)
    · exact h.ne e.symm
    · exact h.am b e rfl
  · intro m hm
    rw [List.mem_cons, Option.mem_toList]
    rintro (e | e)
    · exact h.bm m hm e
    · exact h.mm m e hm
theorem Two.step1 {W w w' : World} {a b : Nat} {ma ma' mb : Option Nat} {s : Gt} (h : Two W a ma b mb) (hT : Turn [] W w) (hB : GateAt w b mb s) (hW : Went w ma ma') (k : Turn [a] w w') : Two W a ma' b mb ∧ GateAt w' b mb s ∧ Turn [] W w' := h.step hT hB hW (k.mono (by simp))

/-- What the first has come to. -/
structure OneA (s : Gt) (k : Nat) : Prop where
  n : s.n ≤ k
  asked : s.asked ≤ k
  refused : s.refused = 0
/-- What the other has come to. -/
structure OneB (s : Gt) (k : Nat) : Prop where
  asked : s.asked ≤ k
  refused : s.refused = s.asked
  own : s.own = (Gt.new other).own
theorem OneA.start : OneA (Gt.new root) 0 := ⟨Nat.le_refl _, Nat.le_refl _, rfl⟩
theorem OneB.start : OneB (Gt.new other) 0 := ⟨Nat.le_refl _, rfl, rfl⟩
theorem OneB.ask {s : Gt} {k : Nat} (h : OneB s k) {x : ByteArray} (hx : x ≠ other) : OneB (s.ask x) (k + 1) ∧ s.whoErr x = 21 ∧ s.whose x = (empty, false) := by
  have hn : s.own x = none := by rw [h.own]; exact new_none hx
  refine ⟨⟨?_, ?_, ?_⟩, ?_, ?_⟩
  · show s.asked + 1 ≤ k + 1
    have := h.asked
    omega
  · show (if (s.own x).isSome = true then s.refused else s.refused + 1) = s.asked + 1
    rw [hn, h.refused]; rfl
  · exact h.own
  · unfold Gt.whoErr; rw [hn]; rfl
  · unfold Gt.whose; rw [hn]; rfl
theorem OneA.go {s : Gt} {k : Nat} (h : OneA s k) {x y : ByteArray} (hx : nm x = true) (hy : nm y = true) : OneA ((s.addTo x y).ask x) (k + 1) ∧ (s.addErr x y = 0 ∨ s.addErr x y = 7) ∧ (s.addTo x y).whoErr x = 0 ∧ (s.addTo x y).asked ≤ k ∧ (s.addTo x y).refused = 0 := by
  have hno : ¬ (nm x = false ∨ nm y = false) := by rw [hx, hy]; simp
  have h1 := h.n
  have h2 := h.asked
  by_cases hs : (s.own x).isSome = true
  · have e1 : s.addTo x y = s := by unfold Gt.addTo; rw [if_neg hno, if_pos hs]
    have e2 : s.addErr x y = 7 := by unfold Gt.addErr; rw [if_neg hno, if_pos hs]
    rw [e1, e2]
    refine ⟨⟨?_, ?_, ?_⟩, .inr rfl, ?_, h.asked, h.refused⟩
    · show s.n ≤ k + 1
      omega
    · show s.asked + 1 ≤ k + 1
      omega
    · show (if (s.own x).isSome = true then s.refused else s.refused + 1) = 0
      rw [if_pos hs]; exact h.refused
    · unfold Gt.whoErr; rw [if_pos hs]
  · have e1 : s.addTo x y = s.add x y := by unfold Gt.addTo; rw [if_neg hno, if_neg hs]
    have e2 : s.addErr x y = 0 := by unfold Gt.addErr; rw [if_neg hno, if_neg hs]
    have hs' : ((s.add x y).own x).isSome = true := by
      show (if x = x then some (y, false) else s.own x).isSome = true
      rw [if_pos rfl]; rfl
    rw [e1, e2]
    refine ⟨⟨?_, ?_, ?_⟩, .inl rfl, ?_, h.asked, h.refused⟩
    · show s.n + 1 ≤ k + 1
      omega
    · show s.asked + 1 ≤ k + 1
      omega
    · show (if ((s.add x y).own x).isSome = true then s.refused else s.refused + 1) = 0
      rw [if_pos hs']; exact h.refused
    · unfold Gt.whoErr; rw [if_pos hs']
theorem OneA.mono {s : Gt} {k : Nat} (h : OneA s k) : OneA s (k + 1) := ⟨by have := h.n; omega, by have := h.asked; omega, h.refused⟩
theorem OneB.mono {s : Gt} {k : Nat} (h : OneB s k) : OneB s (k + 1) := ⟨by have := h.asked; omega, h.refused, h.own⟩

set_option maxRecDepth 100000 in
set_option maxHeartbeats 8000000 in
theorem apart_any (a : Option Addr) (c : Nat) (l : List ByteArray) (w : World) (_hlen : l.length ≤ 9223372036854775807) (hL : StrsAt w a l ∧ Sized l) : Calls Try.prog 4 #[.slice a l.length c] w fun e w' => e = .returned (.bool true) ∧ Turn [] w w' := by
  have hnot : ∀ (x : Bool) (w : World), (Op.unary .not (.bool x)).run Try.prog w = .ok (.bool (!x)) w := fun _ _ => rfl
  have HL := hide hL.1
  have HZ := hide hL.2
  clear hL
  go_enter Try.func4, Try.ntmps4
  go_wp2_with fail
  refine (known_any w).mono ?_
  rintro e w1 ⟨rfl, hT1⟩
  have HT1 := hide hT1
  clear hT1
  go_wp2_with fail
  refine (new_any root (by rw [size_root]; omega) w1).mono ?_
  rintro e w2 ⟨ga, rfl, hga, hG2, hT2⟩
  have HG2 := hide hG2
  have HT2 := hide (HT1.out.trans hT2)
  have HB2 : Hid (w.heap.size ≤ ga) := Nat.le_trans HT1.out.size hga
  clear hG2 hT2 HT1 hga
  go_wp2_with fail
  refine (new_any other (by show 5 ≤ 1000000; omega) w2).mono ?_
  rintro e w3 ⟨gb, rfl, hgb, hG3, hT3⟩
  have HB3 := hide hG3
  have HA3 := hide (HG2.out.turn0 hT3)
  have HT3 := hide (HT2.out.trans hT3)
  have HW3 : Hid (Two w ga none gb none) := ⟨⟨HB2.out, fun m h => by cases h⟩, ⟨Nat.le_trans HT2.out.size hgb, fun m h => by cases h⟩, fun e => by have := HG2.out.lt; omega, fun m h => (by cases h), fun m h => (by cases h), fun m h => (by cases h)⟩
  clear hG3 hT3 hgb HB2 HG2 HT2
  go_wp2_with fail
  go_loopw [5] (fun i wr => ∃ (k : Nat) (ma mb : Option Nat) (sa sb : Gt), k ≤ l.length ∧ k ≤ 30 ∧ i = .int .i64 (k : Int) ∧ Hid (OneA sa k) ∧ Hid (OneB sb k) ∧ Hid (GateAt wr ga ma sa) ∧ Hid (GateAt wr gb mb sb) ∧ Hid (Two w ga ma gb mb) ∧ Turn [] w wr) (fun i _ => 31 - (intOf i).toNat)
  case atStart => exact ⟨0, _, _, _, _, Nat.zero_le _, by omega, rfl, OneA.start, OneB.start, HA3, HB3, HW3, HT3.out⟩
  case round =>
    obtain ⟨k, ma, mb, sa, sb, hk, hk2, rfl, HOA, HOB, HA, HB, HW, hT⟩ := hrel
    have HT := hide hT
    clear hT HA3 HB3 HW3 HT3
    by_cases hlt : k < l.length ∧ k < 30
    · obtain ⟨hk1, hk3⟩ := hlt
      obtain ⟨b0, off, rfl, hc⟩ := (HL.out.turn0 HT.out).at hk1
      have hbw := lt_of_cell hc
      have hxs := HZ.out k hk1
      have HX : Hid (∃ x, x = l.getD k empty) := ⟨_, rfl⟩
      obtain ⟨x, hx⟩ := HX.out
      rw [← hx] at hc hxs
      have HX2 := hide hx
      clear hx HX
      go_wp2_with fail
      refine (rname_any x hxs _).mono ?_
      rintro e w4 ⟨rfl, rfl⟩
      have HE1 := hide (eq_str x root)
      have HE2 := hide (eq_str x other)
      rw [root_list] at HE1
      rw [other_list] at HE2
      by_cases hgo : nm x = true ∧ x ≠ root ∧ x ≠ other
      · obtain ⟨h1, h2, h3⟩ := hgo
        have H1 := hide h1
        have d2 : (x.toList == [114, 111, 111, 116]) = false := HE1.out.trans (decide_eq_false h2)
        have d3 : (x.toList == [111, 116, 104, 101, 114]) = false := HE2.out.trans (decide_eq_false h3)
        have HN := hide h3
        rw [h1]
        obtain ⟨k1, k2, k3, k4, k5⟩ := HOA.out.go h1 nm_x
        have HOA' := hide k1
        have HK2 := hide k2
        have HK3 := hide k3
        have hna := HOA.out.n
        have hab := HOB.out.asked
        have hrb := HOB.out.refused
        clear h1 h2 h3 HE1 HE2 k1 k2 k3 hrb
        go_wp2_with fail
        clear d2 d3
        refine (add_any (key := x) (name := exB) hxs (by show 1 ≤ 9223372036854775807; omega) (by omega) HA.out).mono ?_
        rintro e w5 ⟨ma5, rfl, hG5, hW5, hT5⟩
        obtain ⟨q1, q2, q3⟩ := HW.out.step HT.out HB.out hW5 hT5
        have HA5 := hide hG5
        have HW5 := hide q1
        have HB5 := hide q2
        have HT5 := hide q3
        have hc5 := (HL.out.turn0 HT5.out).cell hk1
        rw [← HX2.out] at hc5
        have hbw5 := lt_of_cell hc5
        clear hG5 hW5 hT5 q1 q2 q3 HA HW HB HT hc hbw
        generalize sa.addTo x exB = sa5 at *
        generalize sa.addErr x exB = ea at *
        go_wp2_with fail
        refine (who_any (key := x) hxs (by omega) (by rw [HOB.out.refused]; omega) HB5.out).mono ?_
        rintro e w6 ⟨mb6, rfl, hG6, hW6, hT6⟩
        obtain ⟨q1, q2, q3⟩ := HW5.out.flip.step1 HT5.out HA5.out hW6 hT6
        obtain ⟨p1, p2, p3⟩ := HOB.out.ask HN.out
        have HOB' := hide p1
        rw [p2, p3]
        have HB6 := hide hG6
        have HW6 := hide q1.flip
        have HA6 := hide q2
        have HT6 := hide q3
        have hc6 := (HL.out.turn0 HT6.out).cell hk1
        rw [← HX2.out] at hc6
        have hbw6 := lt_of_cell hc6
        clear hG6 hW6 hT6 q1 q2 q3 p1 p2 p3 HA5 HW5 HB5 HT5 hc5 hbw5 HOB
        generalize sb.ask x = sb6 at *
        go_wp2_with fail
        refine (who_any (key := x) hxs (by omega) (by rw [k5]; omega) HA6.out).mono ?_
        rintro e w7 ⟨ma7, rfl, hG7, hW7, hT7⟩
        obtain ⟨q1, q2, q3⟩ := HW6.out.step1 HT6.out HB6.out hW7 hT7
        rw [HK3.out]
        have HA7 := hide hG7
        have HW7 := hide q1
        have HB7 := hide q2
        have HT7 := hide q3
        clear hG7 hW7 hT7 q1 q2 q3 HA6 HW6 HB6 HT6 hc6 hbw6
        generalize sa5.ask x = sa7 at *
        generalize sa5.whose x = o7 at *
        clear k4 k5 HK3 HN HX2 HOA
        rcases HK2.out with rfl | rfl
        all_goals
          go_wp2_with fail
          go_roundw
          case rel => exact ⟨k + 1, ma7, mb6, sa7, sb6, by omega, by omega, by go_num, HOA', HOB', HA7, HB7, HW7, HT7.out⟩
          case measure => simp [intOf]; omega
      · have HREL : Hid (∃ (k' : Nat) (ma mb : Option Nat) (sa sb : Gt), k' = k + 1 ∧ Hid (OneA sa k') ∧ Hid (OneB sb k') ∧ Hid (GateAt w4 ga ma sa) ∧ Hid (GateAt w4 gb mb sb) ∧ Hid (Two w ga ma gb mb) ∧ Turn [] w w4) := ⟨k + 1, ma, mb, sa, sb, rfl, HOA.out.mono, HOB.out.mono, HA, HB, HW, HT.out⟩
        clear HOA HOB HA HB HW HT
        by_cases h1 : nm x = true
        · rw [h1]
          by_cases h2 : x = root
          · have d2 : (x.toList == [114, 111, 111, 116]) = true := HE1.out.trans (decide_eq_true h2)
            clear h1 h2 hgo HE1 HE2 HX2
            go_wp2_with fail
            go_roundw
            case rel =>
              obtain ⟨k', ma, mb, sa, sb, rfl, r⟩ := HREL.out
              exact ⟨k + 1, ma, mb, sa, sb, by omega, by omega, by go_num, r⟩
            case measure => simp [intOf]; omega
          · have d2 : (x.toList == [114, 111, 111, 116]) = false := HE1.out.trans (decide_eq_false h2)
            have h3 : x = other := Classical.byContradiction fun h => hgo ⟨h1, h2, h⟩
            have d3 : (x.toList == [111, 116, 104, 101, 114]) = true := HE2.out.trans (decide_eq_true h3)
            clear h1 h2 h3 hgo HE1 HE2 HX2
            go_wp2_with fail
            go_roundw
            case rel =>
              obtain ⟨k', ma, mb, sa, sb, rfl, r⟩ := HREL.out
              exact ⟨k + 1, ma, mb, sa, sb, by omega, by omega, by go_num, r⟩
            case measure => simp [intOf]; omega
        · rw [Bool.eq_false_iff.2 h1]
          clear h1 hgo HE1 HE2 HX2
          go_wp2_with fail
          go_roundw
          case rel =>
            obtain ⟨k', ma, mb, sa, sb, rfl, r⟩ := HREL.out
            exact ⟨k + 1, ma, mb, sa, sb, by omega, by omega, by go_num, r⟩
          case measure => simp [intOf]; omega
    · have hcs : (¬ k < l.length) ∨ (k < l.length ∧ ¬ k < 30) := by
        by_cases h : k < l.length
        · exact .inr ⟨h, fun h2 => hlt ⟨h, h2⟩⟩
        · exact .inl h
      clear hlt
      have HR1 := hide HOA.out.refused
      have HR2 := hide HOB.out.refused
      rcases hcs with h1 | ⟨h1, h2⟩
      all_goals
        go_wp2_with fail
        refine (refused_any HB.out).mono ?_
        rintro e w8 ⟨rfl, rfl⟩
        go_wp2_with fail
        refine (asked_any HB.out).mono ?_
        rintro e w9 ⟨rfl, rfl⟩
        rw [HR2.out]
        have hee : ((sb.asked : Int) == (sb.asked : Int)) = true := by simp
        go_wp2_with fail
        refine (refused_any HA.out).mono ?_
        rintro e w10 ⟨rfl, rfl⟩
        rw [HR1.out]
        go_wp2_with fail
        go_ret
        exact ⟨rfl, HT.out⟩

end Go.Proofs.Ytgljldojmpeegaa.Ga
