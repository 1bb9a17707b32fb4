/-
  The reference's Read and Write, walked.
-/
import Derived.Test.YtihilllhdiodgaaRef
namespace Go.Proofs.Ytihilllhdiodgaa
open Go.RowKit Go.Maps

theorem out_cases (s : St) (i : Int) : (s.out i = true ∧ i < 0) ∨ (s.out i = true ∧ 0 ≤ i ∧ (s.n : Int) ≤ i) ∨ (s.out i = false ∧ ∃ j : Nat, i = (j : Int) ∧ j < s.n) := by
  unfold St.out
  by_cases h0 : i < 0
  · exact .inl ⟨by simp [h0], h0⟩
  · by_cases h1 : (s.n : Int) ≤ i
    · exact .inr (.inl ⟨by simp [h1], by omega, h1⟩)
    · obtain ⟨j, rfl⟩ := Int.eq_ofNat_of_zero_le (show 0 ≤ i by omega)
      exact .inr (.inr ⟨by simp; omega, j, rfl, by omega⟩)

/-- What a Read leaves. -/
def Told (s : St) (i : Int) (w : World) (e : Ending) (w' : World) : Prop :=
  ∃ a n cap, e = .returned (.tuple #[.slice a n cap, .int .i64 (s.readErr i)]) ∧ (s.readRow i).length = n ∧ BytesAt w' a (s.readRow i) ∧ Turn [] w w'

set_option maxRecDepth 100000 in
set_option maxHeartbeats 800000 in
theorem refRead_any (rb rs : Nat) (G : Nat → Prop) (s : St) (i : Int) (w : World) (hR : RefAt w rb rs G s) : Calls Try.prog 10 #[.pointer (some ⟨rb, 0, none⟩), .int .i64 i] w fun e w' => Told s i w e w' := by
  have h4 := hR.c4
  have h0 := hR.c0
  have h1 := hR.c1
  have HR := hide hR
  clear hR
  cases hd : s.dead with
  | true =>
    rw [hd] at h4
    have HE : Hid (s.readErr i = 12 ∧ s.readRow i = []) := by show s.readErr i = 12 ∧ s.readRow i = []; simp [St.readErr, St.readRow, hd]
    clear hd
    go_enter Try.func10, Try.ntmps10
    go_wp2
    go_ret2
    refine (show Told _ _ _ _ _ from ⟨none, 0, 0, by rw [HE.out.1]; rfl, by rw [HE.out.2]; rfl, by rw [HE.out.2]; exact .inl rfl, Turn.refl _ _⟩)
  | false =>
    rw [hd] at h4
    rcases out_cases s i with ⟨ho, hi⟩ | ⟨ho, hi, hi2⟩ | ⟨ho, j, rfl, hj⟩
    · have HE : Hid (s.readErr i = 1 ∧ s.readRow i = []) := by show s.readErr i = 1 ∧ s.readRow i = []; simp [St.readErr, St.readRow, hd, ho]
      have t1 : decide (i < 0) = true := by simpa using hi
      clear hd ho
      go_enter Try.func10, Try.ntmps10
      go_wp2
      go_ret2
      refine (show Told _ _ _ _ _ from ⟨none, 0, 0, by rw [HE.out.1]; rfl, by rw [HE.out.2]; rfl, by rw [HE.out.2]; exact .inl rfl, Turn.refl _ _⟩)
    · have HE : Hid (s.readErr i = 1 ∧ s.readRow i = []) := by show s.readErr i = 1 ∧ s.readRow i = []; simp [St.readErr, St.readRow, hd, ho]
      have t1 : decide (i < 0) = false := by simp; omega
      have t2 : decide ((s.n : Int) ≤ i) = true := by simpa using hi2
      clear hd ho
      go_enter Try.func10, Try.ntmps10
      go_wp2
      go_ret2
      refine (show Told _ _ _ _ _ from ⟨none, 0, 0, by rw [HE.out.1]; rfl, by rw [HE.out.2]; rfl, by rw [HE.out.2]; exact .inl rfl, Turn.refl _ _⟩)
    · have HE : Hid (s.readErr j = 0 ∧ s.readRow j = s.f j) := by show s.readErr j = 0 ∧ s.readRow j = s.f j; simp [St.readErr, St.readRow, hd, ho]
      have t1 : decide ((j : Int) < 0) = false := by simp
      have t2 : decide ((s.n : Int) ≤ (j : Int)) = false := by simp; omega
      obtain ⟨v, hv, hrow⟩ := HR.out.rows j hj
      have hmk := make_512
      clear hd ho
      rcases hrow with ⟨a, cap, rfl, hz⟩ | ⟨g, cap, rfl, hlen, _, _, _, hB⟩
      · have HZ := hide hz
        clear hz
        go_enter Try.func10, Try.ntmps10
        go_wp2
        go_ret2
        unfold Told
        refine ⟨_, _, _, by rw [HE.out.1]; rfl, by rw [HE.out.2, HZ.out]; exact zeros_length, ?_, (Turn.refl _ _).alloc _⟩
        rw [HE.out.2, HZ.out]
        exact new_zeros w
      · have HL := hide hlen
        have hown : (w.alloc (.cells #[] 5)).ownsRow w.heap.size 5 1 (.slice (some ⟨w.heap.size, 0, none⟩) 0 0) 0 (([] : List Nat).map byteCell) := World.ownsRow_made w #[] 0 (Nat.le_refl _) (Nat.zero_le _) rfl
        have hbA : BytesAt (w.alloc (.cells #[] 5)) (some ⟨g, 0, none⟩) (s.f j) := hB.turn ((Turn.refl [] _).alloc _) (by simp)
        have HOWN := hide hown
        have HBA := hide hbA
        have hgl := hB.lt ⟨g, 0, none⟩ (by intro e; rw [e] at hlen; simp at hlen) rfl
        have hsl := HR.out.lts
        have hbl := HR.out.lt
        clear hown hbA hB hlen
        go_enter Try.func10, Try.ntmps10
        go_wp2_with (at_builtin; refine append_bytes rfl _ _ rfl w.heap.size (.slice (some ⟨w.heap.size, 0, none⟩) 0 0) 0 [] rfl HOWN.out (some ⟨g, 0, none⟩) 512 cap (s.f j) rfl HL.out (by simp) HBA.out (by omega) (by simp) ?_; intro v w3 hown3 hgrow3 hnil3)
        obtain ⟨gg, cg, hv3, _, hg, hgl, hbg, _⟩ := own_bytes (l := s.f j) (by simpa using hown3) (by omega)
        have hT3 : Turn [] w w3 := ((Turn.refl [] w).alloc _).grown hgrow3 (by intro k hk; right; simp [Value.ownBlock] at hk; omega)
        have HB3 := hide hbg
        rw [hv3]
        clear hv3 hown3 hgrow3 hbg HOWN HBA
        go_wp2_with fail
        go_ret2
        unfold Told
        refine ⟨some ⟨gg, 0, none⟩, (s.f j).length, cg, ?_, ?_, ?_, hT3⟩
        · rw [HE.out.1]; rfl
        · rw [HE.out.2]
        · rw [HE.out.2]; exact HB3.out

/-- The row that an append to nothing has made. -/
theorem grew {w w2 : World} {o : Obj} {v : Value} {l : List Nat} (hl : l.length = 512) (h : w2.ownsRow ((w.alloc o).drew).heap.size 5 1 v (0 + 512) ([] ++ l.map byteCell)) : ∃ g cg, v = .slice (some ⟨g, 0, none⟩) 512 cg ∧ w.heap.size ≤ g ∧ g < w2.heap.size ∧ BytesAt w2 (some ⟨g, 0, none⟩) l := by
  have hs : ((w.alloc o).drew).heap.size = w.heap.size + 1 := by show (w.alloc o).heap.size = _; simp
  obtain ⟨g, cg, h1, _, h2, h3, h4, _⟩ := own_bytes (l := l) (by simpa using h) (by omega)
  rw [hl] at h1
  exact ⟨g, cg, h1, by omega, h3, h4⟩

theorem grew_turn {w w2 : World} {o : Obj} (h : ((w.alloc o).drew).grownBy w2 none) : Turn [] w w2 := by
  have hs : ((w.alloc o).drew).heap.size = w.heap.size + 1 := by show (w.alloc o).heap.size = _; simp
  exact ⟨h.os, h.tape, h.output, by have := h.size; omega, fun k hk _ => (h.block k (by omega) (by simp)).trans (Below.heap_alloc w o k hk)⟩

set_option maxRecDepth 100000 in
set_option maxHeartbeats 1600000 in
theorem refWrite_any (rb rs : Nat) (G : Nat → Prop) (s : St) (hG : s.Good) (i : Int) (a : Option Addr) (cap : Nat) (l : List Nat) (w : World) (hR : RefAt w rb rs G s) (hb : BytesAt w a l) (hab : ∀ x, l ≠ [] → a = some x → x.block ≠ rb) (hN : ∀ g, w.heap.size ≤ g → G g) :
    Calls Try.prog 13 #[.pointer (some ⟨rb, 0, none⟩), .int .i64 i, .slice a l.length cap] w fun e w' =>
      e = .returned (.int .i64 (s.writeErr i l.length)) ∧ RefAt w' rb rs G (s.write i l) ∧ Turn [rb, rs] w w' := by
  have h4 := hR.c4
  have h0 := hR.c0
  have h1 := hR.c1
  have h3 := hR.c3
  have f3 := hR.fb 3
  have f4 := hR.fb 4
  have HR := hide hR
  have HB := hide hb
  have HAB := hide hab
  clear hR hb hab
  cases hd : s.dead with
  | true =>
    rw [hd] at h4
    have HE : Hid (s.writeErr i l.length = 12 ∧ s.write i l = s) := by show s.writeErr i l.length = 12 ∧ s.write i l = s; simp [St.writeErr, St.write, hd]
    clear hd
    go_enter Try.func13, Try.ntmps13
    go_wp2
    go_ret
    exact ⟨by rw [HE.out.1]; rfl, by rw [HE.out.2]; exact HR.out, Turn.refl _ _⟩
  | false =>
    rw [hd] at h4
    rcases out_cases s i with ⟨ho, hi⟩ | ⟨ho, hi, hi2⟩ | ⟨ho, j, rfl, hj⟩
    · have HE : Hid (s.writeErr i l.length = 1 ∧ s.write i l = s) := by show s.writeErr i l.length = 1 ∧ s.write i l = s; simp [St.writeErr, St.write, hd, ho]
      have t1 : decide (i < 0) = true := by simpa using hi
      clear hd ho
      go_enter Try.func13, Try.ntmps13
      go_wp2
      go_ret
      exact ⟨by rw [HE.out.1]; rfl, by rw [HE.out.2]; exact HR.out, Turn.refl _ _⟩
    · have HE : Hid (s.writeErr i l.length = 1 ∧ s.write i l = s) := by show s.writeErr i l.length = 1 ∧ s.write i l = s; simp [St.writeErr, St.write, hd, ho]
      have t1 : decide (i < 0) = false := by simp; omega
      have t2 : decide ((s.n : Int) ≤ i) = true := by simpa using hi2
      clear hd ho
      go_enter Try.func13, Try.ntmps13
      go_wp2
      go_ret
      exact ⟨by rw [HE.out.1]; rfl, by rw [HE.out.2]; exact HR.out, Turn.refl _ _⟩
    · have t1 : decide ((j : Int) < 0) = false := by simp
      have t2 : decide ((s.n : Int) ≤ (j : Int)) = false := by simp; omega
      by_cases hlen : l.length = 512
      · have HL := hide hlen
        rw [hlen]
        by_cases h00 : s.left = 0
        · have HE : Hid (s.writeErr j 512 = 12 ∧ s.write j l = { s with dead := true }) := by
            show s.writeErr j 512 = 12 ∧ s.write j l = { s with dead := true }
            simp [St.writeErr, St.write, hd, ho, hlen, h00]
          rw [h00] at h3
          clear hd ho hlen h00
          go_enter Try.func13, Try.ntmps13
          go_wp2
          go_ret
          exact ⟨by rw [HE.out.1]; rfl, by rw [HE.out.2]; exact HR.out.set 4 _ (by omega) rfl rfl (.inr ⟨by omega, rfl⟩) (.inr ⟨by omega, rfl⟩) (.inl ⟨rfl, rfl⟩), (Turn.refl _ _).setCell (by simp) _ _⟩
        · obtain ⟨b', off, rfl, hcx⟩ := HB.out.at (k := 0) (by omega)
          clear hcx
          obtain ⟨i0, hi0, hz0, hz1, hz2⟩ := info_parts info5
          have hk := hG.k1
          have hlm := hG.l2
          have hl1 := hG.l1
          by_cases hneg : s.left < 0
          · have HE : Hid (s.writeErr j 512 = 0 ∧ s.write j l = { s with k := s.k + 1, f := put s.f j l }) := by
              show s.writeErr j 512 = 0 ∧ s.write j l = { s with k := s.k + 1, f := put s.f j l }
              simp [St.writeErr, St.write, hd, ho, hlen, h00, hneg]
            have tz : (s.left == 0) = false := by rw [beq_eq_false_iff_ne]; exact h00
            have tp : decide (0 < s.left) = false := by simp; omega
            clear hd ho hlen h00
            go_enter Try.func13, Try.ntmps13
            go_wp2_with fail
            have HR1 : Hid (RefAt w rb rs G s) := HR
            have HBA : Hid (BytesAt (w.alloc (.cells #[] 5)) (some ⟨b', off, none⟩) l) := HB.out.turn ((Turn.refl [] _).alloc _) (by simp)
            have hT1 : Turn [rb, rs] w w := Turn.refl _ _
            have hNG : ∀ g, w.heap.size ≤ g → G g := hN
            have h11 := HR1.out.c1
            obtain ⟨vj, hvj, _⟩ := HR1.out.rows j hj
            have hfj := HR1.out.fs j
            have hbl := HR1.out.lt
            have hsl := HR1.out.lts
            have hnb := HR1.out.ne
            go_region_law (refine step_append_grows rfl (.tmp 51) (.tmp 52) 31 rfl 5 i0 (.int .u8 0) 1 1 Try.underlying31 hi0 hz0 hz1 hz2 rfl (by decide) (some ⟨w.heap.size, 0, none⟩) 0 0 [] (by simp [Act.eval]) (by simp) rfl (by simp) ⟨b', off, none⟩ 512 cap (l.map byteCell) (by simp [Act.eval]) (by rw [List.length_map, HL.out]) (src_bytes HBA.out) (src_one l) (by omega) (by unfold maxLen; omega) (by omega) ?_; intro v' w2 hown2 hgrow2; obtain ⟨g, cg, hv2, hgf, hgw, hB2⟩ := grew HL.out hown2; subst hv2; have hT2 := grew_turn hgrow2; have HR2 := hide (RefAt.turn HR1.out hT2 (by simp) (by simp) (by simp)); have HB2 := hide hB2; have h21 := HR2.out.c1; have h2j := (hT2.cell (p := ⟨rs, j, none⟩) hsl (by simp)).trans hvj; have f2j := HR2.out.fs j; have hgb : w.heap.size ≤ g := hgf; clear hown2 hgrow2 hB2 hgf)
            all_goals
              have HR3 := hide (HR2.out.setRow j hj (.slice (some ⟨g, 0, none⟩) 512 cg) l (.inr ⟨g, cg, rfl, HL.out, hNG g hgb, by omega, by omega, HB2.out⟩))
              have h32 := HR3.out.c2
              have f32 := HR3.out.fb 2
              have hT3 : Turn [rb, rs] w (w2.setCell ⟨rs, j, none⟩ (.slice (some ⟨g, 0, none⟩) 512 cg)) := (hT1.then hT2 (by simp)).setCell (by simp) _ _
              clear h21 h2j f2j
              go_wp2_with fail
              go_ret
              refine ⟨by rw [HE.out.1]; rfl, ?_, hT3.setCell (by simp) _ _⟩
              rw [HE.out.2]
              exact HR3.out.set 2 _ (by omega) rfl rfl (.inl ⟨rfl, rfl⟩) (.inr ⟨by omega, rfl⟩) (.inr ⟨by omega, rfl⟩)
          · have HE : Hid (s.writeErr j 512 = 0 ∧ s.write j l = { s with k := s.k + 1, left := s.left - 1, f := put s.f j l }) := by
              show s.writeErr j 512 = 0 ∧ s.write j l = { s with k := s.k + 1, left := s.left - 1, f := put s.f j l }
              simp [St.writeErr, St.write, hd, ho, hlen, h00, hneg]
            have tz : (s.left == 0) = false := by rw [beq_eq_false_iff_ne]; exact h00
            have tp : decide (0 < s.left) = true := by simp; omega
            clear hd ho hlen
            go_enter Try.func13, Try.ntmps13
            go_wp2_with fail
            have HR1 : Hid (RefAt (w.setCell ⟨rb, 3, none⟩ (.int .i64 (s.left - 1))) rb rs G { s with left := s.left - 1 }) := HR.out.set 3 _ (by omega) rfl rfl (.inr ⟨by omega, rfl⟩) (.inl ⟨rfl, rfl⟩) (.inr ⟨by omega, rfl⟩)
            have HB1 : Hid (BytesAt (w.setCell ⟨rb, 3, none⟩ (.int .i64 (s.left - 1))) (some ⟨b', off, none⟩) l) := HB.out.turn ((Turn.refl [rb] _).setCell (by simp) _ _) (fun x hl hx => by simp; exact HAB.out x hl hx)
            have hT1 : Turn [rb, rs] w (w.setCell ⟨rb, 3, none⟩ (.int .i64 (s.left - 1))) := (Turn.refl _ _).setCell (by simp) _ _
            have hNG : ∀ g, (w.setCell ⟨rb, 3, none⟩ (.int .i64 (s.left - 1))).heap.size ≤ g → G g := fun g hg => hN g (by rw [World.size_setCell] at hg; exact hg)
            generalize hw1 : w.setCell ⟨rb, 3, none⟩ (.int .i64 (s.left - 1)) = w1 at *
            clear hw1 h0 h1 h3 h4 f3 f4
            have HBA : Hid (BytesAt (w1.alloc (.cells #[] 5)) (some ⟨b', off, none⟩) l) := HB1.out.turn ((Turn.refl [] _).alloc _) (by simp)
            have h11 := HR1.out.c1
            obtain ⟨vj, hvj, _⟩ := HR1.out.rows j hj
            have hfj := HR1.out.fs j
            have hbl := HR1.out.lt
            have hsl := HR1.out.lts
            have hnb := HR1.out.ne
            go_region_law (refine step_append_grows rfl (.tmp 51) (.tmp 52) 31 rfl 5 i0 (.int .u8 0) 1 1 Try.underlying31 hi0 hz0 hz1 hz2 rfl (by decide) (some ⟨w1.heap.size, 0, none⟩) 0 0 [] (by simp [Act.eval]) (by simp) rfl (by simp) ⟨b', off, none⟩ 512 cap (l.map byteCell) (by simp [Act.eval]) (by rw [List.length_map, HL.out]) (src_bytes HBA.out) (src_one l) (by omega) (by unfold maxLen; omega) (by omega) ?_; intro v' w2 hown2 hgrow2; obtain ⟨g, cg, hv2, hgf, hgw, hB2⟩ := grew HL.out hown2; subst hv2; have hT2 := grew_turn hgrow2; have HR2 := hide (RefAt.turn HR1.out hT2 (by simp) (by simp) (by simp)); have HB2 := hide hB2; have h21 := HR2.out.c1; have h2j := (hT2.cell (p := ⟨rs, j, none⟩) hsl (by simp)).trans hvj; have f2j := HR2.out.fs j; have hgb : w1.heap.size ≤ g := hgf; clear hown2 hgrow2 hB2 hgf)
            all_goals
              have HR3 := hide (HR2.out.setRow j hj (.slice (some ⟨g, 0, none⟩) 512 cg) l (.inr ⟨g, cg, rfl, HL.out, hNG g hgb, by omega, by omega, HB2.out⟩))
              have h32 := HR3.out.c2
              have f32 := HR3.out.fb 2
              have hT3 : Turn [rb, rs] w (w2.setCell ⟨rs, j, none⟩ (.slice (some ⟨g, 0, none⟩) 512 cg)) := (hT1.then hT2 (by simp)).setCell (by simp) _ _
              clear h21 h2j f2j
              go_wp2_with fail
              go_ret
              refine ⟨by rw [HE.out.1]; rfl, ?_, hT3.setCell (by simp) _ _⟩
              rw [HE.out.2]
              exact HR3.out.set 2 _ (by omega) rfl rfl (.inl ⟨rfl, rfl⟩) (.inr ⟨by omega, rfl⟩) (.inr ⟨by omega, rfl⟩)
      · have HE : Hid (s.writeErr j l.length = 1 ∧ s.write j l = s) := by show s.writeErr j l.length = 1 ∧ s.write j l = s; simp [St.writeErr, St.write, hd, ho, hlen]
        have t3 : ((l.length : Int) != 512) = true := by rw [bne_iff_ne]; omega
        clear hd ho hlen
        go_enter Try.func13, Try.ntmps13
        go_wp2
        go_ret
        exact ⟨by rw [HE.out.1]; rfl, by rw [HE.out.2]; exact HR.out, Turn.refl _ _⟩

end Go.Proofs.Ytihilllhdiodgaa
