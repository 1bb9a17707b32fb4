/-
  The law DiskCuts, walked: it returns true, and nothing that was there is written.
-/
import Derived.Test.YtihilllhdiodgaaHelp
namespace Go.Proofs.Ytihilllhdiodgaa
open Go.RowKit Go.Maps

/-- The bools that a slice leads to. -/
def BoolsAt (w : World) (a : Option Addr) (l : List Bool) : Prop :=
  ∀ i, (h : i < l.length) → ∃ b off, a = some ⟨b, off, none⟩ ∧ b < w.heap.size ∧ w.cell? ⟨b, off + i, none⟩ = some (.bool l[i])

/-- How a disk stands behind Cut(n), with so many writes done. -/
structure CutAt (s : St) (n k : Nat) : Prop where
  good : s.Good
  n4 : s.n = 4
  kk : s.k = k
  kn : k ≤ n
  st : (s.dead = false ∧ s.left = (n : Int) - k) ∨ (s.dead = true ∧ k = n)

theorem CutAt.wrong {s : St} {n k : Nat} (h : CutAt s n k) (l : List Nat) : s.write 9 l = s ∧ (s.dead = true ∧ s.writeErr 9 512 = 12 ∧ k = n ∨ s.dead = false ∧ s.writeErr 9 512 = 1) := by
  have ho : s.out 9 = true := by unfold St.out; rw [h.n4]; decide
  rcases h.st with ⟨hd, _⟩ | ⟨hd, hk⟩
  · exact ⟨by simp [St.write, hd, ho], .inr ⟨hd, by simp [St.writeErr, hd, ho]⟩⟩
  · exact ⟨by simp [St.write, hd], .inl ⟨hd, by simp [St.writeErr, hd], hk⟩⟩

theorem CutAt.right {s : St} {n k : Nat} (h : CutAt s n k) (hk : k ≤ 100) (i : Int) (h0 : 0 ≤ i) (h4 : i < 4) (l : List Nat) (hl : l.length = 512) :
    (k < n ∧ s.writeErr i 512 = 0 ∧ CutAt (s.write i l) n (k + 1)) ∨ (k = n ∧ s.writeErr i 512 = 12 ∧ CutAt (s.write i l) n k ∧ (s.write i l).dead = true) := by
  have ho : s.out i = false := by unfold St.out; rw [h.n4]; simp; omega
  have hkk := h.kk
  have hg := h.good.write i l (by omega)
  have hn4 := (s.write_n i l).trans h.n4
  rcases h.st with ⟨hd, hleft⟩ | ⟨hd, hkn⟩
  · by_cases hlt : k < n
    · have hne : s.left ≠ 0 := by omega
      have hnn : ¬ s.left < 0 := by omega
      have e : s.write i l = { s with k := s.k + 1, left := s.left - 1, f := put s.f i.toNat l } := by simp [St.write, hd, ho, hl, hne, hnn]
      refine .inl ⟨hlt, by simp [St.writeErr, hd, ho, hne], hg, hn4, by rw [e]; show s.k + 1 = k + 1; omega, by omega, .inl ?_⟩
      rw [e]
      exact ⟨hd, by show s.left - 1 = (n : Int) - ((k + 1 : Nat) : Int); omega⟩
    · have hkn : k = n := by have := h.kn; omega
      have hz : s.left = 0 := by omega
      have e : s.write i l = { s with dead := true } := by simp [St.write, hd, ho, hl, hz]
      refine .inr ⟨hkn, by simp [St.writeErr, hd, ho, hz], ⟨hg, hn4, by rw [e]; exact hkk, h.kn, .inr ⟨by rw [e], hkn⟩⟩, by rw [e]⟩
  · have e : s.write i l = s := by simp [St.write, hd]
    exact .inr ⟨hkn, by simp [St.writeErr, hd], by rw [e]; exact h, by rw [e]; exact hd⟩

theorem start_facts (s : St) (h : s.n = 4) : s.start.dead = false ∧ s.start.writeErr 0 512 = 0 := by
  refine ⟨rfl, ?_⟩
  have hn : s.start.n = 4 := h
  have ho : s.start.out 0 = false := by unfold St.out; rw [hn]; decide
  simp only [St.writeErr, ho]
  simp [St.start]

set_option maxRecDepth 100000 in
set_option maxHeartbeats 2000000 in
theorem cuts_any (x : Int) (a0 : Option Addr) (cap0 : Nat) (l : List Bool) (_hl : l.length ≤ maxLen) (w : World) (hB : BoolsAt w a0 l) :
    Calls Try.prog 5 #[.int .i64 x, .slice a0 l.length cap0] w fun e w' => e = .returned (.bool true) ∧ Turn [] w w' := by
  have hnot : ∀ (x : Bool) (w : World), (Op.unary .not (.bool x)).run Try.prog w = .ok (.bool (!x)) w := fun _ _ => rfl
  have hmk := make_512
  have HB := hide hB
  clear hB
  go_enter Try.func5, Try.ntmps5
  go_wp2_with fail
  refine (known_any _).mono ?_
  rintro e w1 ⟨rfl, hT1⟩
  go_wp2_with fail
  refine (new_any 4 (by omega) (by omega) w1).mono ?_
  rintro e w2 ⟨rfl, hD2, hT2, hs2⟩
  have hT12 := hT1.then hT2 (by simp)
  have hb1 := hT1.size
  have HD2 := hide hD2
  clear hD2 hT1 hT2
  generalize hm : w1.heap.size = m at *
  clear hm
  go_wp2_with fail
  refine (within_any x w2).mono ?_
  rintro e w3 ⟨⟨n, hn, rfl⟩, rfl⟩
  go_wp2_with fail
  refine (cut_any _ _ _ (n : Int) (by omega) w3 HD2.out).mono ?_
  rintro e w4 ⟨rfl, hD4, hT4⟩
  have hC4 : CutAt ((St.new 4).cut (n : Int)) n 0 := ⟨(St.Good.new (by omega)).cut (by omega), rfl, rfl, Nat.zero_le _, .inl ⟨rfl, by show max (n : Int) (-1) = (n : Int) - (0 : Nat); omega⟩⟩
  have hT : Turn [] w w4 := hT12.then hT4 (by simp; omega)
  have HD4 := hide hD4
  have HC4 := hide hC4
  have hs4 : m + 1 < w4.heap.size := by have := hT4.size; omega
  clear hD4 hC4 hT12 hT4
  generalize hs0 : (St.new 4).cut (n : Int) = s0 at *
  clear hs0
  go_wp2_with fail
  go_loopw [7, 8] (fun dn i wr => ∃ q k : Nat, q ≤ 30 ∧ i = .int .i64 q ∧ dn = .int .i64 k ∧ k ≤ q ∧ ∃ s : St, DiskAt wr (m + 1) m s ∧ CutAt s n k ∧ Turn [] w wr ∧ m + 1 < wr.heap.size) (fun _ i _ => 30 - (intOf i).toNat)
  case atStart => exact ⟨0, 0, Nat.zero_le _, rfl, rfl, Nat.le_refl _, s0, HD4.out, HC4.out, hT, hs4⟩
  case round =>
    obtain ⟨q, k, hq, rfl, rfl, hkq, s, hD, hC, hTr, hsr⟩ := hrel
    clear HD4 HC4 hT hs4
    have hkn := hC.kn
    by_cases h30 : q < 30
    · have HC := hide hC
      have HDa : Hid (DiskAt (wr.alloc (.cells zcells 5)) (m + 1) m s) := hD.turn ((Turn.refl [] _).alloc _) (by simp) (by simp)
      clear hD hC
      -- whether it is to be a wrong one
      have hcase : (∃ (hlt : q < l.length), l[q] = true) ∨ (q < l.length → ∃ (hlt : q < l.length), l[q] = false) := by
        by_cases hlt : q < l.length
        · cases hv : l[q] with
          | true => exact .inl ⟨hlt, hv⟩
          | false => exact .inr fun _ => ⟨hlt, hv⟩
        · exact .inr fun h => absurd h hlt
      rcases hcase with ⟨hlt, hv⟩ | hright
      · obtain ⟨b', off, rfl, hbw, hc0⟩ := HB.out q hlt
        rw [hv] at hc0
        have hc : wr.cell? ⟨b', off + q, none⟩ = some (.bool true) := (hTr.cell (p := ⟨b', off + q, none⟩) hbw (by simp)).trans hc0
        clear hv hc0
        obtain ⟨hw9, hcase⟩ := HC.out.wrong zeros
        have HW9 := hide hw9
        clear hw9
        rcases hcase with ⟨hd, he, hkn'⟩ | ⟨hd, he⟩
        · subst hkn'
          have HDd := hide hd
          have HEr := hide he
          clear hd he
          go_wp2_with fail
          refine (write_at _ _ s HC.out.good 9 _ 512 512 zeros zeros_length (by unfold maxLen; omega) _ HDa.out (new_zeros wr)).mono ?_
          rintro e w5 ⟨rfl, hD5, hT5⟩
          rw [HEr.out]
          rw [HW9.out] at hD5
          have HD5 := hide hD5
          clear hD5
          go_wp2_with fail
          refine (dead_any _ _ _ _ HD5.out).mono ?_
          rintro e w6 ⟨rfl, rfl⟩
          rw [HDd.out]
          go_wp2_with fail
          go_roundw
          case rel => exact ⟨q + 1, k, by omega, by go_num, rfl, by omega, s, HD5.out, HC.out, (hTr.alloc _).then hT5 (by have := hTr.size; simp; omega), by have := hT5.size; simp at this; omega⟩
          case measure => simp [intOf]; omega
        · have HDd := hide hd
          have HEr := hide he
          clear hd he
          go_wp2_with fail
          refine (write_at _ _ s HC.out.good 9 _ 512 512 zeros zeros_length (by unfold maxLen; omega) _ HDa.out (new_zeros wr)).mono ?_
          rintro e w5 ⟨rfl, hD5, hT5⟩
          rw [HEr.out]
          rw [HW9.out] at hD5
          have HD5 := hide hD5
          clear hD5
          go_wp2_with fail
          go_roundw
          case rel => exact ⟨q + 1, k, by omega, by go_num, rfl, by omega, s, HD5.out, HC.out, (hTr.alloc _).then hT5 (by have := hTr.size; simp; omega), by have := hT5.size; simp at this; omega⟩
          case measure => simp [intOf]; omega
      · have hmem : (∃ (b' off : Nat), a0 = some ⟨b', off, none⟩ ∧ q < l.length ∧ wr.cell? ⟨b', off + q, none⟩ = some (.bool false)) ∨ ¬ q < l.length := by
          by_cases hlt : q < l.length
          · obtain ⟨_, hv⟩ := hright hlt
            obtain ⟨b', off, h1, hbw, hc0⟩ := HB.out q hlt
            rw [hv] at hc0
            exact .inl ⟨b', off, h1, hlt, (hTr.cell (p := ⟨b', off + q, none⟩) hbw (by simp)).trans hc0⟩
          · exact .inr hlt
        clear hright
        have hR := HC.out.right (by omega) ((q : Int) % 4) (by omega) (by omega) zeros zeros_length
        rcases hmem with ⟨b', off, rfl, hlt, hc⟩ | hlt
        all_goals rcases hR with ⟨hkl, he, hC'⟩ | ⟨hke, he, hC', hd'⟩
        case inl.inl | inr.inl =>
          have t1 : decide ((k : Int) < (n : Int)) = true := by simp; omega
          have HEr := hide he
          have HC' := hide hC'
          clear he hC'
          go_wp2_with fail
          refine (write_at _ _ s HC.out.good ((q : Int) % 4) _ 512 512 zeros zeros_length (by unfold maxLen; omega) _ HDa.out (new_zeros wr)).mono ?_
          rintro e w5 ⟨rfl, hD5, hT5⟩
          rw [HEr.out]
          have HD5 := hide hD5
          have HK := HC'.out.kk
          clear hD5
          go_wp2_with fail
          refine (writes_any _ _ _ _ HD5.out).mono ?_
          rintro e w6 ⟨rfl, rfl⟩
          rw [HK]
          clear HK
          go_wp2_with fail
          go_roundw
          case rel => exact ⟨q + 1, k + 1, by omega, by go_num, by go_num, by omega, _, HD5.out, HC'.out, (hTr.alloc _).then hT5 (by have := hTr.size; simp; omega), by have := hT5.size; simp at this; omega⟩
          case measure => simp [intOf]; omega
        case inl.inr | inr.inr =>
          subst hke
          have HEr := hide he
          have HC' := hide hC'
          have HD' := hide hd'
          clear he hC' hd'
          go_wp2_with fail
          refine (write_at _ _ s HC.out.good ((q : Int) % 4) _ 512 512 zeros zeros_length (by unfold maxLen; omega) _ HDa.out (new_zeros wr)).mono ?_
          rintro e w5 ⟨rfl, hD5, hT5⟩
          rw [HEr.out]
          have HD5 := hide hD5
          have HK := HC'.out.kk
          clear hD5
          go_wp2_with fail
          refine (dead_any _ _ _ _ HD5.out).mono ?_
          rintro e w6 ⟨rfl, rfl⟩
          rw [HD'.out]
          go_wp2_with fail
          refine (writes_any _ _ _ _ HD5.out).mono ?_
          rintro e w6 ⟨rfl, rfl⟩
          rw [HK]
          clear HK
          go_wp2_with fail
          go_roundw
          case rel => exact ⟨q + 1, k, by omega, by go_num, rfl, by omega, _, HD5.out, HC'.out, (hTr.alloc _).then hT5 (by have := hTr.size; simp; omega), by have := hT5.size; simp at this; omega⟩
          case measure => simp [intOf]; omega
    · obtain ⟨f1, f2⟩ := start_facts s hC.n4
      have HF1 := hide f1
      have HF2 := hide f2
      have HG := hide hC.good.start
      have HD := hide hD
      clear f1 f2 hD hC
      go_wp2_with fail
      refine (start_any _ _ _ _ HD.out).mono ?_
      rintro e w5 ⟨rfl, hD5, hT5⟩
      have HD5 := hide hD5
      clear hD5
      go_wp2_with fail
      refine (dead_any _ _ _ _ HD5.out).mono ?_
      rintro e w6 ⟨rfl, rfl⟩
      rw [HF1.out]
      have HD6 : Hid (DiskAt (w6.alloc (.cells zcells 5)) (m + 1) m s.start) := HD5.out.turn ((Turn.refl [] _).alloc _) (by simp) (by simp)
      go_wp2_with fail
      refine (write_at _ _ _ HG.out 0 _ 512 512 zeros zeros_length (by unfold maxLen; omega) _ HD6.out (new_zeros _)).mono ?_
      rintro e w7 ⟨rfl, _, hT7⟩
      rw [HF2.out]
      go_wp2_with fail
      go_ret
      exact ⟨rfl, ((hTr.then hT5 (by have := hTr.size; simp; omega)).alloc _).then hT7 (by have := hTr.size; simp; omega)⟩

end Go.Proofs.Ytihilllhdiodgaa
