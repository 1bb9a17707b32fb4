/-
  Open of a dead disk, 'known' and 'within' of the laws, walked.
-/
import Derived.Test.YtjbjcjcahkfgbaaDoorPopen
import Derived.Lib.SlBytesConst
namespace Go.Proofs.YtjbjcjcahkfgbaaDoor
open Go.RowKit Go.Maps

set_option maxHeartbeats 400000 in
theorem within_any (a : Int) (n : Nat) (hn : 0 < n) (hn2 : n ≤ 1000000) (w : World) : Calls Tryd.prog 10 #[.int .i64 a, .int .i64 (n : Nat)] w fun e w' => (∃ k : Nat, k < n ∧ e = .returned (.int .i64 (k : Nat))) ∧ w' = w := by
  have h1 := Int.tmod_lt_of_pos a (show (0 : Int) < n by omega)
  have h2 := Int.lt_tmod_of_pos a (show (0 : Int) < n by omega)
  generalize hy : a.tmod n = y at *
  by_cases h : y < 0
  · have t1 : decide (y < 0) = true := by simpa using h
    obtain ⟨k, hk⟩ := Int.eq_ofNat_of_zero_le (show 0 ≤ y + n by omega)
    go_enter Tryd.func10, Tryd.ntmps10
    go_wp2
    go_ret
    exact ⟨⟨k, by omega, rfl⟩, rfl⟩
  · have t1 : decide (y < 0) = false := by simp; omega
    obtain ⟨k, hk⟩ := Int.eq_ofNat_of_zero_le (show 0 ≤ y by omega)
    go_enter Tryd.func10, Tryd.ntmps10
    go_wp2
    go_ret
    exact ⟨⟨k, by omega, rfl⟩, rfl⟩

set_option maxRecDepth 100000 in
set_option maxHeartbeats 3200000 in
theorem open_dead (b m : Nat) (s : St) (hn1 : 64 ≤ s.n) (hd : s.dead = true) (w : World) (hD : DiskAt w b m s) :
    Calls Tryd.prog 12 #[.pointer (some ⟨b, 0, none⟩)] w fun e w' => e = .returned (.tuple #[.pointer none, .int .i64 12]) ∧ DiskAt w' b m s ∧ Turn [] w w' := by
  have HD := hide hD
  have hbl := hD.lt
  have hml := hD.ltm
  have hz := zero80
  have hmm := @run_makeMap Tryd.prog
  have hpe := pcells_eq
  have hps : pzero.size = 266 := by unfold pzero; simp [wlist_length]
  have hpz : ¬ pzero = #[] := fun e => by rw [e] at hps; simp at hps
  have hp2 : ¬ pzero.size < 266 := by omega
  clear hD hps
  go_enter Tryd.func12, Tryd.ntmps12
  go_wp2_with fail
  refine (blocks_any b m s w HD.out).mono ?_
  rintro e w1 ⟨rfl, rfl⟩
  go_wp2_with fail
  have hTt : Turn [] w1 (((w1.alloc (.map #[] 0)).alloc (.cells (pcells b w1.heap.size) 80)).alloc (.cells #[.int .i64 0, .slice none 0 0] 82)) := (((Turn.refl [] w1).alloc _).alloc _).alloc _
  have HP0 := hide ((pager_new w1 b s.n (w1.heap.size + 3) (by omega) (fun _ => false)).turn0 ((Turn.refl [] _).alloc (.cells #[.int .i64 0, .slice none 0 0] 82)))
  have HD0 := hide (HD.out.turn hTt (by simp) (by simp))
  generalize hw3 : ((w1.alloc (.map #[] 0)).alloc (.cells (pcells b w1.heap.size) 80)).alloc (.cells #[.int .i64 0, .slice none 0 0] 82) = w3 at *
  clear hw3 hz hmm hpe hpz hp2
  have HA : Hid (Apart (w1.heap.size + 1) b m w1.heap.size (w1.heap.size + 3)) := ⟨by omega, by omega, by omega, by omega, by omega, by omega, by omega⟩
  generalize hrb0 : w1.heap.size + 3 = rb0 at *
  generalize hlb : w1.heap.size + 1 + 1 = lb at *
  generalize hpp : w1.heap.size + 1 = p at *
  have hp1 : w1.heap.size < p := by omega
  clear hrb0 hlb hpp
  refine wp_loop_rounds 1 ?_
  rw [rounds_succ]
  go_wp2_with fail
  refine (pread_dead p b m w1.heap.size rb0 s.n 0 0 _ HA.out s hd 0 w3 HD0.out HP0.out).mono ?_
  rintro e w5 ⟨rfl, hP5, hD5, hT5⟩
  have HD5 := hide hD5
  clear hD5 hP5
  go_wp2_with fail
  go_ret2
  exact ⟨rfl, HD5.out, hTt.then hT5 (by simp; omega)⟩

theorem isTk4 {q : Pg} {N : Nat} (hN : 4 < N) (hK : q.K 4 = false) (hs : q.si 4 = 0) : q.tk N 4 = false := by
  unfold Pg.tk
  have h1 : ¬ N ≤ 4 := by omega
  simp [hK, hs, h1]

theorem one_byte (w : World) (x : Nat) : BytesAt (w.alloc (.cells #[.int .u8 (x : Nat)] 5)) (some ⟨w.heap.size, 0, none⟩) [x] := bytes_new w [x] 5
theorem one_mark (w : World) (x : Nat) (fr : Nat × Nat) : BytesAt (w.alloc (.cells #[.int .u8 (x : Nat)] 5 fr)) (some ⟨w.heap.size, 0, none⟩) [x] := by
  refine .inr ⟨_, _, rfl, fun i hi => ?_⟩
  rw [Nat.zero_add, World.cell?_alloc_mark]
  match i, hi with
  | 0, _ => rfl

theorem text_x : (textOf [120]).toList = [120] := by decide +kernel
theorem text_r : (textOf [114]).toList = [114] := by decide +kernel

/-- A new page is there, with its bytes. -/
theorem Pg.alloced_there (q : Pg) (n : Nat) : (q.alloced n).there n = true := by
  unfold Pg.there Pg.alloced setB
  simp

set_option maxRecDepth 100000 in
set_option maxHeartbeats 3200000 in
theorem known_any (w : World) (hTab : Tab w) : Calls Tryd.prog 9 #[] w fun e w' => e = .returned (.bool true) ∧ Turn [] w w' := by
  have hs0 : 0 < w.heap.size := lt_of_cell (hTab 0 (by omega))
  have hcv := fun (w : World) (C : Array Value) (n c : Nat) => Lib.run_convert_bytes_const (P := Tryd.prog) w 34 5 C n c Tryd.underlying34 Tryd.underlying5
  have HTab := hide hTab
  clear hTab
  go_enter Tryd.func9, Tryd.ntmps9
  go_wp2_with fail
  refine (new_any 128 (by omega) (by omega) w).mono ?_
  rintro e w1 ⟨rfl, hD1, hT1, hs1⟩
  have HD1 := hide hD1
  have HTab1 := hide (HTab.out.turn hT1 (by simp))
  have hs1' : w.heap.size + 1 < w1.heap.size := by omega
  clear hD1 hs1
  generalize hm : w.heap.size = m at *
  go_wp2_with fail
  refine (open_any (m + 1) m (St.new 128) 0 [] (fun _ => false) (Laid.new (by omega) (by omega)) rfl w1 HD1.out HTab1.out ⟨by omega, hs0⟩).mono ?_
  rintro e w2 ⟨p, sm, rb, hp1, hp2, hp3, hp4, rfl, hA2, hT2⟩
  have hp2l := hA2.pg.lt
  have HA2 := hide (hA2.turn0 ((Turn.refl [] w2).alloc (.cells #[.int .u8 120] 5 (1, 2))))
  have HBx := hide (one_mark w2 120 (1, 2))
  have hT02 : Turn [] w (w2.alloc (.cells #[.int .u8 120] 5 (1, 2))) := (hT1.then hT2 (by simp)).alloc _
  clear hA2
  go_wp2_with fail
  refine (alloc_any p (m + 1) m sm rb (St.new 128) _ rfl rfl (by show 0 < 1000000000; omega) (by show 0 < 1000000; omega) _ 1 [120] 1 rfl (by omega) (by simp) _ HBx.out (fun x _ hx => by obtain rfl := Option.some.inj hx; show w2.heap.size ≠ p; omega) HA2.out).mono ?_
  rintro e w3 hpost
  have hfull : ¬ ∀ k, k < 16384 → (Pg.mk false 0 [] (fun _ => false) (fun _ => 0) false 0).tk (St.new 128).n k = true := fun h => by
    have := h 4 (by omega)
    rw [isTk4 (by show 4 < 128; omega) rfl rfl] at this
    cases this
  rcases hpost with ⟨_, h, _⟩ | ⟨k, rfl, hNx, _, hA3, hT3⟩ | ⟨k, _, _, h, _⟩
  · exact absurd h hfull
  · have hkr := hNx.range
    have hkN : k < 128 := hkr.2.1
    have hk4 := hkr.1
    have HNx := hide hNx
    have hT03 : Turn [] w (w3.alloc (.cells #[.int .u8 114] 5 (1, 2))) := (hT02.then hT3 (by simp; omega)).alloc _
    have h3s := hT3.size
    have hp3l := hA3.pg.lt
    have HA3 := hide (hA3.turn0 ((Turn.refl [] w3).alloc (.cells #[.int .u8 114] 5 (1, 2))))
    have HBr := hide (one_mark w3 114 (1, 2))
    have hrb3 : rb < (w3.alloc (.cells #[.int .u8 114] 5 (1, 2))).heap.size := by simp at h3s ⊢; omega
    clear hA3 hNx hkr hfull hT3 HA2 HBx
    go_wp2_with fail
    refine (commit_any p (m + 1) m sm rb _ _ rfl rfl (by show 0 + 1 < 999990; omega) _ 1 [114] 1 rfl (by omega) (by simp) (by simp) _ HA3.out HBr.out (fun x _ hx => by obtain rfl := Option.some.inj hx; show w3.heap.size ≠ p; omega) hrb3).mono ?_
    rintro e w4 hpost
    rcases hpost with ⟨rfl, _, _, ⟨s4, sm4, rb4, hd4, hn4, hk4', hl4, hf4, _, _, hrb4, hA4⟩, hT4⟩ | ⟨_, h, _⟩
    · have HA4 := hide hA4
      have hT04 : Turn [] w w4 := hT03.then hT4 (by simp; omega)
      have HF4 : Hid (s4.f k = bytesOf 512 (pageB [120])) := by show _ = _; rw [hf4 k hk4]; exact St.did_f_same _ _ _
      have HN4 : Hid (s4.n = 128) := hn4
      clear hA4 hT4 HA3 HBr hf4 hn4 hl4 hk4'
      go_wp2_with fail
      refine (open_any (m + 1) m s4 _ _ _ HA4.out.laid hd4 w4 HA4.out.disk HA4.out.tab ⟨by omega, hs0⟩).mono ?_
      rintro e w5 ⟨p5, sm5, rb5, h51, h52, h53, h54, rfl, hA5, hT5⟩
      have HA5 := hide hA5
      have hT05 : Turn [] w w5 := hT04.then hT5 (by simp)
      have Hth : Hid ((Pg.mk false (0 + 1) [114] ((Pg.alloced ⟨false, 0, [], fun _ => false, fun _ => 0, false, 0⟩ k).there) (fun _ => 0) false 0).thereI s4.n (k : Nat) = true) := by
        show _ = _
        unfold Pg.thereI
        rw [HN4.out]
        have h1 : (4 : Int) ≤ (k : Int) := by omega
        have h2 : (k : Int) < ((128 : Nat) : Int) := by omega
        rw [decide_eq_true h1, decide_eq_true h2]
        show (true && true && Pg.there _ k) = true
        unfold Pg.there
        show (true && true && ((Pg.there _ k || _) && _)) = true
        rw [Pg.alloced_there]
        rfl
      have hp5l := hA5.pg.lt
      clear hA5 hT5 HA4
      go_wp2_with fail
      refine (read_yes p5 (m + 1) m sm5 rb5 s4 _ hd4 rfl k Hth.out [120] (by simp) HF4.out w5 HA5.out).mono ?_
      rintro e w6 ⟨g, o, hg1, hg2, rfl, hB6, _, hA6, hT6⟩
      have hcv6 := text_at hB6 1 1 rfl
      have htx := text_x
      have htr := text_r
      have HA6 := hide hA6
      have hT06 : Turn [] w w6 := hT05.then hT6 (by simp; omega)
      clear hA6 hB6 hT6 HA5
      go_wp2_with fail
      refine (root_any p5 (m + 1) sm5 rb5 s4.n _ 0 _ (by show 1 ≤ 64; omega) w6 HA6.out.pg).mono ?_
      rintro e w7 ⟨a7, c7, rfl, hB7, _, hT7⟩
      have hcv7 := text_at hB7 1 c7 rfl
      have hT07 : Turn [] w w7 := hT06.then hT7 (by simp)
      clear hB7 hT7 HA6 hcv6
      go_wp2_with fail
      go_ret
      exact ⟨rfl, hT07⟩
    · exact absurd h (by show ¬ ((-1 : Int) = 0 ∨ (-1 : Int) = 1); omega)
  · exact absurd h (by show ¬ (-1 : Int) = 0; omega)
end Go.Proofs.YtjbjcjcahkfgbaaDoor
