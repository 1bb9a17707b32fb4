/-
  The law PagerSmall, walked.
-/
import Derived.Test.YtjbjcjcahkfgbaaDoorPknown
import Derived.Test.YtjbjcjcahkfgbaaDoorCount
namespace Go.Proofs.YtjbjcjcahkfgbaaDoor
open Go.RowKit Go.Maps

set_option maxRecDepth 100000 in
set_option maxHeartbeats 1600000 in
theorem commit_dead' (p b m sm rb N : Nat) (d l : Int) (s : St) (q : Pg) (hd : s.dead = true) (hq : q.dead = false) (a : Option Addr) (cap n : Nat) (w : World) (hD : DiskAt w b m s) (hP : PgAt w p b sm rb N d l q) (A : Apart p b m sm rb) :
    Calls Tryd.prog 20 #[.pointer (some ⟨p, 0, none⟩), .slice a n cap] w fun e w' => e = .returned (.int .i64 12) ∧ Turn [p] w w' := by
  have HI := hide (isDead_yes p b m sm rb N d l q s hq hd w hD hP A)
  clear hD hP
  go_enter Tryd.func20, Tryd.ntmps20
  go_wp2_with fail
  refine HI.out.mono ?_
  rintro e w1 ⟨rfl, _, _, hT1⟩
  go_wp2_with fail
  go_ret
  exact ⟨rfl, hT1⟩

/-- The disk that Cut(0) and a write leave. -/
theorem cut0 (N : Nat) (hN : 0 < N) : ((St.new N).cut 0).writeErr 0 512 = 12 ∧ (((St.new N).cut 0).write 0 zeros).dead = true ∧ (((St.new N).cut 0).write 0 zeros).n = N := by
  have hc := St.write_cut (s := (St.new N).cut 0) (j := 0) (l := zeros) rfl hN zeros_length rfl
  have e : ((0 : Nat) : Int) = 0 := rfl
  rw [e] at hc
  exact ⟨hc.2, by rw [hc.1], by rw [hc.1]; rfl⟩

set_option maxRecDepth 100000 in
set_option maxHeartbeats 3200000 in
theorem small_any (x : Int) (w : World) (hTab : Tab w) : Calls Tryd.prog 6 #[.int .i64 x] w fun e w' => e = .returned (.bool true) ∧ Turn [] w w' := by
  have HTab := hide hTab
  clear hTab
  have hmk := make_512
  go_enter Tryd.func6, Tryd.ntmps6
  go_wp2_with fail
  refine (known_any w HTab.out).mono ?_
  rintro e w1 ⟨rfl, hT1⟩
  have HTab1 := hide (HTab.out.turn hT1 (by simp))
  go_wp2_with fail
  refine (within_any x 140 (by omega) (by omega) w1).mono ?_
  rintro e w2 ⟨⟨k, hk, rfl⟩, rfl⟩
  obtain ⟨N, hN⟩ : ∃ N, N = 1 + k := ⟨_, rfl⟩
  have hNI : (1 : Int) + (k : Int) = (N : Int) := by omega
  have hN1 : 1 ≤ N := by omega
  have hN2 : N ≤ 140 := by omega
  clear hN
  go_wp2_with fail
  refine (new_any N (by omega) (by omega) w2).mono ?_
  rintro e w3 ⟨rfl, hD3, hT3, hs3⟩
  have HD3 := hide hD3
  have HTab3 := hide (HTab1.out.turn hT3 (by simp))
  have hs3' : w2.heap.size + 1 < w3.heap.size := by omega
  have hs0 : 0 < w2.heap.size := lt_of_cell (HTab1.out 0 (by omega))
  have hT03 : Turn [] w w3 := hT1.then hT3 (by simp)
  have h1s := hT1.size
  clear hD3 hs3 hT3 hT1
  generalize hm : w2.heap.size = m at *
  clear hm
  by_cases h64 : N < 64
  · go_wp2_with fail
    refine (open_small (m + 1) m (St.new N) h64 w3 HD3.out).mono ?_
    rintro e w4 ⟨rfl, rfl⟩
    go_wp2_with fail
    go_ret
    exact ⟨rfl, hT03⟩
  · go_wp2_with fail
    refine (open_any (m + 1) m (St.new N) 0 [] (fun _ => false) (Laid.new (by omega) (by omega)) rfl w3 HD3.out HTab3.out ⟨by omega, hs0⟩).mono ?_
    rintro e w4 ⟨p, sm, rb, hp1, hp2, hp3, hp4, rfl, hA4, hT4⟩
    have HA4 := hide hA4
    have hT04 : Turn [] w w4 := hT03.then hT4 (by simp)
    clear hA4
    go_wp2_with fail
    refine (seq_any p (m + 1) sm rb _ _ 0 _ (by show 0 < 1000000000; omega) w4 HA4.out.pg).mono ?_
    rintro e w5 ⟨rfl, rfl⟩
    go_wp2_with fail
    refine (root_any p (m + 1) sm rb _ _ 0 _ (by show 0 ≤ 64; omega) w5 HA4.out.pg).mono ?_
    rintro e w6 ⟨a6, c6, rfl, _, _, hT6⟩
    have HA6 := hide (HA4.out.turn0 hT6)
    have hT06 : Turn [] w w6 := hT04.then hT6 (by simp)
    go_wp2_with fail
    obtain ⟨lf, hlf⟩ : ∃ lf, lf = (Pg.mk false 0 [] (fun _ => false) (fun _ => 0) false 0).left N := ⟨_, rfl⟩
    have hleft := left_ge (Pg.mk false 0 [] (fun _ => false) (fun _ => 0) false 0) N (by omega) [] (fun k _ _ h => by simp at h)
    have hlle := left_le (Pg.mk false 0 [] (fun _ => false) (fun _ => 0) false 0) N
    rw [← hlf] at hleft hlle
    rw [List.length_nil, Nat.add_zero] at hleft
    have HLf := hide (left_any p (m + 1) m sm rb (St.new N) (Pg.mk false 0 [] (fun _ => false) (fun _ => 0) false 0) rfl w6 HA6.out)
    rw [show (St.new N).n = N from rfl, ← hlf] at HLf
    clear hlf
    refine HLf.out.mono ?_
    rintro e w7 ⟨rfl, hA7, hT7⟩
    have HA7 := hide hA7
    have hT07 : Turn [] w w7 := hT06.then hT7 (by simp; omega)
    clear hA7
    have hpl := HA7.out.pg.lt
    have hsl := HA7.out.pg.lts
    have h7s := hT7.size
    have h6s := hT6.size
    go_wp2_with fail
    refine (cut_any (m + 1) m (St.new N) 0 (by omega) w7 HA7.out.disk).mono ?_
    rintro e w8 ⟨rfl, hD8, hT8⟩
    have HD8 := hide (hD8.turn ((Turn.refl [] w8).alloc (.cells zcells 5)) (by simp) (by simp))
    have HP8 := hide ((HA7.out.pg.turn hT8 (by simp; omega) (by simp; omega) (by simp; omega)).turn0 ((Turn.refl [] w8).alloc (.cells zcells 5)))
    have hT08 : Turn [] w (w8.alloc (.cells zcells 5)) := (hT07.then hT8 (by simp; omega)).alloc _
    have hc0 := cut0 N (by omega)
    have HC0 := hide hc0
    have HWr := hide (write_at (m + 1) m ((St.new N).cut 0) ((St.Good.new (by omega)).cut (by omega)) 0 _ 512 512 zeros zeros_length (by unfold maxLen; omega) _ HD8.out (new_zeros w8))
    rw [hc0.1] at HWr
    clear hD8 hc0
    go_wp2_with fail
    refine HWr.out.mono ?_
    rintro e w9 ⟨rfl, hD9, hT9⟩
    have HD9 := hide hD9
    have HP9 := hide (HP8.out.turn hT9 (by simp; omega) (by simp; omega) (by simp; omega))
    have hT09 : Turn [] w w9 := hT08.then hT9 (by simp; omega)
    clear hD9
    go_wp2_with fail
    refine (open_dead (m + 1) m _ (by rw [HC0.out.2.2]; omega) HC0.out.2.1 w9 HD9.out).mono ?_
    rintro e w10 ⟨rfl, hD10, hT10⟩
    have HD10 := hide hD10
    have HP10 := hide (HP9.out.turn0 hT10)
    have hT010 : Turn [] w w10 := hT09.then hT10 (by simp)
    clear hD10
    go_wp2_with fail
    refine (commit_dead' p (m + 1) m sm rb _ _ 0 _ _ HC0.out.2.1 rfl none 0 0 w10 HD10.out HP10.out HA7.out.apart).mono ?_
    rintro e w11 ⟨rfl, hT11⟩
    go_wp2_with fail
    go_ret
    exact ⟨rfl, hT010.then hT11 (by simp; omega)⟩
end Go.Proofs.YtjbjcjcahkfgbaaDoor
