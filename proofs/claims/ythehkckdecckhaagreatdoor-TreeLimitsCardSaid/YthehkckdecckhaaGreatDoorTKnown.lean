/-
  A tree on a new disk; the laws' own example.
-/
import Derived.Test.YthehkckdecckhaaGreatDoorTLaw
namespace Go.Proofs.YthehkckdecckhaaGreatDoor
open Go.RowKit Go.Maps

/-- A pager without pages. -/
def noPages (r : Bool) : Pg := ⟨false, 0, [], fun _ => false, fun _ => 0, r, 0⟩

set_option maxRecDepth 100000 in
set_option maxHeartbeats 3200000 in
theorem opened_new (b m N : Nat) (h1 : 64 ≤ N) (h2 : N ≤ 4096) (w : World) (hD : DiskAt w b m (St.new N)) (hTab : Tab w) (hb0 : 1 < b ∧ 1 < m) :
    Calls Tryz.prog 25 #[.pointer (some ⟨b, 0, none⟩)] w fun e w' => ∃ t p sm rb r, e = .returned (.pointer (some ⟨t, 0, none⟩)) ∧ w.heap.size ≤ t ∧ w.heap.size ≤ p ∧ w.heap.size ≤ sm ∧ w.heap.size ≤ rb ∧ rb < w'.heap.size ∧ Off t p b m sm rb ∧ TreeAt w' t p ⟨none, 0, false, 0, .slice none 0 0⟩ ⟨none, 0, false, 0, .slice none 0 0⟩ ∧ PAt w' p b m sm rb (St.new N) (noPages r) ∧ Turn [] w w' := by
  have HC := hide (open_any b m (St.new N) 0 [] (fun _ => false) (Laid.new h1 h2) rfl w hD hTab hb0)
  have hbl := hD.lt
  have hml := hD.ltm
  clear hD hTab
  go_enter Tryz.func25, Tryz.ntmps25
  go_wp2_with fail
  refine HC.out.mono ?_
  rintro e w1 ⟨p, sm, rb, hp1, hp2, hp3, hp4, rfl, hA1, hT1⟩
  have HA1 := hide hA1
  have HT1 := hide hT1
  have hpl := hA1.pg.lt
  have hsl := hA1.pg.lts
  have h1s := hT1.size
  clear hA1 hT1
  go_wp2_with fail
  refine (topen_new p b m sm rb (St.new N) ⟨false, 0, [], fun _ => false, fun _ => 0, false, 0⟩ rfl rfl (by simp) w1 hp4 HA1.out).mono ?_
  rintro e w2 ⟨t, r, rfl, ht, hTr2, hA2, hT2⟩
  have HTr2 := hide hTr2
  have HA2 := hide hA2
  have HT2 := hide hT2
  have h2s := hT2.size
  clear hTr2 hA2 hT2
  go_wp2_with fail
  go_ret
  exact ⟨t, p, sm, rb, r, rfl, by omega, hp1, hp2, hp3, by omega, ⟨by omega, by omega, by omega, by omega, by omega, by omega⟩, HTr2.out, HA2.out, HT1.out.then HT2.out (by simp; omega)⟩

set_option maxRecDepth 100000 in
set_option maxHeartbeats 3200000 in
theorem made_new (N : Nat) (h1 : 64 ≤ N) (h2 : N ≤ 4096) (w : World) (hTab : Tab w) :
    Calls Tryz.prog 10 #[.int .i64 (N : Nat)] w fun e w' => ∃ t p b m sm rb r, e = .returned (.tuple #[.pointer (some ⟨b, 0, none⟩), .pointer (some ⟨t, 0, none⟩)]) ∧ w.heap.size ≤ t ∧ w.heap.size ≤ p ∧ w.heap.size ≤ b ∧ w.heap.size ≤ m ∧ w.heap.size ≤ sm ∧ w.heap.size ≤ rb ∧ rb < w'.heap.size ∧ Off t p b m sm rb ∧ TreeAt w' t p ⟨none, 0, false, 0, .slice none 0 0⟩ ⟨none, 0, false, 0, .slice none 0 0⟩ ∧ PAt w' p b m sm rb (St.new N) (noPages r) ∧ Turn [] w w' := by
  have HTab := hide hTab
  have hs0 : 1 < w.heap.size := lt_of_cell (hTab 0 (by omega))
  clear hTab
  go_enter Tryz.func10, Tryz.ntmps10
  go_wp2_with fail
  refine (new_any N (by omega) (by omega) w).mono ?_
  rintro e w1 ⟨rfl, hD1, hT1, hs1⟩
  have HD1 := hide hD1
  have HTab1 := hide (HTab.out.turn hT1 (by simp))
  have HT1 := hide hT1
  clear hD1 hT1
  go_wp2_with fail
  refine (opened_new (w.heap.size + 1) w.heap.size N h1 h2 w1 HD1.out HTab1.out ⟨by omega, by omega⟩).mono ?_
  rintro e w2 ⟨t, p, sm, rb, r, rfl, g1, g2, g3, g4, g5, hO, hTr, hA, hT2⟩
  have HO := hide hO
  have HTr := hide hTr
  have HA := hide hA
  have HT2 := hide (HT1.out.then hT2 (by simp))
  clear hO hTr hA hT2
  go_wp2_with fail
  refine bodyPost_ret (v := .tuple #[.pointer (some ⟨w.heap.size + 1, 0, none⟩), .pointer (some ⟨t, 0, none⟩)]) (by simp [results, Tryz.results10, go_sem]) rfl ⟨t, p, w.heap.size + 1, w.heap.size, sm, rb, r, rfl, by omega, by omega, by omega, by omega, by omega, by omega, g5, HO.out, HTr.out, HA.out, HT2.out⟩
end Go.Proofs.YthehkckdecckhaaGreatDoor

/-
  The laws' own example: what was put and not committed is forgotten.
-/
namespace Go.Proofs.YthehkckdecckhaaGreatDoor
open Go.RowKit Go.Maps

theorem Pg.left_new (N : Nat) (hN : N ≤ 16384) (c : Nat) (root : List Nat) (d r : Bool) (u : Nat) : (Pg.mk d c root (fun _ => false) (fun _ => 0) r u).left N = N - 4 := by
  have h := fc_base N 16384
  rw [Nat.min_eq_right hN] at h
  have e : freeCount ((Pg.mk d c root (fun _ => false) (fun _ => 0) r u).tk N) 16384 = freeCount (fun k => decide (k < 4) || decide (N ≤ k)) 16384 := freeCount_congr fun j _ => by
    unfold Pg.tk
    simp
  unfold Pg.left
  rw [e]
  exact h


theorem noPages_left (r : Bool) (N : Nat) (hN : N ≤ 4096) : (noPages r).left N = N - 4 := Pg.left_new N (by omega) 0 [] false r 0

set_option maxRecDepth 100000 in
set_option maxHeartbeats 3200000 in
theorem known_any (w : World) (hTab : Tab w) : Calls Tryz.prog 9 #[] w fun e w' => e = .returned (.bool true) ∧ Turn [] w w' := by
  have HTab := hide hTab
  have hs0 : 1 < w.heap.size := lt_of_cell (hTab 0 (by omega))
  clear hTab
  go_enter Tryz.func9, Tryz.ntmps9
  go_wp2_with fail
  refine (made_new 128 (by omega) (by omega) w HTab.out).mono ?_
  rintro e w1 ⟨t, p, b, m, sm, rb, r, rfl, g1, g2, g3, g4, g5, g6, g7, hO, hTr1, hA1, hT1⟩
  have HTr1 := hide hTr1
  have HA1 := hide hA1
  have HT1 := hide hT1
  have h1s := hT1.size
  have h128 := noPages_left r 128 (by omega)
  have HPu := hide (put_nil t p b m sm rb (St.new 128) (noPages r) _ ⟨none, 0, false, 0, .slice none 0 0⟩ rfl rfl hO rfl (by simp) (by simp) (by simp) ⟨#[97]⟩ ⟨#[49]⟩ (by decide) (by decide) (by decide) w1 hA1 hTr1)
  have ht1 := hTr1.lt
  have hp1 := hA1.pg.lt
  have hb1 := hA1.disk.lt
  have hm1 := hA1.disk.ltm
  have hsm1 := hA1.pg.lts
  clear hTr1 hA1 hT1
  go_wp2_with fail
  refine HPu.out.mono ?_
  rintro e w2 ⟨rfl, a, g, cap, ha, hg, hga, hL2, hTr2, hA2, hT2⟩
  have HL2 := hide hL2
  have ha2 : a < w2.heap.size := hL2.place.lt
  have HTr2 := hide hTr2
  have HA2 := hide hA2
  have HT2 := hide (HT1.out.then hT2 (by simp; omega))
  have h2s := hT2.size
  have HLq : Hid (0 + 1 ≤ ({ noPages r with rd := true } : Pg).left (St.new 128).n ∧ 0 < ({ noPages r with rd := true } : Pg).left (St.new 128).n) := by
    show 0 + 1 ≤ (noPages r).left 128 ∧ 0 < (noPages r).left 128
    rw [h128]
    omega
  have HCo := hide (commit_fresh t p b m sm rb (St.new 128) { noPages r with rd := true } _ _ rfl rfl (by show 0 < 1000000; omega) (by show 0 < 999000; omega) (by show (-1 : Int) < 0; omega) HLq.out hO a 0 g 0 cap [(⟨#[97]⟩, ⟨#[49]⟩)] ⟨by omega, by omega, by omega, by omega, by omega, by omega, by omega⟩ ⟨by omega, by omega, by omega, by omega, by omega, by omega⟩ (by simp) (by intro x hx; simp at hx; subst hx; exact ⟨by decide, by decide⟩) (by decide) rfl (by simp) (by simp) rfl rfl w2 (by omega) hA2 hTr2 hL2)
  clear hL2 hTr2 hA2 hT2 h128
  go_wp2_with fail
  refine HCo.out.mono ?_
  rintro e w3 ⟨rfl, k, s3, q3, sm3, rb3, hk0, hd3, hq3, hn3, hl3, hk3, hu3, hsm3, hrb3, hrb3l, hL3, hTr3, hA3, hT3⟩
  have HL3 := hide hL3
  have HTr3 := hide hTr3
  have HA3 := hide hA3
  have HT3 := hide (HT2.out.then hT3 (by simp; omega))
  have h3s := hT3.size
  have HOv := hide (put_over t p b m sm3 rb3 s3 q3 _ ⟨some a, 0 + 1, false, 0, .slice none 0 0⟩ hd3 hq3 ⟨hO.one, hO.p, hO.b, hO.m, by omega, by omega⟩ a k 1 g 0 cap ⟨#[97]⟩ ⟨#[50]⟩ ⟨#[49]⟩ rfl ⟨by omega, by omega, by omega, by omega, by omega, by omega, by omega⟩ ⟨by omega, by omega, by omega, by omega, by omega, by omega⟩ (by simp) (fun e => by omega) (fun _ => rfl) (by simp) (by decide) (by decide) (by decide) (by decide +kernel) w3 hA3 hTr3 hL3)
  clear hL3 hTr3 hA3 hT3
  go_wp2_with fail
  refine HOv.out.mono ?_
  rintro e w4 ⟨rfl, hL4, ⟨S4, hTr4⟩, hA4, hT4⟩
  have HL4 := hide hL4
  have HTr4 := hide hTr4
  have HT4 := hide (HT3.out.then hT4 (by simp; omega))
  clear hL4 hTr4 hA4 hT4
  go_wp2_with fail
  refine (abort_some t p a (0 + 1) S4 w4 HTr4.out).mono ?_
  rintro e w5 ⟨rfl, hTr5, hT5⟩
  have HL5 : Hid (LeafAt w5 a k 1 g 0 cap [(⟨#[97]⟩, ⟨#[49]⟩)]) := ⟨HL4.out.place.turn hT5 (by simp; omega), .inr rfl, HL4.out.kv.turn hT5 (fun x _ hx => by obtain rfl := Option.some.inj hx; simp; omega), HL4.out.cap⟩
  have HTr5 := hide hTr5
  have HT5 := hide (HT4.out.then hT5 (by simp; omega))
  clear hTr5 hT5
  go_wp2_with fail
  refine (get_leaf t p a k 1 g 0 cap [(⟨#[97]⟩, ⟨#[49]⟩)] _ ⟨some a, 0 + 1, false, 0, .slice none 0 0⟩ rfl (fun _ => by omega) (by simp [Rises, keysOf]) (by simp) ⟨#[97]⟩ w5 HTr5.out HL5.out).mono ?_
  rintro e w6 ⟨val, f, rfl, hG, _, hT6⟩
  obtain ⟨rfl, rfl⟩ : f = true ∧ (⟨#[49]⟩ : ByteArray) = val := by
    rcases hG with ⟨rfl, i, hi, _, e⟩ | ⟨_, _, h⟩
    · have : i = 0 := by simpa using hi
      subst this
      exact ⟨rfl, e⟩
    · exact absurd rfl (h (⟨#[97]⟩, ⟨#[49]⟩) (by simp))
  have HT6 := hide (HT5.out.then hT6 (by simp; omega))
  clear hG hT6
  go_wp2_with fail
  go_ret
  exact ⟨rfl, HT6.out⟩
end Go.Proofs.YthehkckdecckhaaGreatDoor
