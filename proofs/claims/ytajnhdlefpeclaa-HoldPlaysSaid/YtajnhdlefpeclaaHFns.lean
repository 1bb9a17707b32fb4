/-
  Total, copied, place, walked.
-/
import Derived.Test.YtajnhdlefpeclaaHMem
import Derived.Deep.RegionHeld
namespace Go.Proofs.Ytajnhdlefpeclaa.Ho
open Go.RowKit Go.Maps

theorem fold_step {ps : List (Int × Int)} {k : Nat} {s t : Int} (hk : k < ps.length) (h : (ps.drop k).foldl (fun s p => wrap64 (s + p.2)) s = t) : (ps.drop (k + 1)).foldl (fun s p => wrap64 (s + p.2)) (wrap64 (s + (ps.getD k (0, 0)).2)) = t := by
  rw [← h, List.drop_eq_getElem_cons hk, List.foldl_cons, List.getD_eq_getElem?_getD, List.getElem?_eq_getElem hk]
  rfl
theorem fold_end {ps : List (Int × Int)} {k : Nat} {s t : Int} (hk : ps.length ≤ k) (h : (ps.drop k).foldl (fun s p => wrap64 (s + p.2)) s = t) : s = t := by
  rw [← h, List.drop_of_length_le hk]
  rfl

set_option maxRecDepth 100000 in
set_option maxHeartbeats 2000000 in
theorem total_any (r : Hr) (w : World) (hlen : r.x.ps.length ≤ 1000) (hR : r.Ok w) :
    Calls Try.prog 12 #[hrV r] w fun e w' => e = .returned (.int .i64 (tot r.x)) ∧ Turn [] w w' := by
  obtain ⟨⟨id, ps, ov, un⟩, a, c⟩ := r
  have HR := hide hR
  have HS : Hid ((ps.drop 0).foldl (fun s p => wrap64 (s + p.2)) ov = tot ⟨id, ps, ov, un⟩) := rfl
  simp only at hlen
  clear hR
  go_enter Try.func12, Try.ntmps12
  go_wp2_with fail
  have HT0 : Hid (Turn [] w (w.alloc (.cells #[.int .i64 id, .slice a ps.length c, .int .i64 ov, .int .i64 un] 27))) := (Turn.refl [] w).alloc _
  go_loopw [3, 11] (fun s i wr => ∃ (k : Nat) (t : Int), k ≤ ps.length ∧ s = .int .i64 t ∧ i = .int .i64 k ∧ Hid ((ps.drop k).foldl (fun s p => wrap64 (s + p.2)) t = tot ⟨id, ps, ov, un⟩) ∧ Turn [] w wr) (fun _ i _ => ps.length - (intOf i).toNat)
  case atStart => exact ⟨0, ov, Nat.zero_le _, rfl, rfl, HS, HT0.out⟩
  case round =>
    obtain ⟨k, t, hk, rfl, rfl, HF, hT⟩ := hrel
    have HT := hide hT
    clear hT
    by_cases hlt : k < ps.length
    · obtain ⟨b, off, rfl, c0, c1⟩ := (HR.out.1.turn0 HT.out).at hlt
      have HN := hide (fold_step hlt HF.out)
      generalize ps.getD k (0, 0) = p at *
      obtain ⟨p1, p2⟩ := p
      simp only at c0 c1 HN
      have hb := lt_of_cell c0
      go_wp2_with fail
      go_roundw
      case rel => exact ⟨k + 1, _, by omega, rfl, by go_num, HN, HT.out.alloc _⟩
      case measure => simp [intOf]; omega
    · go_wp2_with fail
      go_ret
      exact ⟨ret_int (fold_end (by omega) HF.out), HT.out⟩

set_option maxRecDepth 100000 in
set_option maxHeartbeats 2000000 in
theorem rtotal_any (r : Hr) (w : World) (hlen : r.x.ps.length ≤ 1000) (hR : r.Ok w) :
    Calls Try.prog 13 #[hrV r] w fun e w' => e = .returned (.int .i64 (tot r.x)) ∧ Turn [] w w' := by
  obtain ⟨⟨id, ps, ov, un⟩, a, c⟩ := r
  have HR := hide hR
  have HS : Hid ((ps.drop 0).foldl (fun s p => wrap64 (s + p.2)) ov = tot ⟨id, ps, ov, un⟩) := rfl
  simp only at hlen
  clear hR
  go_enter Try.func13, Try.ntmps13
  go_wp2_with fail
  obtain ⟨W, hW⟩ : ∃ W, W = w.alloc (.cells #[.int .i64 id, .slice a ps.length c, .int .i64 ov, .int .i64 un] 27) := ⟨_, rfl⟩
  have hc : W.cell? ⟨w.heap.size, 1, none⟩ = some (.slice a ps.length c) := by rw [hW]; exact World.cell?_alloc_at _ _ _ _ rfl
  have HTW : Hid (Turn [] w W) := by rw [hW]; exact (Turn.refl [] w).alloc _
  have HRW := hide (HR.out.1.turn0 HTW.out)
  have hg := lt_of_cell hc
  rw [← hW]
  generalize w.heap.size = g at *
  clear hW HR
  go_loop [3, 4] (fun s i => ∃ (k : Nat) (t : Int), k ≤ ps.length ∧ s = .int .i64 t ∧ i = .int .i64 k ∧ Hid ((ps.drop k).foldl (fun s p => wrap64 (s + p.2)) t = tot ⟨id, ps, ov, un⟩)) (fun _ i => ps.length - (intOf i).toNat)
  case atStart => exact ⟨0, ov, Nat.zero_le _, rfl, rfl, HS⟩
  case round =>
    obtain ⟨k, t, hk, rfl, rfl, HF⟩ := hrel
    by_cases hlt : k < ps.length
    · obtain ⟨b, off, rfl, c0, c1⟩ := HRW.out.at hlt
      have HN := hide (fold_step hlt HF.out)
      generalize ps.getD k (0, 0) = p at *
      obtain ⟨p1, p2⟩ := p
      simp only at c0 c1 HN
      have hb := lt_of_cell c0
      go_wp2_with fail
      go_round
      case rel => exact ⟨k + 1, _, by omega, rfl, by go_num, HN⟩
      case measure => simp [intOf]; omega
    · go_wp2_with fail
      go_ret
      exact ⟨ret_int (fold_end (by omega) HF.out), HTW.out⟩

/-- How two numbers compare. -/
def cmpI (a b : Int) : Int := if a < b then -1 else if b < a then 1 else 0
theorem cmpI_neg (a b : Int) : cmpI a b < 0 ↔ a < b := by unfold cmpI; split <;> (try split) <;> omega
theorem cmpI_zero (a b : Int) : cmpI a b = 0 ↔ a = b := by unfold cmpI; split <;> (try split) <;> omega

set_option maxRecDepth 100000 in
set_option maxHeartbeats 1000000 in
theorem nan_any (a : Int) (w : World) : Calls Try.prog 27 #[.int .i64 a] w fun e w' => e = .returned (.bool false) ∧ w' = w := by
  go_enter Try.func27, Try.ntmps27
  go_wp2
  go_ret
  exact ⟨rfl, rfl⟩

set_option maxRecDepth 100000 in
set_option maxHeartbeats 1000000 in
theorem compare_any (a b : Int) (w : World) : Calls Try.prog 26 #[.int .i64 a, .int .i64 b] w fun e w' => e = .returned (.int .i64 (cmpI a b)) ∧ w' = w := by
  go_enter Try.func26, Try.ntmps26
  go_wp2_with (go_at_call 27; refine (nan_any _ _).mono ?_; rintro e w1 ⟨rfl, rfl⟩)
  all_goals
    go_ret
    refine ⟨ret_int ?_, rfl⟩
    unfold cmpI
    split <;> (try split) <;> omega

set_option maxRecDepth 100000 in
set_option maxHeartbeats 1000000 in
theorem place1_any (r : Hr) (i : Int) (w : World) : Calls Try.prog 25 #[hrV r, .int .i64 i] w fun e w' => e = .returned (.int .i64 (cmpI r.x.id i)) ∧ Turn [] w w' := by
  obtain ⟨⟨id, ps, ov, un⟩, a, c⟩ := r
  go_enter Try.func25, Try.ntmps25
  go_wp2_with fail
  refine (compare_any id i _).mono ?_
  rintro e w1 ⟨rfl, rfl⟩
  go_wp2_with fail
  go_ret
  exact ⟨rfl, (Turn.refl [] w).alloc _⟩

set_option maxRecDepth 100000 in
set_option maxHeartbeats 3200000 in
theorem search_any (a : Option Addr) (cap : Nat) (l : List Hr) (key : Int) (hs : Up (l.map Hr.x)) (hlen : l.length ≤ 1000000) (w : World) (hK : HrsAt w a l) :
    Calls Try.prog 24 #[.slice a l.length cap, .int .i64 key, .func (.func 25) #[] #[]] w fun e w' => ∃ (i : Nat), e = .returned (.tuple #[.int .i64 (i : Nat), .bool (decide (i < l.length ∧ (l.getD i Hr.nil).x.id = key))]) ∧ i ≤ l.length ∧ (∀ m, m < i → (l.getD m Hr.nil).x.id < key) ∧ (∀ m, i ≤ m → m < l.length → key ≤ (l.getD m Hr.nil).x.id) ∧ Turn [] w w' := by
  have HK := hide hK
  have HS : Hid (∀ i j, i < j → j < l.length → (l.getD i Hr.nil).x.id < (l.getD j Hr.nil).x.id) := fun i j h1 h2 => by
    have := hs.lt h1 (by rw [List.length_map]; exact h2)
    rw [map_getD, map_getD] at this
    exact this
  clear hK hs
  go_enter Try.func24, Try.ntmps24
  go_wp2_with fail
  go_loopw [9, 10] (fun i j wr => ∃ i' j' : Nat, i' ≤ j' ∧ j' ≤ l.length ∧ i = .int .i64 i' ∧ j = .int .i64 j' ∧ Hid (∀ m, m < i' → (l.getD m Hr.nil).x.id < key) ∧ Hid (∀ m, j' ≤ m → m < l.length → key ≤ (l.getD m Hr.nil).x.id) ∧ Turn [] w wr) (fun i j _ => (intOf j).toNat - (intOf i).toNat)
  case atStart => exact ⟨0, l.length, Nat.zero_le _, Nat.le_refl _, rfl, rfl, fun m h => absurd h (Nat.not_lt_zero _), fun m h h2 => absurd h2 (by omega), Turn.refl _ _⟩
  case round =>
    obtain ⟨i, j, hij, hjl, rfl, rfl, H1, H2, hT⟩ := hrel
    have HT := hide hT
    clear hT
    by_cases hlt : i < j
    · obtain ⟨h, hh, hi1, hi2⟩ : ∃ h : Nat, h = (i + j) / 2 ∧ i ≤ h ∧ h < j := ⟨_, rfl, by omega, by omega⟩
      have e1 : ((i : Int) + (j : Int)) / 2 = (h : Int) := by omega
      have hhl : h < l.length := by omega
      obtain ⟨b, off, rfl, c0, c1, c2, c3⟩ := (HK.out.turn0 HT.out).at hhl
      have hb := lt_of_cell c0
      clear hh
      have HSh : Hid (∀ m, m < h → (l.getD m Hr.nil).x.id < (l.getD h Hr.nil).x.id) := fun m hm => HS.out m h hm hhl
      have HSj : Hid (∀ m, h < m → m < l.length → (l.getD h Hr.nil).x.id < (l.getD m Hr.nil).x.id) := fun m hm hm2 => HS.out h m hm hm2
      have HX : Hid (l.getD h Hr.nil = l.getD h Hr.nil) := rfl
      generalize hr : l.getD h Hr.nil = r at c0 c1 c2 c3 HSh HSj
      have HR := hide hr
      clear hr
      go_wp2_with fail
      refine (place1_any r key _).mono ?_
      rintro e w1 ⟨rfl, hT1⟩
      have HT1 := hide (HT.out.then hT1 (by simp))
      clear hT1 c0 c1 c2 c3
      by_cases hk : cmpI r.x.id key < 0
      · have HE : Hid (∀ m, m < h + 1 → (l.getD m Hr.nil).x.id < key) := fun m hm => by
          by_cases he : m = h
          · rw [he, HR.out]; exact (cmpI_neg _ _).1 hk
          · have := HSh.out m (by omega)
            have := (cmpI_neg _ _).1 hk
            omega
        generalize cmpI r.x.id key = c at *
        go_wp2_with fail
        go_roundw
        case rel => exact ⟨h + 1, j, by omega, hjl, by go_num, rfl, HE, H2, HT1.out⟩
        case measure => simp [intOf]; omega
      · have HE : Hid (∀ m, h ≤ m → m < l.length → key ≤ (l.getD m Hr.nil).x.id) := fun m hm hm2 => by
          have hk' : ¬ r.x.id < key := fun e => hk ((cmpI_neg _ _).2 e)
          by_cases he : m = h
          · rw [he, HR.out]; omega
          · have := HSj.out m (by omega) hm2
            omega
        generalize cmpI r.x.id key = c at *
        go_wp2_with fail
        go_roundw
        case rel => exact ⟨i, h, by omega, by omega, rfl, rfl, H1, HE, HT1.out⟩
        case measure => simp [intOf]; omega
    · obtain rfl : i = j := by omega
      by_cases hil : i < l.length
      · obtain ⟨b, off, rfl, c0, c1, c2, c3⟩ := (HK.out.turn0 HT.out).at hil
        have hb := lt_of_cell c0
        have hd : decide (i < l.length ∧ (l.getD i Hr.nil).x.id = key) = decide (cmpI (l.getD i Hr.nil).x.id key = 0) := by
          rw [decide_eq_decide, cmpI_zero]
          exact ⟨fun h => h.2, fun h => ⟨hil, h⟩⟩
        obtain ⟨r, hr⟩ : ∃ r, l.getD i Hr.nil = r := ⟨_, rfl⟩
        rw [hr] at c0 c1 c2 c3
        have HD : Hid (decide (i < l.length ∧ (l.getD i Hr.nil).x.id = key) = decide (cmpI r.x.id key = 0)) := by rw [← hr]; exact hd
        clear hd hr
        go_wp2_with fail
        refine (place1_any r key _).mono ?_
        rintro e w1 ⟨rfl, hT1⟩
        have HT1 := hide (HT.out.then hT1 (by simp))
        clear hT1 c0 c1 c2 c3
        by_cases hz : cmpI r.x.id key = 0
        · rw [hz] at HD ⊢
          clear hz
          go_wp2_with fail
          refine bodyPost_ret (v := .tuple #[.int .i64 (i : Nat), .bool true]) (by simp [results, Try.results24, go_sem]) rfl ⟨i, by rw [HD.out]; rfl, hjl, H1.out, H2.out, HT1.out⟩
        · have hzb : (cmpI r.x.id key == 0) = false := by simpa using hz
          have HZ := hide hz
          clear hz
          go_wp2_with fail
          refine bodyPost_ret (v := .tuple #[.int .i64 (i : Nat), .bool false]) (by simp [results, Try.results24, go_sem]) rfl ⟨i, by rw [HD.out, decide_eq_false HZ.out], hjl, H1.out, H2.out, HT1.out⟩
      · go_wp2_with fail
        refine bodyPost_ret (v := .tuple #[.int .i64 (i : Nat), .bool false]) (by simp [results, Try.results24, go_sem]) rfl ⟨i, by rw [decide_eq_false (fun h => hil h.1)], hjl, H1.out, H2.out, HT.out⟩

set_option maxRecDepth 100000 in
set_option maxHeartbeats 1000000 in
theorem place_any (a : Option Addr) (cap : Nat) (l : List Hr) (key : Int) (hs : Up (l.map Hr.x)) (hlen : l.length ≤ 1000000) (w : World) (hK : HrsAt w a l) :
    Calls Try.prog 20 #[.slice a l.length cap, .int .i64 key] w fun e w' => ∃ f t : Nat, e = .returned (.tuple #[.int .i64 (f : Nat), .int .i64 (t : Nat)]) ∧ Place (l.map Hr.x) key f t ∧ t ≤ f + 1 ∧ Turn [] w w' := by
  have HS := hide hs
  have HC := hide (search_any a cap l key hs hlen w hK)
  clear hs hK
  go_enter Try.func20, Try.ntmps20
  go_wp2_with fail
  refine HC.out.mono ?_
  rintro e w1 ⟨i, rfl, hi, h1, h2, hT⟩
  have HT := hide hT
  have HP := hide (place_of HS.out key i (by rw [List.length_map]; exact hi) (fun m hm => by rw [map_getD]; exact h1 m hm) (fun m hm hm2 => by rw [map_getD]; exact h2 m hm (by rw [List.length_map] at hm2; exact hm2)))
  rw [List.length_map, map_getD] at HP
  clear hT h1 h2 HC
  by_cases hc : i < l.length ∧ (l.getD i Hr.nil).x.id = key
  · rw [if_pos hc] at HP
    rw [decide_eq_true hc]
    clear hc
    go_wp2_with fail
    refine bodyPost_ret (v := .tuple #[.int .i64 (i : Nat), .int .i64 ((i + 1 : Nat) : Int)]) (by simp [results, Try.results20, go_sem]) rfl ⟨i, i + 1, rfl, HP.out, Nat.le_refl _, HT.out⟩
  · rw [if_neg hc] at HP
    rw [decide_eq_false hc]
    clear hc
    go_wp2_with fail
    refine bodyPost_ret (v := .tuple #[.int .i64 (i : Nat), .int .i64 (i : Nat)]) (by simp [results, Try.results20, go_sem]) rfl ⟨i, i, rfl, HP.out, by omega, HT.out⟩

end Go.Proofs.Ytajnhdlefpeclaa.Ho
