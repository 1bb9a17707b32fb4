/-
  Open, walked.
-/
import Derived.Test.YthehkckdecckhaaGreatDoorU30

namespace Go.Proofs.YthehkckdecckhaaGreatDoor
open Go.RowKit Go.Maps

set_option maxRecDepth 100000 in
set_option maxHeartbeats 400000 in
theorem open_small (b m : Nat) (s : St) (hn : s.n < 64) (w : World) (hD : DiskAt w b m s) : Calls Tryz.prog 50 #[.pointer (some ⟨b, 0, none⟩)] w fun e w' => e = .returned (.tuple #[.pointer none, .int .i64 1]) ∧ w' = w := by
  have HD := hide hD
  clear hD
  go_enter Tryz.func50, Tryz.ntmps50
  go_wp2_with fail
  refine (blocks_any b m s w HD.out).mono ?_
  rintro e w1 ⟨rfl, rfl⟩
  go_wp2_with fail
  go_ret2
  exact ⟨rfl, rfl⟩

/-- A new pager's cells. -/
def pcells (b sm : Nat) : Array Value := (Value.pointer (some ⟨b, 0, none⟩) :: Value.int .i64 0 :: Value.int .i64 0 :: Value.bool false :: Value.int .i64 0 :: Value.slice none 0 0 :: Value.int .u32 0 :: Value.int .i32 0 :: Value.int .u32 0 :: (wlist (fun _ => 0) ++ [Value.map (some sm)])).toArray
def pzero : Array Value := (Value.pointer none :: Value.int .i64 0 :: Value.int .i64 0 :: Value.bool false :: Value.int .i64 0 :: Value.slice none 0 0 :: Value.int .u32 0 :: Value.int .i32 0 :: Value.int .u32 0 :: (wlist (fun _ => 0) ++ [Value.map none])).toArray
set_option maxRecDepth 100000 in
theorem zero80 (w : World) : Sem.run Tryz.prog (zeroValue 137) w = .ok (.agg pzero) w := by kernel_rfl

set_option maxRecDepth 100000 in
theorem pcells_eq (b sm : Nat) : (pzero.setIfInBounds 0 (Value.pointer (some ⟨b, 0, none⟩))).setIfInBounds 265 (Value.map (some sm)) = pcells b sm := by
  apply Array.toList_inj.1
  unfold pzero pcells
  rw [Array.toList_setIfInBounds, Array.toList_setIfInBounds, List.toList_toArray, List.toList_toArray]
  simp only [List.set_cons_zero, List.set_cons_succ]
  rw [List.set_append_right _ _ (by rw [wlist_length]; decide), wlist_length]
  rfl

set_option maxRecDepth 100000 in
theorem pcells_at (b sm i : Nat) (h : i < 256) : (pcells b sm)[9 + i]? = some (.int .u64 0) := by
  unfold pcells
  rw [List.getElem?_toArray, show 9 + i = i + 9 from Nat.add_comm _ _]
  simp only [List.getElem?_cons_succ]
  rw [List.getElem?_append_left (by rw [wlist_length]; exact h), wlist_at _ _ h]
  rfl
set_option maxRecDepth 100000 in
theorem pcells_last (b sm : Nat) : (pcells b sm)[265]? = some (.map (some sm)) := by
  unfold pcells
  rw [List.getElem?_toArray, show 265 = 256 + 9 from rfl]
  simp only [List.getElem?_cons_succ]
  rw [List.getElem?_append_right (by rw [wlist_length]; decide), wlist_length]
  rfl

set_option maxRecDepth 100000 in
/-- A new pager, in memory. -/
theorem pager_new (w : World) (b N rb : Nat) (hrb : w.heap.size + 1 ≠ rb) (K : Nat → Bool) : PgAt ((w.alloc (.map #[] 0)).alloc (.cells (pcells b w.heap.size) 137)) (w.heap.size + 1) b w.heap.size rb N 0 0 ⟨false, 0, [], K, fun _ => 0, false, 0⟩ := by
  have e : w.heap.size + 1 = (w.alloc (.map #[] 0)).heap.size := by simp
  have hc : ∀ i, ((w.alloc (.map #[] 0)).alloc (.cells (pcells b w.heap.size) 137)).cell? ⟨w.heap.size + 1, i, none⟩ = (pcells b w.heap.size)[i]? := fun i => by
    rw [e]; exact World.cell?_alloc_at _ _ _ _ rfl
  have hf : ∀ i, ((w.alloc (.map #[] 0)).alloc (.cells (pcells b w.heap.size) 137)).frozen? ⟨w.heap.size + 1, i, none⟩ = false := fun i => by
    rw [e]; exact World.frozen?_alloc_at _ _ _ _ rfl
  refine ⟨(hc 0).trans rfl, ⟨0, (hc 1).trans rfl⟩, ⟨0, (hc 2).trans rfl⟩, (hc 3).trans rfl, (hc 4).trans rfl, ⟨none, 0, (hc 5).trans rfl, .inl rfl, fun _ => rfl, fun x h => absurd rfl h⟩, (hc 6).trans rfl, (hc 7).trans rfl,
    ⟨fun _ => 0, ⟨fun i hi => (hc _).trans (pcells_at b _ i hi), hf, fun _ => by show (0 : Nat) < 18446744073709551616; decide, by simp⟩, fun n _ => by unfold bit; simp⟩, (hc 265).trans (pcells_last b _),
    ⟨0, .map [], Nat.le_refl _, (World.ownsMap_made w Tryz.prog 3 (plainElem Tryz.prog 3)).alloc _, ⟨fun kl hk => by simp [has] at hk, fun n => rfl⟩⟩, by omega, hrb⟩

/-- The head that the first i slots tell. -/
def Best (s : St) (c : Nat) (root : List Nat) (i lc : Nat) (lr : List Nat) : Prop :=
  (i = 0 ∧ lc = 0 ∧ lr = []) ∨ (i = 1 ∧ lc = hdC (fB s 0) ∧ (lc = 0 → lr = []) ∧ (0 < lc → lr = hdR (fB s 0))) ∨ (i = 2 ∧ lc = c ∧ lr = root)

set_option maxRecDepth 100000 in
theorem Best.more {s : St} {c : Nat} {root : List Nat} {K : Nat → Bool} (L : Laid s c root K) {i lc : Nat} {lr : List Nat} (h : Best s c root i lc lr) (hi : i < 2) (hg : lc < hdC (fB s i)) : Best s c root (i + 1) (hdC (fB s i)) (hdR (fB s i)) := by
  rcases h with ⟨rfl, rfl, rfl⟩ | ⟨rfl, h1, h2, h3⟩ | ⟨rfl, _⟩
  · exact .inr (.inl ⟨rfl, rfl, fun h => by omega, fun _ => rfl⟩)
  · refine .inr (.inr ⟨rfl, ?_⟩)
    by_cases h0 : c = 0
    · have := L.zero h0; omega
    · obtain ⟨e1, e2, e3⟩ := L.some (by omega)
      by_cases hp : c % 2 = 0
      · rw [hp] at e1 e2
        rw [show (c + 1) % 2 = 1 by omega] at e3
        omega
      · rw [show c % 2 = 1 by omega] at e1 e2
        exact ⟨e1, e2⟩
  · omega
set_option maxRecDepth 100000 in
theorem Best.less {s : St} {c : Nat} {root : List Nat} {K : Nat → Bool} (L : Laid s c root K) {i lc : Nat} {lr : List Nat} (h : Best s c root i lc lr) (hi : i < 2) (hg : ¬ lc < hdC (fB s i)) : Best s c root (i + 1) lc lr := by
  rcases h with ⟨rfl, rfl, rfl⟩ | ⟨rfl, h1, h2, h3⟩ | ⟨rfl, _⟩
  · exact .inr (.inl ⟨rfl, by omega, fun _ => rfl, fun h => by omega⟩)
  · refine .inr (.inr ⟨rfl, ?_⟩)
    by_cases h0 : c = 0
    · have h' := L.zero h0
      have : lc = 0 := by omega
      exact ⟨by omega, by rw [h2 this, h'.1]⟩
    · obtain ⟨e1, e2, e3⟩ := L.some (by omega)
      by_cases hp : c % 2 = 0
      · rw [hp] at e1 e2
        exact ⟨by omega, by rw [h3 (by omega), e2]⟩
      · rw [show c % 2 = 1 by omega] at e1
        rw [show (c + 1) % 2 = 0 by omega] at e3
        omega
  · omega

set_option maxRecDepth 100000 in
set_option maxHeartbeats 3200000 in
theorem open_any (b m : Nat) (s : St) (c : Nat) (root : List Nat) (K : Nat → Bool) (L : Laid s c root K) (hd : s.dead = false) (w : World) (hD : DiskAt w b m s) (hTab : Tab w) (hb0 : 1 < b ∧ 1 < m) :
    Calls Tryz.prog 50 #[.pointer (some ⟨b, 0, none⟩)] w fun e w' => ∃ p sm rb, w.heap.size ≤ p ∧ w.heap.size ≤ sm ∧ w.heap.size ≤ rb ∧ rb < w'.heap.size ∧ e = .returned (.tuple #[.pointer (some ⟨p, 0, none⟩), .int .i64 0]) ∧ PAt w' p b m sm rb s ⟨false, c, root, K, fun _ => 0, false, 0⟩ ∧ Turn [] w w' := by
  have hn1 := L.n64
  have hck := L.ck
  have hk1 := L.good.k1
  have HL := hide L
  have HD := hide hD
  have HTab := hide hTab
  have hbl := hD.lt
  have hml := hD.ltm
  have hz := zero80
  have hmm := @run_makeMap Tryz.prog
  have hpe := pcells_eq
  have hps : pzero.size = 266 := by unfold pzero; simp [wlist_length]
  have hpz : ¬ pzero = #[] := fun e => by rw [e] at hps; simp at hps
  have hp2 : ¬ pzero.size < 266 := by omega
  clear hD hTab L hps
  go_enter Tryz.func50, Tryz.ntmps50
  go_wp2_with fail
  refine (blocks_any b m s w HD.out).mono ?_
  rintro e w1 ⟨rfl, rfl⟩
  go_wp2_with fail
  have hTt : Turn [] w1 (((w1.alloc (.map #[] 0)).alloc (.cells (pcells b w1.heap.size) 137)).alloc (.cells #[.int .i64 0, .slice none 0 0] 143)) := (((Turn.refl [] w1).alloc _).alloc _).alloc _
  have HP0 := hide ((pager_new w1 b s.n (w1.heap.size + 3) (by omega) K).turn0 ((Turn.refl [] _).alloc (.cells #[.int .i64 0, .slice none 0 0] 143)))
  have HD0 := hide (HD.out.turn hTt (by simp) (by simp))
  have es : ((w1.alloc (.map #[] 0)).alloc (.cells (pcells b w1.heap.size) 137)).heap.size = w1.heap.size + 1 + 1 := by simp
  have hl0 : (((w1.alloc (.map #[] 0)).alloc (.cells (pcells b w1.heap.size) 137)).alloc (.cells #[.int .i64 0, .slice none 0 0] 143)).cell? ⟨w1.heap.size + 1 + 1, 0, none⟩ = some (.int .i64 0) := World.cell?_alloc_at _ _ _ _ es.symm
  have hl1 : (((w1.alloc (.map #[] 0)).alloc (.cells (pcells b w1.heap.size) 137)).alloc (.cells #[.int .i64 0, .slice none 0 0] 143)).cell? ⟨w1.heap.size + 1 + 1, 1, none⟩ = some (.slice none 0 0) := World.cell?_alloc_at _ _ _ _ es.symm
  have hlf : ∀ o, (((w1.alloc (.map #[] 0)).alloc (.cells (pcells b w1.heap.size) 137)).alloc (.cells #[.int .i64 0, .slice none 0 0] 143)).frozen? ⟨w1.heap.size + 1 + 1, o, none⟩ = false := fun o => World.frozen?_alloc_at _ _ _ _ es.symm
  generalize hw3 : ((w1.alloc (.map #[] 0)).alloc (.cells (pcells b w1.heap.size) 137)).alloc (.cells #[.int .i64 0, .slice none 0 0] 143) = w3 at *
  clear hw3 es hz hmm hpe hpz hp2
  have HA : Hid (Apart (w1.heap.size + 1) b m w1.heap.size (w1.heap.size + 3)) := ⟨by omega, by omega, by omega, by omega, by omega, by omega, by omega⟩
  generalize hrb0 : w1.heap.size + 3 = rb0 at *
  generalize hlb : w1.heap.size + 1 + 1 = lb at *
  generalize hpp : w1.heap.size + 1 = p at *
  have hp1 : w1.heap.size < p := by omega
  have hp2 : p < lb := by omega
  have hrb : lb < rb0 := by omega
  clear hrb0 hlb hpp
  go_loopw [17] (fun v wr => ∃ (i lc : Nat) (lr : List Nat) (ra : Option Addr) (rc : Nat), i ≤ 2 ∧ v = .int .i64 i ∧ Best s c root i lc lr ∧ wr.cell? ⟨lb, 0, none⟩ = some (.int .i64 (lc : Nat)) ∧ wr.cell? ⟨lb, 1, none⟩ = some (.slice ra lr.length rc) ∧ (∀ o, wr.frozen? ⟨lb, o, none⟩ = false) ∧ BytesAt wr ra lr ∧ (ra = none → rc = 0) ∧ (∀ x, ra = some x → lb < x.block) ∧ PgAt wr p b w1.heap.size rb0 s.n 0 0 ⟨false, 0, [], K, fun _ => 0, false, 0⟩ ∧ DiskAt wr b m s ∧ Turn [] w1 wr ∧ lb < wr.heap.size) (fun v _ => 2 - (intOf v).toNat)
  case atStart => exact ⟨0, 0, [], none, 0, by omega, rfl, .inl ⟨rfl, rfl, rfl⟩, hl0, hl1, hlf, .inl rfl, fun _ => rfl, by simp, HP0.out, HD0.out, hTt, lt_of_cell hl0⟩
  case round =>
    obtain ⟨i, lc, lr, ra, rc, hi, rfl, hBest, hc0, hc1, hcf, hB, hn, hx, hP, hDr, hTr, hsr⟩ := hrel
    have HBest := hide hBest
    have HB := hide hB
    have HN := hide hn
    have HX := hide hx
    have HP := hide hP
    have HDr := hide hDr
    have Hcf := hide hcf
    have hS0 : lb ∉ [p] := by simp; omega
    clear hBest hB hn hx hP hDr hcf HP0 HD0 hl0 hl1 hlf hTt
    by_cases hi2 : i < 2
    · have hnum := HL.out.num i hi2
      have hcl : hdC (fB s i) < 9223372036854775808 := by
        unfold hdC
        split
        · exact hnum
        · decide
      have HNum := hide hnum
      clear hnum
      go_wp2_with fail
      refine (pread_ok p b m w1.heap.size rb0 s.n 0 0 _ HA.out s HL.out.good hd i (by omega) wr HDr.out HP.out).mono ?_
      rintro e w5 ⟨rfl, hR5, hP5, hD5, hT5, _⟩
      have HR5 := hide hR5
      have HP5 := hide hP5
      have HD5 := hide hD5
      have h50 := (hT5.turn.cell (p := ⟨lb, 0, none⟩) hsr hS0).trans hc0
      have h51 := (hT5.turn.cell (p := ⟨lb, 1, none⟩) hsr hS0).trans hc1
      have Hf5 : Hid (∀ o, w5.frozen? ⟨lb, o, none⟩ = false) := fun o => (World.frozen?_of_block (a := ⟨lb, o, none⟩) (hT5.turn.block _ hsr hS0)).trans (Hcf.out o)
      have HB5 := hide (HB.out.turn hT5.turn (fun x _ h2 => by have := HX.out x h2; simp; omega))
      have hT05 : Turn [] w1 w5 := hTr.then hT5.turn (by simp; omega)
      have h5s := hT5.turn.size
      have h5l : lb < w5.heap.size := by omega
      clear hR5 hP5 hD5 hc0 hc1
      go_wp2_with fail
      refine (headOf_any wr.heap.size (fB s i) (fB_lt HL.out.byte i) HNum.out w5 HR5.out).mono ?_
      rintro e w6 ⟨ra', rc', rfl, hx6, hn6, hB6, hT6⟩
      have h60 := (hT6.cell (p := ⟨lb, 0, none⟩) h5l (by simp)).trans h50
      have h61 := (hT6.cell (p := ⟨lb, 1, none⟩) h5l (by simp)).trans h51
      have Hf6 : Hid (∀ o, w6.frozen? ⟨lb, o, none⟩ = false) := fun o => (World.frozen?_of_block (a := ⟨lb, o, none⟩) (hT6.block lb h5l (by simp))).trans (Hf5.out o)
      have hf60 := Hf6.out 0
      have hf61 := Hf6.out 1
      have HB6 := hide hB6
      have HBo6 := hide (HB5.out.turn hT6 (by simp))
      have HP6 := hide (HP5.out.turn0 hT6)
      have HD6 := hide (HD5.out.turn hT6 (by simp) (by simp))
      have hT06 : Turn [] w1 w6 := hT05.then hT6 (by simp)
      have h6s := hT6.size
      have h6l : lb < w6.heap.size := by omega
      have HX6 := hide hx6
      have HN6 := hide hn6
      have Hmore := hide (fun hg => HBest.out.more HL.out hi2 hg)
      have Hless := hide (fun hg => HBest.out.less HL.out hi2 hg)
      clear hB6 h50 h51 hx6 hn6
      generalize hdR (fB s i) = hr at *
      generalize hdC (fB s i) = hcm at *
      by_cases hg : lc < hcm
      · have Hm := hide (Hmore.out hg)
        go_wp2_with fail
        go_roundw
        case rel =>
          have hT7 : Turn [lb] w6 (((w6.setCell ⟨lb, 0, none⟩ (.int .i64 (hcm : Nat))).setCell ⟨lb, 1, none⟩ (.slice ra' hr.length rc')).alloc (.cells #[.int .i64 (hcm : Nat), .slice ra' hr.length rc'] 143)) := (((Turn.refl [lb] w6).setCell (List.mem_singleton.2 rfl) _ _).setCell (List.mem_singleton.2 rfl) _ _).alloc _
          have hl2 : lb < ((w6.setCell ⟨lb, 0, none⟩ (.int .i64 (hcm : Nat))).setCell ⟨lb, 1, none⟩ (.slice ra' hr.length rc')).heap.size := by rw [World.size_setCell, World.size_setCell]; exact h6l
          refine ⟨i + 1, hcm, hr, ra', rc', by omega, by go_num, Hm.out, ?_, ?_, ?_, ?_, HN6.out, ?_, ?_, ?_, ?_, ?_⟩
          · rw [World.cell?_alloc_past _ _ _ hl2, World.cell?_setCell_other _ _ _ _ (off_ne (by omega))]
            exact World.cell?_setCell_same _ _ _ h60
          · rw [World.cell?_alloc_past _ _ _ hl2]
            exact World.cell?_setCell_same _ _ _ ((World.cell?_setCell_other _ _ _ _ (off_ne (by omega))).trans h61)
          · intro o
            rw [World.frozen?_alloc_past _ _ _ hl2, World.frozen?_setCell, World.frozen?_setCell]
            exact Hf6.out o
          · exact HB6.out.turn hT7 (fun x _ h2 => by rw [HX6.out x h2]; simp; omega)
          · intro x h2; rw [HX6.out x h2]; exact hsr
          · exact HP6.out.turn hT7 (by simp; omega) (by simp; omega) (by simp; omega)
          · exact HD6.out.turn hT7 (by simp; omega) (by simp; omega)
          · exact hT06.then hT7 (by simp; omega)
          · have := hT7.size; omega
        case measure => simp [intOf]; omega
      · have Hm := hide (Hless.out hg)
        go_wp2_with fail
        go_roundw
        case rel =>
          have hT7 : Turn [] w6 (w6.alloc (.cells #[.int .i64 (hcm : Nat), .slice ra' hr.length rc'] 143)) := (Turn.refl [] w6).alloc _
          refine ⟨i + 1, lc, lr, ra, rc, by omega, by go_num, Hm.out, (hT7.cell (p := ⟨lb, 0, none⟩) h6l (by simp)).trans h60, (hT7.cell (p := ⟨lb, 1, none⟩) h6l (by simp)).trans h61, fun o => (World.frozen?_of_block (a := ⟨lb, o, none⟩) (hT7.block lb h6l (by simp))).trans (Hf6.out o), HBo6.out.turn hT7 (by simp), HN.out, HX.out, HP6.out.turn0 hT7, HD6.out.turn hT7 (by simp) (by simp), hT06.then hT7 (by simp), ?_⟩
          have := hT7.size; omega
        case measure => simp [intOf]; omega
    · obtain rfl : i = 2 := by omega
      obtain ⟨e1, e2⟩ : lc = c ∧ lr = root := by
        rcases HBest.out with h | h | h
        · omega
        · omega
        · exact h.2
      subst e1 e2
      have h4 : wr.cell? ⟨p, 4, none⟩ = some (.int .i64 0) := HP.out.c4
      have hf4 := HP.out.fz 4
      have hpl := HP.out.lt
      obtain ⟨rb', hrb1, hrb2, hrb3⟩ : ∃ rb', lb ≤ rb' ∧ rb' < wr.heap.size ∧ ∀ x, lr ≠ [] → ra = some x → x.block = rb' := by
        by_cases hr : lr = []
        · exact ⟨lb, Nat.le_refl _, hsr, fun x h => absurd hr h⟩
        · obtain ⟨bb, off, rfl, hcb'⟩ := HB.out.at (k := 0) (List.length_pos_iff.2 hr)
          exact ⟨bb, Nat.le_of_lt (HX.out _ rfl), lt_of_cell hcb', fun x _ hx => by obtain rfl := Option.some.inj hx; rfl⟩
      have hP4 := (HP.out.setC lc).drew
      have HB4 := hide (HB.out.turn (((Turn.refl [p] wr).setCell (List.mem_singleton.2 rfl) 4 (.int .i64 (lc : Nat))).drew) (fun x _ h2 => by have := HX.out x h2; simp; omega))
      have hP5 := hP4.setRoot ra rc rb' lr HB4.out HN.out hrb3 (by omega)
      obtain ⟨_, _, h5c, _⟩ := hP4.c5
      have hf5 := hP4.fz 5
      have h5l : ((wr.setCell ⟨p, 4, none⟩ (.int .i64 (lc : Nat))).drew).cell? ⟨lb, 1, none⟩ = some (.slice ra lr.length rc) := (World.cell?_setCell_other wr _ _ _ (fun e => by have := congrArg Addr.block e; simp at this; omega)).trans hc1
      have HP5 := hide hP5
      have HSt := hide (store_any p 4 0 (lc : Nat) wr.drew h4 hf4)
      clear hP4 hP5 HBest
      go_wp2_with fail
      go_region_with (first | (go_at_call 80; refine HSt.out.mono ?_; rintro e w8 ⟨rfl, rfl⟩))
      all_goals
        go_wp2_with fail
        go_ret2
        have hTf : Turn [p] wr (((wr.setCell ⟨p, 4, none⟩ (.int .i64 (lc : Nat))).setCell ⟨p, 5, none⟩ (.slice ra lr.length rc)).drew) := (((Turn.refl [p] wr).setCell (List.mem_singleton.2 rfl) _ _).setCell (List.mem_singleton.2 rfl) _ _).drew
        have hTz : Turn [] w1 (((wr.setCell ⟨p, 4, none⟩ (.int .i64 (lc : Nat))).setCell ⟨p, 5, none⟩ (.slice ra lr.length rc)).drew) := hTr.then hTf (by simp; omega)
        have hzs := hTf.size
        refine ⟨p, w1.heap.size, rb', by omega, Nat.le_refl _, by omega, by omega, rfl, ⟨HDr.out.turn hTf (by simp; omega) (by simp; omega), HP5.out, HL.out, ⟨HA.out.pb, HA.out.pm, HA.out.sb, HA.out.smm, by omega, by omega, by omega⟩, fun n h => by simp at h, fun n h => by simp at h, fun n => by simp, fun _ _ => rfl, HTab.out.turn hTz (by simp), ⟨by omega, hb0.1, hb0.2, by omega⟩⟩, hTz⟩
end Go.Proofs.YthehkckdecckhaaGreatDoor
