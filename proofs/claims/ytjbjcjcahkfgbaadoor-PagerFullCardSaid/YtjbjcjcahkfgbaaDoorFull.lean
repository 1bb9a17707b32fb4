/-
  The law PagerFull, walked.
-/
import Derived.Test.YtjbjcjcahkfgbaaDoorInts
namespace Go.Proofs.YtjbjcjcahkfgbaaDoor
open Go.RowKit Go.Maps

/-- Where the law's loop stands: i pages xs were allocated. -/
structure FullAt (w0 wr : World) (p b m sm rb N i : Nat) (s : St) (q : Pg) (v : Value) (xs : List Nat) : Prop where
  pat : PAt wr p b m sm rb s q
  live : s.dead = false
  qlive : q.dead = false
  n : s.n = N
  k : s.k ≤ 3 * i
  left : s.left < 0
  u : q.u ≤ i
  row : IntsAt wr v xs
  len : xs.length = i
  off : ∀ g, v.ownBlock = some g → g ≠ p ∧ g ≠ b ∧ g ≠ m ∧ g ≠ sm ∧ g ≠ rb ∧ w0.heap.size ≤ g
  room : q.left N + i = N - 4
  there : ∀ x ∈ xs, 4 ≤ x ∧ x < N ∧ q.there x = true
  nodup : xs.Nodup
  si : ∀ k, q.si k ≠ 2
  rbl : rb < wr.heap.size
  ge : w0.heap.size ≤ p ∧ w0.heap.size ≤ b ∧ w0.heap.size ≤ m ∧ w0.heap.size ≤ sm
  turn : Turn [] w0 wr

theorem Pg.tk_there {q : Pg} {N x : Nat} (h : q.there x = true) : q.tk N x = true := by
  unfold Pg.there at h
  unfold Pg.tk
  simp at h
  rcases h.1 with h | h <;> simp [h]

theorem Pg.there_alloced {q : Pg} {k x : Nat} (hx : q.there x = true) (hne : x ≠ k) : (q.alloced k).there x = true := by
  unfold Pg.there Pg.alloced setB at *
  simp [hne]
  simpa using hx

theorem Pg.there_committed {q : Pg} {root : List Nat} {x : Nat} : (q.committed root).there x = q.there x := by
  unfold Pg.there Pg.committed Pg.there
  simp

theorem bytes_marked (w : World) (l : List Nat) (t : TypeId) (fr : Nat × Nat) : BytesAt (w.alloc (.cells (l.map byteCell).toArray t fr)) (some ⟨w.heap.size, 0, none⟩) l := by
  refine .inr ⟨w.heap.size, 0, rfl, fun i hi => ?_⟩
  rw [Nat.zero_add, World.cell?_alloc_mark, List.getElem?_toArray, List.getElem?_map, List.getElem?_eq_getElem hi, List.getD_eq_getElem?_getD, List.getElem?_eq_getElem hi]
  rfl

theorem text_new : (textOf [110, 101, 119]).toList = [110, 101, 119] := by decide +kernel

/-- The pages of xs that were freed. -/
def Pg.less (q : Pg) (xs : List Nat) (j : Nat) : Pg := { q with si := fun k => if k ∈ xs.take j then 2 else 0, rd := true, u := j }

theorem Pg.less_zero {q : Pg} (xs : List Nat) (h : q.si = fun _ => 0) (hr : q.rd = true) (hu : q.u = 0) : q.less xs 0 = q := by
  unfold Pg.less
  cases q
  simp at h hr hu
  simp [h, hr, hu]

theorem mem_take_succ {xs : List Nat} {j : Nat} (hj : j < xs.length) (k : Nat) : k ∈ xs.take (j + 1) ↔ k ∈ xs.take j ∨ k = xs[j] := by
  rw [List.take_succ_eq_append_getElem hj, List.mem_append, List.mem_singleton]

theorem Pg.less_succ {q : Pg} {xs : List Nat} {j : Nat} (hj : j < xs.length) : (q.less xs j).freed xs[j] = q.less xs (j + 1) := by
  unfold Pg.freed
  have h1 : (q.less xs j).si xs[j] ≠ 1 := by
    show (if xs[j] ∈ xs.take j then 2 else 0) ≠ 1
    split <;> omega
  rw [if_neg h1]
  unfold Pg.less
  simp only
  congr 1
  funext k
  unfold setB
  by_cases e : k = xs[j]
  · rw [if_pos e, if_pos ((mem_take_succ hj k).2 (.inr e))]
  · rw [if_neg e]
    show (if k ∈ xs.take j then 2 else 0) = _
    by_cases h : k ∈ xs.take j
    · rw [if_pos h, if_pos ((mem_take_succ hj k).2 (.inl h))]
    · rw [if_neg h, if_neg (fun hm => by rcases (mem_take_succ hj k).1 hm with h' | h'; exact h h'; exact e h')]

theorem Pg.less_there {q : Pg} {xs : List Nat} {j : Nat} (hn : xs.Nodup) (hj : j < xs.length) (hK : q.K xs[j] = true) : (q.less xs j).there xs[j] = true := by
  have hnot : xs[j] ∉ xs.take j := by
    intro hm
    have hd : (xs.take (j + 1)).Nodup := hn.sublist (List.take_sublist _ _)
    rw [List.take_succ_eq_append_getElem hj] at hd
    have := List.nodup_append.1 hd
    exact this.2.2 _ hm _ (by simp) rfl
  unfold Pg.there Pg.less
  simp [hK, hnot]

/-- Each that is let go makes room for one. -/
theorem left_less {q : Pg} {N : Nat} (hN : N ≤ 16384) {xs : List Nat} (hs : q.si = fun _ => 0) (hn : xs.Nodup) (hK : ∀ x ∈ xs, q.K x = true ∧ 4 ≤ x ∧ x < N) (root : List Nat) : ∀ j, j ≤ xs.length → ((q.less xs j).committed root).left N = q.left N + j := by
  intro j
  induction j with
  | zero =>
    intro _
    unfold Pg.left
    rw [Nat.add_zero]
    apply freeCount_congr
    intro k _
    unfold Pg.tk Pg.committed Pg.there Pg.less
    simp [hs]
  | succ j ih =>
    intro hj
    have hjl : j < xs.length := by omega
    rw [← Nat.add_assoc, ← ih (by omega)]
    obtain ⟨h1, h2, h3⟩ := hK xs[j] (List.getElem_mem hjl)
    have hth := Pg.less_there (q := q) hn hjl h1
    have ht : ((q.less xs j).committed root).tk N xs[j] = true := Pg.tk_there (by rw [Pg.there_committed]; exact hth)
    have := fc_less (((q.less xs j).committed root).tk N) xs[j] 16384 (by omega) ht
    unfold Pg.left
    rw [← this]
    apply freeCount_congr
    intro k _
    have e4 : ¬ xs[j] < 4 := by omega
    have e5 : ¬ N ≤ xs[j] := by omega
    have hm := mem_take_succ hjl k
    unfold Pg.tk Pg.committed Pg.there Pg.less
    by_cases e : k = xs[j]
    · have h9 : k ∈ xs.take (j + 1) := hm.2 (.inr e)
      rw [e] at h9 ⊢
      simp [e4, e5, h9]
    · by_cases h : k ∈ xs.take j
      · have h9 : k ∈ xs.take (j + 1) := hm.2 (.inl h)
        simp [e, h, h9]
      · have h9 : k ∉ xs.take (j + 1) := fun hx => by rcases hm.1 hx with h' | h'; exact h h'; exact e h'
        simp [e, h, h9]

set_option maxRecDepth 100000 in
set_option maxHeartbeats 3200000 in
theorem full_any (x y : Int) (w : World) (hTab : Tab w) : Calls Tryd.prog 5 #[.int .i64 x, .int .i64 y] w fun e w' => e = .returned (.bool true) ∧ Turn [] w w' := by
  have HTab := hide hTab
  have hcv := fun (w : World) (C : Array Value) (n c : Nat) => Lib.run_convert_bytes_const (P := Tryd.prog) w 34 5 C n c Tryd.underlying34 Tryd.underlying5
  clear hTab
  go_enter Tryd.func5, Tryd.ntmps5
  go_wp2_with fail
  refine (known_any w HTab.out).mono ?_
  rintro e w1 ⟨rfl, hT1⟩
  have HTab1 := hide (HTab.out.turn hT1 (by simp))
  go_wp2_with fail
  refine (within_any x 80 (by omega) (by omega) w1).mono ?_
  rintro e w2 ⟨⟨k, hk, rfl⟩, rfl⟩
  obtain ⟨N, hN⟩ : ∃ N, N = 64 + k := ⟨_, rfl⟩
  have hNI : (64 : Int) + (k : Int) = (N : Int) := by omega
  have hN1 : 64 ≤ N := by omega
  have hN2 : N ≤ 143 := by omega
  clear hN
  go_wp2_with fail
  refine (new_any N (by omega) (by omega) w2).mono ?_
  rintro e w3 ⟨rfl, hD3, hT3, hs3⟩
  have HD3 := hide hD3
  have HTab3 := hide (HTab1.out.turn hT3 (by simp))
  have hs3' : w2.heap.size + 1 < w3.heap.size := by omega
  have hs0 : 0 < w2.heap.size := lt_of_cell (HTab1.out 0 (by omega))
  have hT03 : Turn [] w w3 := hT1.then hT3 (by simp)
  have h1s := hT1.size
  clear hD3 hs3 hT3 hT1
  generalize hm : w2.heap.size = m at *
  clear hm
  go_wp2_with fail
  refine (open_any (m + 1) m (St.new N) 0 [] (fun _ => false) (Laid.new (by omega) (by omega)) rfl w3 HD3.out HTab3.out ⟨by omega, hs0⟩).mono ?_
  rintro e w4 ⟨p, sm, rb, hp1, hp2, hp3, hp4, rfl, hA4, hT4⟩
  have hF0 : FullAt w w4 p (m + 1) m sm rb N 0 (St.new N) ⟨false, 0, [], fun _ => false, fun _ => 0, false, 0⟩ (.slice none 0 0) [] :=
    ⟨hA4, rfl, rfl, rfl, Nat.le_refl _, by show (-1 : Int) < 0; omega, Nat.le_refl _, IntsAt.nil _, rfl, by simp [Value.ownBlock], by rw [Pg.left_new N (by omega)]; rfl, by simp, List.nodup_nil, by simp, hp4, ⟨by omega, by omega, by omega, by omega⟩, hT03.then hT4 (by simp)⟩
  have HF0 := hide hF0
  clear hF0 hA4
  go_wp2_with fail
  go_loopw [9, 10] (fun v i wr => ∃ (j sm rb : Nat) (s : St) (q : Pg) (xs : List Nat), i = .int .i64 j ∧ FullAt w wr p (m + 1) m sm rb N j s q v xs) (fun _ i _ => 300 - (intOf i).toNat)
  case atStart => exact ⟨0, sm, rb, _, _, [], rfl, HF0.out⟩
  case round =>
    obtain ⟨j, sm, rb, s, q, xs, rfl, hF⟩ := hrel
    have hroom := hF.room
    have hj : j ≤ N - 4 := by omega
    have HF := hide hF
    have hsn := hF.n
    obtain ⟨lf, hlf⟩ : ∃ lf, lf = q.left N := ⟨_, rfl⟩
    have hlle := left_le q N
    rw [← hlf] at hroom hlle
    have HLf := hide (left_any p (m + 1) m sm rb s q hF.live wr hF.pat)
    rw [hsn, ← hlf] at HLf
    have HlfE := hide hlf
    clear hF hlf HF0 hsn
    go_wp2_with fail
    refine HLf.out.mono ?_
    rintro e w5 ⟨rfl, hA5, hT5⟩
    have HA5 := hide (hA5.turn0 ((Turn.refl [] w5).alloc (.cells #[.int .u8 (j : Nat)] 5)))
    have HB5 := hide (one_byte w5 j)
    have hw5p := hA5.pg.lt
    have hT05 : Turn [p] wr (w5.alloc (.cells #[.int .u8 (j : Nat)] 5)) := hT5.alloc _
    clear hA5 hT5
    have hoff := HF.out.off
    have hS5 : ∀ g, u9.ownBlock = some g → g ∉ [p] := fun g hg => by have := hoff g hg; simp; omega
    have HI6 := hide (HF.out.row.turn hT05 hS5)
    have hplr := HF.out.pat.pg.lt
    have h5s := hT05.size
    have hkk := HF.out.k
    have huu := HF.out.u
    have Hth5 : Hid (∀ (x : Nat), x ∈ xs → q.tk N x = true) := fun x hx => Pg.tk_there (HF.out.there x hx).2.2
    clear hoff hS5
    go_wp2_with fail
    refine (alloc_any p (m + 1) m sm rb s { q with rd := true } HF.out.live HF.out.qlive (by show q.u < 1000000000; omega) (by omega) _ 1 [j] 1 rfl (by omega) (by simp; omega) _ HB5.out (fun x _ hx => by obtain rfl := Option.some.inj hx; show w5.heap.size ≠ p; omega) HA5.out).mono ?_
    rintro e w7 hpost
    rcases hpost with ⟨rfl, hfull, hA7, hT7⟩ | ⟨kk, rfl, hNx, _, hA7, hT7⟩ | ⟨kk, _, _, h, _⟩
    · -- full
      have hl0 : lf = 0 := by
        rw [HlfE.out]
        exact (Pg.left_zero _ _).2 fun k hk => by have := hfull k hk; rw [HF.out.n] at this; exact this
      subst hl0
      have hxl := HF.out.len
      have hge := HF.out.ge
      have hw0 : 0 < w.heap.size := lt_of_cell (HTab.out 0 (by omega))
      have hS7 : ∀ g, u9.ownBlock = some g → g ∉ [p, m + 1, m, sm] := fun g hg => by have := HF.out.off g hg; simp; omega
      have HI7 := hide (HI6.out.turn hT7 hS7)
      have Hoff7 := hide HF.out.off
      have hT07 : Turn [] w w7 := (HF.out.turn.then hT05 (by simp; omega)).then hT7 (by simp; omega)
      have hsz5 : wr.heap.size ≤ w7.heap.size := Nat.le_trans h5s hT7.size
      have hrb7 := HF.out.rbl
      have hpl7 := hA7.pg.lt
      have HA7 := hide (hA7.turn0 ((Turn.refl [] w7).alloc (.cells #[.int .u8 102, .int .u8 117, .int .u8 108, .int .u8 108] 5 (4, 5))))
      have HB7 : Hid (BytesAt (w7.alloc (.cells #[.int .u8 102, .int .u8 117, .int .u8 108, .int .u8 108] 5 (4, 5))) (some ⟨w7.heap.size, 0, none⟩) [102, 117, 108, 108]) := bytes_marked w7 [102, 117, 108, 108] 5 (4, 5)
      obtain ⟨a9, c9, h9⟩ := HI7.out.slice
      have hx1 : xs.length = N - 4 := by omega
      have hx2 : ¬ ((xs.length : Int) < (N : Int) - 32) := by omega
      have hT07' : Turn [] w (w7.alloc (.cells #[.int .u8 102, .int .u8 117, .int .u8 108, .int .u8 108] 5 (4, 5))) := hT07.alloc _
      have hx3 : 60 ≤ xs.length := by omega
      have hx4 : xs.length ≤ 139 := by omega
      subst h9
      have hjk : j ≤ 139 := by omega
      have hk3 : s.k ≤ 500 := by omega
      clear hA7 hT7 HI6 HA5 HB5 hfull hx1 hxl hroom hNI
      go_wp2_with fail
      refine (commit_any p (m + 1) m sm rb s { q with rd := true } HF.out.live HF.out.qlive (by omega) _ 4 [102, 117, 108, 108] 4 rfl (by omega) (by simp) (by simp) _ HA7.out HB7.out (fun x _ hx => by obtain rfl := Option.some.inj hx; show w7.heap.size ≠ p; omega) (by simp; omega)).mono ?_
      rintro e w8 hpost
      rcases hpost with ⟨rfl, _, _, ⟨s8, sm8, rb8, hd8, hn8, hk8, hl8, hf8, hsm8, hrb8, hrb8l, hA8⟩, hT8⟩ | ⟨_, h, _⟩
      · obtain ⟨q8, hq8⟩ : ∃ q8, q8 = ({ q with rd := true } : Pg).committed [102, 117, 108, 108] := ⟨_, rfl⟩
        rw [← hq8] at hA8
        have h7w : w7.heap.size < (w7.alloc (.cells #[.int .u8 102, .int .u8 117, .int .u8 108, .int .u8 108] 5 (4, 5))).heap.size := by simp
        have HA8 := hide hA8
        have HN8 : Hid (s8.n = N) := hn8.trans HF.out.n
        have HL8 := hide (hl8 HF.out.left)
        have hk8' : s8.k ≤ 1000 := by omega
        have Hth8 : Hid (∀ x ∈ xs, q8.K x = true ∧ 4 ≤ x ∧ x < N) := fun x hx => by
          obtain ⟨h1, h2, h3⟩ := HF.out.there x hx
          exact ⟨by rw [hq8]; exact h3, h1, h2⟩
        have Hsi8 : Hid (q8.si = fun _ => 0) := by show _ = _; rw [hq8]; rfl
        have Hq8 : Hid (q8.rd = true ∧ q8.u = 0 ∧ q8.dead = false) := by show _ ∧ _; rw [hq8]; exact ⟨rfl, rfl, HF.out.qlive⟩
        have Hlf8 : Hid (q8.left N = 0) := by
          show _ = _
          rw [hq8, Pg.left_committed (q := { q with rd := true }) [102, 117, 108, 108] HF.out.si, Pg.left_rd]
          exact HlfE.out.symm
        have Hoff8 : Hid (∀ g, (Value.slice a9 xs.length c9).ownBlock = some g → g ≠ p ∧ g ≠ m + 1 ∧ g ≠ m ∧ g ≠ sm8 ∧ g ≠ rb8 ∧ w.heap.size ≤ g ∧ g < w8.heap.size) := fun g hg => by
          have h1 := Hoff7.out g hg
          have h2 := HI7.out.lt g hg
          have := hT8.size
          exact ⟨h1.1, h1.2.1, h1.2.2.1, by omega, by omega, h1.2.2.2.2.2, by omega⟩
        have HI8 := hide ((HI7.out.turn ((Turn.refl [] w7).alloc (.cells #[.int .u8 102, .int .u8 117, .int .u8 108, .int .u8 108] 5 (4, 5))) (by simp)).turn hT8 (fun g hg => by have := Hoff7.out g hg; simp; omega))
        have Hnd := hide HF.out.nodup
        have hT08 : Turn [] w w8 := hT07'.then hT8 (by simp; omega)
        have h7s8 := hT07.size
        clear hA8 hT8 HA7 HB7 hq8 HI7 Hoff7 HF hl8 hn8 hk8 hf8
        go_wp2_with fail
        refine (within_any y xs.length (by omega) (by omega) w8).mono ?_
        rintro e w9 ⟨⟨g0, hg0, rfl⟩, rfl⟩
        obtain ⟨G, hG⟩ : ∃ G, G = 1 + g0 := ⟨_, rfl⟩
        have hGI : (1 : Int) + (g0 : Int) = (G : Int) := by omega
        have hG1 : 1 ≤ G := by omega
        have hG2 : G ≤ xs.length := by omega
        clear hG
        go_wp2_with fail
        go_loopw [14] (fun i wr2 => ∃ j2 : Nat, j2 ≤ G ∧ i = .int .i64 j2 ∧ PAt wr2 p (m + 1) m sm8 rb8 s8 (q8.less xs j2) ∧ IntsAt wr2 (.slice a9 xs.length c9) xs ∧ Turn [] w wr2 ∧ w9.heap.size ≤ wr2.heap.size) (fun i _ => G - (intOf i).toNat)
        case atStart => exact ⟨0, Nat.zero_le _, rfl, by rw [Pg.less_zero xs Hsi8.out Hq8.out.1 Hq8.out.2.1]; exact HA8.out, HI8.out, hT08, Nat.le_refl _⟩
        case round =>
          obtain ⟨j2, hj2, rfl, hA2, hI2, hT2, hsz2⟩ := hrel
          by_cases hlt : j2 < G
          · obtain ⟨g, cap', he, hc⟩ := hI2.get (i := j2) (by omega)
            obtain ⟨h1, h2, h3⟩ := Hth8.out xs[j2] (List.getElem_mem (by omega))
            have Hti : Hid ((q8.less xs j2).thereI s8.n (xs[j2] : Nat) = true) := by
              show _ = _
              unfold Pg.thereI
              rw [HN8.out]
              have e1 : (4 : Int) ≤ ((xs[j2] : Nat) : Int) := by omega
              have e2 : ((xs[j2] : Nat) : Int) < (N : Int) := by omega
              rw [decide_eq_true e1, decide_eq_true e2]
              show (true && true && (q8.less xs j2).there xs[j2]) = true
              rw [Pg.less_there Hnd.out (by omega) h1]
              rfl
            have HFr := hide (free_yes p (m + 1) m sm8 rb8 s8 (q8.less xs j2) hd8 Hq8.out.2.2 (by show j2 < 1000000000; omega) xs[j2] Hti.out wr hA2)
            rw [Pg.less_succ (by omega)] at HFr
            have HI2 := hide hI2
            have e9 : a9 = some ⟨g, 0, none⟩ ∧ c9 = cap' := by
              injection he with e1 e2 e3
              exact ⟨e1, e3⟩
            obtain ⟨rfl, rfl⟩ := e9
            have hoffg := Hoff8.out g rfl
            clear hA2 hI2 he Hti
            generalize xs[j2] = xj at *
            go_wp2_with fail
            refine HFr.out.mono ?_
            rintro e w10 ⟨rfl, hA10, hT10⟩
            have HA10 := hide hA10
            have HI10 := hide (HI2.out.turn hT10 (fun g' hg' => by have := Hoff8.out g' hg'; simp; omega))
            have hT010 := hT2.then hT10 (by simp; omega)
            have h10s := hT10.size
            clear hA10 hT10
            go_wp2_with fail
            go_roundw
            case rel => exact ⟨j2 + 1, by omega, by go_num, HA10.out, HI10.out, hT010, by omega⟩
            case measure => simp [intOf]; omega
          · obtain rfl : j2 = G := by omega
            have hlle : ((q8.less xs j2).committed [108, 101, 115, 115]).left N = q8.left N + j2 := left_less (by omega) Hsi8.out Hnd.out Hth8.out _ j2 hG2
            rw [Hlf8.out, Nat.zero_add] at hlle
            have HLe := hide hlle
            have hpl2 := hA2.pg.lt
            have HA2 := hide (hA2.turn0 ((Turn.refl [] wr).alloc (.cells #[.int .u8 108, .int .u8 101, .int .u8 115, .int .u8 115] 5 (4, 5))))
            have HB2 : Hid (BytesAt (wr.alloc (.cells #[.int .u8 108, .int .u8 101, .int .u8 115, .int .u8 115] 5 (4, 5))) (some ⟨wr.heap.size, 0, none⟩) [108, 101, 115, 115]) := bytes_marked wr [108, 101, 115, 115] 5 (4, 5)
            clear hA2 hlle hI2
            go_wp2_with fail
            refine (commit_any p (m + 1) m sm8 rb8 s8 (q8.less xs j2) hd8 Hq8.out.2.2 (by omega) _ 4 [108, 101, 115, 115] 4 rfl (by omega) (by simp) (by simp) _ HA2.out HB2.out (fun x _ hx => by obtain rfl := Option.some.inj hx; show wr.heap.size ≠ p; omega) (by simp; omega)).mono ?_
            rintro e w11 hpost
            rcases hpost with ⟨rfl, _, _, ⟨s11, sm11, rb11, hd11, hn11, hk11, hl11, hf11, hsm11, hrb11, hrb11l, hA11⟩, hT11⟩ | ⟨_, h, _⟩
            · have HA11 := hide hA11
              have HN11 : Hid (s11.n = N) := hn11.trans HN8.out
              have hT011 : Turn [] w w11 := (hT2.alloc _).then hT11 (by simp; omega)
              have HL11 := hide (hl11 HL8.out)
              have HLf := hide (left_any p (m + 1) m sm11 rb11 s11 _ hd11 w11 hA11)
              rw [HN11.out, HLe.out] at HLf
              have h11s := hT11.size
              have h2a : wr.heap.size < (wr.alloc (.cells #[.int .u8 108, .int .u8 101, .int .u8 115, .int .u8 115] 5 (4, 5))).heap.size := by simp
              clear hA11 hT11 hf11 hl11 HA2 HB2
              go_wp2_with fail
              refine HLf.out.mono ?_
              rintro e w12 ⟨rfl, hA12, hT12⟩
              have hpl12 := hA12.pg.lt
              have HA12 := hide (hA12.turn0 ((Turn.refl [] w12).alloc (.cells #[.int .u8 110, .int .u8 101, .int .u8 119] 5 (3, 4))))
              have HB12 : Hid (BytesAt (w12.alloc (.cells #[.int .u8 110, .int .u8 101, .int .u8 119] 5 (3, 4))) (some ⟨w12.heap.size, 0, none⟩) [110, 101, 119]) := bytes_marked w12 [110, 101, 119] 5 (3, 4)
              have hT012 : Turn [] w (w12.alloc (.cells #[.int .u8 110, .int .u8 101, .int .u8 119] 5 (3, 4))) := (hT011.then hT12 (by simp; omega)).alloc _
              clear hA12 hT12
              go_wp2_with fail
              refine (alloc_any p (m + 1) m sm11 rb11 s11 { ((q8.less xs j2).committed [108, 101, 115, 115]) with rd := true } hd11 Hq8.out.2.2 (by show 0 < 1000000000; omega) (by omega) _ 3 [110, 101, 119] 3 rfl (by omega) (by simp) _ HB12.out (fun x _ hx => by obtain rfl := Option.some.inj hx; show w12.heap.size ≠ p; omega) HA12.out).mono ?_
              rintro e w13 hpost
              rcases hpost with ⟨rfl, hfull2, _, _⟩ | ⟨kk, rfl, hNx, _, hA13, hT13⟩ | ⟨kk, _, _, h, _⟩
              · exfalso
                rw [HN11.out] at hfull2
                have e0 := (Pg.left_zero _ _).2 hfull2
                rw [Pg.left_rd, HLe.out] at e0
                omega
              · have hkr := hNx.range
                have HA13 := hide hA13
                have hT013 : Turn [] w w13 := hT012.then hT13 (by have := hT012.size; simp; omega)
                have hkN : kk < N := by rw [← HN11.out]; exact hkr.2.1
                have hk4 := hkr.1
                have Hti : Hid (Pg.thereI (({ ((q8.less xs j2).committed [108, 101, 115, 115]) with rd := true } : Pg).alloced kk) (s11.did kk (bytesOf 512 (pageB [110, 101, 119]))).n (kk : Nat) = true) := by
                  show Pg.thereI _ s11.n (kk : Nat) = true
                  rw [HN11.out]
                  unfold Pg.thereI
                  have e1 : (4 : Int) ≤ ((kk : Nat) : Int) := by omega
                  have e2 : ((kk : Nat) : Int) < (N : Int) := by omega
                  rw [decide_eq_true e1, decide_eq_true e2]
                  show (true && true && Pg.there _ kk) = true
                  rw [Pg.alloced_there]
                  rfl
                have htn := text_new
                clear hA13 hT13 hNx hkr HA12 HB12
                go_wp2_with fail
                refine (read_yes p (m + 1) m sm11 rb11 (s11.did kk (bytesOf 512 (pageB [110, 101, 119]))) (({ ((q8.less xs j2).committed [108, 101, 115, 115]) with rd := true } : Pg).alloced kk) hd11 Hq8.out.2.2 kk Hti.out [110, 101, 119] (by simp) (St.did_f_same _ _ _) w13 HA13.out).mono ?_
                rintro e w14 ⟨g, o, hg1, hg2, rfl, hB14, _, _, hT14⟩
                have hcv14 := text_at hB14 3 3 rfl
                have hT014 : Turn [] w w14 := hT013.then hT14 (by simp; omega)
                clear hB14 hT14
                go_wp2_with fail
                go_ret
                exact ⟨rfl, hT014⟩
              · exact absurd h (by have := HL11.out; omega)
            · exact absurd h (by have := HL8.out; omega)
      · exact absurd h (by have := HF.out.left; omega)
    · -- a page
      have hl1 : (({ q with rd := true } : Pg).alloced kk).left N + 1 = lf := by
        rw [HlfE.out]
        have := Pg.left_alloced (q := { q with rd := true }) (N := N) (k := kk) (by rw [← HF.out.n]; exact hNx)
        exact this
      have hl2 : 0 < lf := by omega
      have hkr := hNx.range
      have hS7 : ∀ g, u9.ownBlock = some g → g ∉ [p, m + 1, m, sm] := fun g hg => by have := HF.out.off g hg; simp; omega
      have HI7 := hide (HI6.out.turn hT7 hS7)
      have HA7 := hide hA7
      have HNx := hide hNx
      have hT07 : Turn [] w w7 := (HF.out.turn.then hT05 (by have := HF.out.ge; simp; omega)).then hT7 (by have := HF.out.ge; simp; omega)
      have h7s := hT7.size
      have hxl := HF.out.len
      clear hA7 hNx hT7 HI6 HA5 HB5
      go_wp2_with (first | (at_builtin; refine append_int rfl _ _ rfl u9 xs kk rfl HI7.out rfl (by omega) ?_; intro v' w8 hI8 hT8 hb8'; have HI8 := hide hI8; have HT8 := hide hT8; have HB8 := hide hb8'; clear hI8 hT8 hb8') | fail)
      all_goals
        have hge := HF.out.ge
        have hpl7 := HA7.out.pg.lt
        have hsl7 := HA7.out.pg.lts
        have hbl7 := HA7.out.disk.lt
        have hml7 := HA7.out.disk.ltm
        have hrb7 := HF.out.rbl
        have hsz5 : wr.heap.size ≤ w7.heap.size := Nat.le_trans h5s h7s
        have hw0 : 0 < w.heap.size := lt_of_cell (HTab.out 0 (by omega))
        obtain ⟨HA8, hT08, h8s⟩ : Hid (PAt w8 p (m + 1) m sm rb (s.did kk (bytesOf 512 (pageB [j]))) (({ q with rd := true } : Pg).alloced kk)) ∧ Turn [] w w8 ∧ w7.heap.size ≤ w8.heap.size := by
          rcases HT8.out with h | ⟨g, hg, h⟩
          · exact ⟨HA7.out.turn0 h, hT07.then h (by simp), h.size⟩
          · have ho := HF.out.off g hg
            have h0g : 0 < g := by omega
            exact ⟨HA7.out.turn h (by simp; omega) (by simp; omega) (by simp; omega) (by simp; omega) (by simp; omega) (by simp; omega), hT07.then h (by simp; omega), h.size⟩
        have Hoff8 : Hid (∀ g, v'.ownBlock = some g → g ≠ p ∧ g ≠ m + 1 ∧ g ≠ m ∧ g ≠ sm ∧ g ≠ rb ∧ w.heap.size ≤ g) := fun g hg => by
          rcases HB8.out with h | ⟨g', h1, h2⟩
          · exact HF.out.off g (h ▸ hg)
          · obtain rfl : g' = g := by rw [h1] at hg; exact Option.some.inj hg
            have := hT07.size
            omega
        have Hlen8 : Hid ((xs ++ [kk]).length = j + 1) := by show _ = _; rw [List.length_append]; show xs.length + 1 = _; omega
        have Hnot : Hid (kk ∉ xs) := fun hm => by
          have h1 := Hth5.out kk hm
          have h2 := HNx.out.2.1
          rw [HF.out.n] at h2
          have h3 : ({ q with rd := true } : Pg).tk N kk = q.tk N kk := rfl
          rw [h3, h1] at h2
          cases h2
        have Hthere8 : Hid (∀ x ∈ xs ++ [kk], 4 ≤ x ∧ x < N ∧ (({ q with rd := true } : Pg).alloced kk).there x = true) := fun x hx => by
          rcases List.mem_append.1 hx with h | h
          · obtain ⟨h1, h2, h3⟩ := HF.out.there x h
            exact ⟨h1, h2, Pg.there_alloced (q := { q with rd := true }) h3 (fun e => Hnot.out (e ▸ h))⟩
          · obtain rfl := List.mem_singleton.1 h
            exact ⟨hkr.1, by rw [← HF.out.n]; exact hkr.2.1, Pg.alloced_there _ _⟩
        have Hnd8 : Hid ((xs ++ [kk]).Nodup) := List.nodup_append.2 ⟨HF.out.nodup, by simp, fun a ha b hb => by rw [List.mem_singleton.1 hb]; exact fun e => Hnot.out (e ▸ ha)⟩
        have Hsi8 : Hid (∀ k, (({ q with rd := true } : Pg).alloced kk).si k ≠ 2) := fun k => by
          show setB q.si kk 1 k ≠ 2
          unfold setB
          split
          · omega
          · exact HF.out.si k
        have Hroom8 : Hid ((({ q with rd := true } : Pg).alloced kk).left N + (j + 1) = N - 4) := by show _ = _; omega
        have Hleft8 : Hid ((s.did kk (bytesOf 512 (pageB [j]))).left < 0) := by
          show (if s.left < 0 then s.left else s.left - 1) < 0
          rw [if_pos HF.out.left]
          exact HF.out.left
        clear HT8 HB8 HA7 HI7 Hth5 Hnot hkr HNx
      · -- with a Commit
        have HA8' := hide (HA8.out.turn0 ((Turn.refl [] w8).alloc (.cells #[.int .u8 (j : Nat)] 5)))
        have HB8' := hide (one_byte w8 j)
        have hpl8 := HA8.out.pg.lt
        refine (commit_any p (m + 1) m sm rb (s.did kk (bytesOf 512 (pageB [j]))) (({ q with rd := true } : Pg).alloced kk) HF.out.live HF.out.qlive (by show s.k + 1 < 999990; omega) _ 1 [j] 1 rfl (by omega) (by simp; omega) (by simp) _ HA8'.out HB8'.out (fun x _ hx => by obtain rfl := Option.some.inj hx; show w8.heap.size ≠ p; omega) (by simp; omega)).mono ?_
        rintro e w9 hpost
        rcases hpost with ⟨rfl, _, _, ⟨s9, sm9, rb9, hd9, hn9, hk9, hl9, hf9, hsm9, hrb9, hrb9l, hA9⟩, hT9⟩ | ⟨_, h, _⟩
        · have hr9 : FullAt w w9 p (m + 1) m sm9 rb9 N (j + 1) s9 ((({ q with rd := true } : Pg).alloced kk).committed [j]) v' (xs ++ [kk]) := by
            have h8s' : w8.heap.size < (w8.alloc (.cells #[.int .u8 (j : Nat)] 5)).heap.size := by simp
            refine ⟨hA9, hd9, HF.out.qlive, hn9.trans HF.out.n, by rw [hk9]; show s.k + 1 + 2 ≤ _; omega, hl9 Hleft8.out, Nat.zero_le _, ?_, Hlen8.out, ?_, ?_, ?_, Hnd8.out, fun k => by simp [Pg.committed], hrb9l, ⟨hge.1, hge.2.1, hge.2.2.1, by have := hT08.size; omega⟩, ?_⟩
            · exact (HI8.out.turn ((Turn.refl [] w8).alloc (.cells #[.int .u8 (j : Nat)] 5)) (by simp)).turn hT9 (fun g hg => by have := Hoff8.out g hg; simp; omega)
            · intro g hg
              have h1 := Hoff8.out g hg
              have h2 := HI8.out.lt g hg
              exact ⟨h1.1, h1.2.1, h1.2.2.1, by omega, by omega, h1.2.2.2.2.2⟩
            · rw [Pg.left_committed [j] Hsi8.out]; exact Hroom8.out
            · intro x hx
              obtain ⟨h1, h2, h3⟩ := Hthere8.out x hx
              exact ⟨h1, h2, by rw [Pg.there_committed]; exact h3⟩
            · exact (hT08.alloc _).then hT9 (by have := hT08.size; simp; omega)
          have Hr9 := hide hr9
          clear hr9 hA9 hT9
          go_wp2_with fail
          go_roundw
          case rel => exact ⟨j + 1, sm9, rb9, s9, _, _, by go_num, Hr9.out⟩
          case measure => simp [intOf]; omega
        · exact absurd h (by have := Hleft8.out; omega)
      · go_roundw
        case rel => exact ⟨j + 1, sm, rb, _, _, _, by go_num, HA8.out, HF.out.live, HF.out.qlive, HF.out.n, by show s.k + 1 ≤ _; omega, Hleft8.out, by show q.u + 1 ≤ _; omega, HI8.out, Hlen8.out, Hoff8.out, Hroom8.out, Hthere8.out, Hnd8.out, Hsi8.out, by omega, hge, hT08⟩
        case measure => simp [intOf]; omega
    · exact absurd h (by have := HF.out.left; omega)
end Go.Proofs.YtjbjcjcahkfgbaaDoor
