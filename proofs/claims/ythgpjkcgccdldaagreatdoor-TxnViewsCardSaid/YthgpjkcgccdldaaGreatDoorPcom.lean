/-
  Commit of a pager, walked.
-/
import Derived.Test.YthgpjkcgccdldaaGreatDoorPcommit
namespace Go.Proofs.YthgpjkcgccdldaaGreatDoor
open Go.RowKit Go.Maps

/-- A bitmap's words as cells. -/
def wlist (T : Nat → Nat) : List Value := (List.range 256).map fun i => Value.int .u64 (T i : Nat)
set_option maxRecDepth 100000 in
theorem wlist_length (T : Nat → Nat) : (wlist T).length = 256 := by simp [wlist]
set_option maxRecDepth 100000 in
theorem wlist_get (T : Nat → Nat) (j : Nat) (u : Value) (h : (wlist T)[j]? = some u) : j < 256 ∧ u = .int .u64 (T j : Nat) := by
  have hj : j < 256 := by
    rcases Nat.lt_or_ge j 256 with h' | h'
    · exact h'
    · rw [List.getElem?_eq_none (by rw [wlist_length]; exact h')] at h; cases h
  refine ⟨hj, ?_⟩
  simp [wlist, hj] at h
  exact h.symm
set_option maxRecDepth 100000 in
theorem wlist_at (T : Nat → Nat) (j : Nat) (hj : j < 256) : (wlist T)[j]? = some (.int .u64 (T j : Nat)) := by simp [wlist, hj]
set_option maxRecDepth 100000 in
theorem wlist_one (T : Nat → Nat) : ∀ v ∈ wlist T, v.oneCell' = true := by
  intro v hv
  obtain ⟨i, _, rfl⟩ := List.mem_map.1 hv
  rfl

set_option maxRecDepth 100000 in
theorem words_src {w : World} {g off : Nat} {T : Nat → Nat} (h : WordsAt w g off T) : ∀ j u, (wlist T)[j]? = some u → w.cell? ((⟨g, off, none⟩ : Addr).add j) = some u := by
  intro j u hu
  obtain ⟨hj, rfl⟩ := wlist_get T j u hu
  rw [add_spot]
  exact h.cell j hj

set_option maxRecDepth 100000 in
theorem words_load {w : World} {g off : Nat} {T : Nat → Nat} (h : WordsAt w g off T) : (loadCellsFrom ⟨g, off, none⟩ 0 256 #[]).run Tryz.prog w = .ok (wlist T).toArray w := by
  have := run_loadCells_list (P := Tryz.prog) w ⟨g, off, none⟩ (wlist T) (words_src h)
  rw [wlist_length] at this
  exact this

set_option maxRecDepth 100000 in
theorem words_new (w : World) {T : Nat → Nat} (hT : ∀ i, T i < 18446744073709551616) : WordsAt (w.alloc (.cells (wlist T).toArray 114)) w.heap.size 0 T := by
  refine ⟨fun i hi => ?_, fun o => World.frozen?_alloc_at _ _ _ _ rfl, hT, by simp⟩
  rw [Nat.zero_add, World.cell?_alloc_at _ _ _ _ rfl, List.getElem?_toArray, wlist_at T i hi]

set_option maxRecDepth 100000 in
theorem words_put {w : World} {g off : Nat} {T : Nat → Nat} (h : WordsAt w g off T) {T' : Nat → Nat} (hT : ∀ i, T' i < 18446744073709551616) : WordsAt (w.setCells g off (wlist T')) g off T' ∧ Wturn g off w (w.setCells g off (wlist T')) := by
  have hsz : ∀ (vs : List Value) (o : Nat) (w : World), (w.setCells g o vs).heap.size = w.heap.size := by
    intro vs
    induction vs with
    | nil => intro o w; rfl
    | cons v vs ih => intro o w; show ((w.setCell _ _).setCells g (o + 1) vs).heap.size = _; rw [ih, World.size_setCell]
  refine ⟨⟨fun i hi => ?_, fun o => by rw [World.frozen?_setCells]; exact h.fz o, hT, by rw [hsz]; exact h.blk⟩, ⟨setCells_turn (S := [g]) (by simp) _ _ (Turn.refl _ _), fun o ho => ?_⟩⟩
  · have := World.cell?_setCells_in g (wlist T') off w (fun j hj => by rw [h.cell j (by rw [wlist_length] at hj; exact hj)]; rfl) i (by rw [wlist_length]; exact hi)
    rw [this]
    have := wlist_at T' i hi
    rw [List.getElem?_eq_getElem (by rw [wlist_length]; exact hi)] at this
    exact this
  · exact World.cell?_setCells_out g _ off w ⟨g, o, none⟩ (fun _ _ => by rw [wlist_length]; exact ho)

def zw : Array Value := (wlist fun _ => 0).toArray
set_option maxRecDepth 100000 in
theorem zero78 (w : World) : Sem.run Tryz.prog (zeroValue 114) w = .ok (.agg zw) w := by kernel_rfl
set_option maxRecDepth 100000 in
theorem info78 : (Tryz.prog.info? 114).map (·.size) = some 256 := by kernel_rfl
set_option maxRecDepth 100000 in
theorem size78 (w : World) : Sem.run Tryz.prog (sizeOf 114) w = .ok 256 w := by kernel_rfl

/-- Behind a Commit. -/
def Pg.committed (q : Pg) (root : List Nat) : Pg := { dead := q.dead, c := q.c + 1, root := root, K := q.there, si := fun _ => 0, rd := true, u := 0 }

set_option maxRecDepth 100000 in
set_option maxHeartbeats 1600000 in
theorem commit_long (p b m sm rb : Nat) (s : St) (q : Pg) (hd : s.dead = false) (hq : q.dead = false) (a : Option Addr) (cap n : Nat) (hn : 64 < n) (_hn2 : n ≤ maxLen) (w : World) (hA : PAt w p b m sm rb s q) :
    Calls Tryz.prog 103 #[.pointer (some ⟨p, 0, none⟩), .slice a n cap] w fun e w' => e = .returned (.int .i64 5) ∧ PAt w' p b m sm rb s q ∧ Turn [p] w w' := by
  have HI := hide (isDead_no p b m sm rb s.n q.word 0 q s hq hd w hA.disk hA.pg hA.apart)
  have HA := hide hA
  clear hA
  go_enter Tryz.func103, Tryz.ntmps103
  go_wp2_with fail
  refine HI.out.mono ?_
  rintro e w1 ⟨rfl, hP1, hD1, hT1⟩
  have HA1 : Hid (PAt w1 p b m sm rb s q) := ⟨hD1, hP1, HA.out.laid, HA.out.apart, HA.out.s1, HA.out.s2, HA.out.s3, HA.out.s0, HA.out.tab.turn hT1 (by have := HA.out.pos.1; simp; omega), HA.out.pos⟩
  clear hP1 hD1
  go_wp2_with fail
  go_ret
  exact ⟨rfl, HA1.out, hT1⟩

set_option maxRecDepth 100000 in
set_option maxHeartbeats 1600000 in
theorem commit_dead (p b m sm rb : Nat) (s : St) (q : Pg) (hd : s.dead = true) (hq : q.dead = false) (a : Option Addr) (cap n : Nat) (w : World) (hA : PAt w p b m sm rb s q) :
    Calls Tryz.prog 103 #[.pointer (some ⟨p, 0, none⟩), .slice a n cap] w fun e w' => e = .returned (.int .i64 12) ∧ Turn [p] w w' := by
  have HI := hide (isDead_yes p b m sm rb s.n q.word 0 q s hq hd w hA.disk hA.pg hA.apart)
  clear hA
  go_enter Tryz.func103, Tryz.ntmps103
  go_wp2_with fail
  refine HI.out.mono ?_
  rintro e w1 ⟨rfl, _, _, hT1⟩
  go_wp2_with fail
  go_ret
  exact ⟨rfl, hT1⟩

set_option maxRecDepth 100000 in
set_option maxHeartbeats 3200000 in
theorem commit_any (p b m sm rb : Nat) (s : St) (q : Pg) (hd : s.dead = false) (hq : q.dead = false) (hk : s.k < 999990) (a : Option Addr) (cap : Nat) (root : List Nat) (n : Nat) (hn : root.length = n) (hl : n ≤ 64) (hrb : ∀ x ∈ root, x < 256) (hnil : a = none → cap = 0)
    (w : World) (hA : PAt w p b m sm rb s q) (hB : BytesAt w a root) (hx : ∀ x, root ≠ [] → a = some x → x.block ≠ p) (_hrl : rb < w.heap.size) :
    Calls Tryz.prog 103 #[.pointer (some ⟨p, 0, none⟩), .slice a n cap] w fun e w' =>
      (e = .returned (.int .i64 0) ∧ s.left ≠ 0 ∧ s.left ≠ 1 ∧ (∃ s' sm' rb', s'.dead = false ∧ s'.n = s.n ∧ s'.k = s.k + 2 ∧ (s.left < 0 → s'.left < 0) ∧ (∀ k, 4 ≤ k → s'.f k = s.f k) ∧ w.heap.size ≤ sm' ∧ w.heap.size ≤ rb' ∧ rb' < w'.heap.size ∧ PAt w' p b m sm' rb' s' (q.committed root)) ∧ Turn [p, b, m] w w') ∨
      (e = .returned (.int .i64 12) ∧ (s.left = 0 ∨ s.left = 1) ∧ (∃ s', s'.dead = true ∧ s'.n = s.n ∧ Laid s' q.c q.root q.K ∧ (∀ k, 4 ≤ k → s'.f k = s.f k) ∧ DiskAt w' b m s') ∧ Turn [p, b, m] w w') := by
  have HI := hide (isDead_no p b m sm rb s.n q.word 0 q s hq hd w hA.disk hA.pg hA.apart)
  have HA := hide hA
  have HB := hide hB
  have HX := hide hx
  have HN := hide hn
  have HRb := hide hrb
  have hpl := hA.pg.lt
  have hbl := hA.disk.lt
  have hml := hA.disk.ltm
  have hsl := hA.pg.lts
  have hz := zero78
  clear hA hB hx hn hrb
  go_enter Tryz.func103, Tryz.ntmps103
  go_wp2_with fail
  refine HI.out.mono ?_
  rintro e w1 ⟨rfl, hP1, hD1, hT1⟩
  have HA1 : Hid (PAt w1 p b m sm rb s q) := ⟨hD1, hP1, HA.out.laid, HA.out.apart, HA.out.s1, HA.out.s2, HA.out.s3, HA.out.s0, HA.out.tab.turn hT1 (by have := HA.out.pos.1; simp; omega), HA.out.pos⟩
  clear hP1 hD1
  go_wp2_with fail
  refine (freeMap_any p b m sm rb s q hd w1 HA1.out).mono ?_
  rintro e w2 ⟨rfl, hA2, hT2⟩
  obtain ⟨T, hW, hbt⟩ := hA2.pg.wd
  obtain ⟨N, hN, hld⟩ : ∃ N : Nat, (∀ w, Sem.run Tryz.prog (sizeOf 114) w = .ok N w) ∧ (loadCellsFrom ⟨p, 9, none⟩ 0 N #[]).run Tryz.prog w2 = .ok (wlist T).toArray w2 := ⟨256, size78, words_load hW⟩
  have HA2 := hide hA2
  have HBt : Hid (∀ k, k < 16384 → bit T k = q.tk s.n k) := fun k hk => by rw [hbt k hk]; rfl
  have HTl := hide hW.lt
  have hT02 := hT1.trans hT2
  have hst := run_storeCells_new (P := Tryz.prog) w2 114 zw (wlist T).toArray (by rw [List.size_toArray, wlist_length]; exact info78) (by show (wlist fun _ => 0).toArray.size = _; rw [List.size_toArray, List.size_toArray, wlist_length, wlist_length]) (all_oneCell_toArray (wlist_one T))
  have hsz : (wlist T).toArray.size = N := by
    have e := hN w2
    rw [size78] at e
    have : 256 = N := by injection e
    rw [← this, List.size_toArray, wlist_length]
  have hcs2 := hA2.pg.cs
  have hpl2 := hA2.pg.lt
  obtain ⟨nn, D, hnn, hM, hS⟩ := hA2.pg.since
  have hM3 := hM.alloc (.cells (wlist T).toArray 114)
  have HM3 := hide hM3
  have HS := hide hS
  clear hA2 hW hbt hT1 hT2 HA1 hM hM3 hnn hS
  go_wp2_with (first
    | (at_range; refine wpList_range_own _ rfl _ 111 rfl 3 3 law3 Tryz.underlying111 _ sm nn D rfl HM3.out ?_; intro w0 hrg0 hg0 hs0)
    | go_in)
  go_frame
  have hsz3 : (w2.alloc (.cells (wlist T).toArray 114)).heap.size = w2.heap.size + 1 := by simp
  rw [hsz3] at hrg0 hs0 ⊢
  have hT0 : Turn [] w2 w0 := ((Turn.refl [] w2).alloc (.cells (wlist T).toArray 114)).then (turn_of_none hg0) (by simp)
  have HW0 := hide ((words_new w2 HTl.out).turn (turn_of_none hg0) (by simp))
  have hsm2 : sm < w2.heap.size := Nat.lt_of_lt_of_le hsl hT02.size
  clear hld hst hsz hN hz hg0 HM3 hsz3
  go_loopw [6] (fun _ wr => ∃ (left : Lit → Bool) (cnt : Nat) (T' : Nat → Nat), wr.ranges Tryz.prog 3 (plainElem Tryz.prog 3) sm (w2.heap.size + 1) nn D left cnt ∧ (∀ kl, left kl = true → has D kl = true) ∧ WordsAt wr w2.heap.size 0 T' ∧ Swept T T' q.si 2 left ∧ Turn [] w2 wr)
    (fun _ wr => wr.rangeLeft sm (w2.heap.size + 1))
  case atStart => exact ⟨_, _, T, hrg0, fun _ h => h, HW0.out, Swept.start HS.out T (by omega), hT0⟩
  case round =>
    obtain ⟨left, cnt, T', hrg, hleft, hW', hsw, hTr⟩ := hrel
    have HLeft := hide hleft
    have HW' := hide hW'
    have HSw := hide hsw
    clear hleft hW' hsw hrg0 hT0 HW0 hs0
    go_wp2_with (first
      | (at_next; refine wpList_next_ranges_ii _ rfl _ rfl 3 3 .i64 .i64 law3 Tryz.underlying3 Tryz.underlying3 sm (w2.heap.size + 1) nn _ _ _ rfl hrg ?_ ?_)
      | go_in)
    · intro _ hl0
      have HSd := hide (HSw.out.done hl0)
      have HAr := hide (HA2.out.turn0 hTr)
      have h4 : wr.cell? ⟨p, 4, none⟩ = some (.int .i64 (q.c : Nat)) := HAr.out.pg.c4
      have hck := HA.out.laid.ck
      obtain ⟨c', hc'⟩ : ∃ c', c' = q.c + 1 := ⟨_, rfl⟩
      have HC' := hide hc'
      have hcc : ((q.c : Nat) : Int) + 1 = (c' : Int) := by omega
      have hcb : q.c < 1000000 := by omega
      have hT0r : Turn [p] w wr := hT02.then hTr (by simp)
      have HBr := hide (HB.out.turn hT0r (fun x h1 h2 => by have := HX.out x h1 h2; simp; omega))
      have HCl := hide (clone_any a cap root n HN.out (by omega) hnil wr HBr.out)
      have hplr := HAr.out.pg.lt
      have hnxr := HW'.out.blk
      have hsw := hT0r.size
      have h2r := hTr.size
      have h02 := hT02.size
      clear hrg HLeft HSw hl0 hc' hck
      go_wp2_with fail
      refine (load_any p 4 _ wr h4).mono ?_
      rintro e w5 ⟨rfl, rfl⟩
      go_wp2_with fail
      refine HCl.out.mono ?_
      rintro e w6 ⟨a', cc, rfl, hB6, hn6, hx6, hT6⟩
      have HB6 := hide (hB6.turn ((Turn.refl [] w6).alloc (.cells #[.int .i64 (c' : Nat), .slice a' n cc] 118)) (by simp))
      have HX6 := hide hx6
      have HN6 := hide hn6
      have hT67 : Turn [] w5 (w6.alloc (.cells #[.int .i64 (c' : Nat), .slice a' n cc] 118)) := hT6.alloc _
      have HA7 := hide (HAr.out.turn0 hT67)
      have HW7 := hide (HW'.out.turn hT67 (by simp))
      have hk71 : (w6.alloc (.cells #[.int .i64 (c' : Nat), .slice a' n cc] 118)).cell? ⟨w6.heap.size, 1, none⟩ = some (.slice a' n cc) := World.cell?_alloc_at _ _ _ _ rfl
      have hkl7 : w6.heap.size < (w6.alloc (.cells #[.int .i64 (c' : Nat), .slice a' n cc] 118)).heap.size := by simp
      have h6s := hT6.size
      have HWc := hide (writeCommit_any p b m sm rb w2.heap.size s { q with rd := true } hd (by omega) T' a' cc root n HN.out hl HRb.out (w6.alloc (.cells #[.int .i64 (c' : Nat), .slice a' n cc] 118)) HA7.out HW7.out ⟨by omega, by omega, by omega⟩ HB6.out (fun x h1 h2 => by have := HX6.out x h2; omega))
      have hq1 : ({ q with rd := true } : Pg).c + 1 = c' := HC'.out.symm
      rw [hq1] at HWc
      clear hB6 hx6 hn6 hq1
      go_wp2_with fail
      refine HWc.out.mono ?_
      rintro e w8 hpost
      rcases hpost with ⟨rfl, hl0, hl1, hD8, hP8, hT8⟩ | ⟨rfl, hor, hs', hT8⟩
      · have hP9 := hP8.setC c'
        have h48 : w8.cell? ⟨p, 4, none⟩ = some (.int .i64 (q.c : Nat)) := hP8.c4
        have hf48 := hP8.fz 4
        obtain ⟨_, _, h58, _⟩ := hP8.c5
        have hf58 := hP8.fz 5
        have h18 : w8.cell? ⟨w6.heap.size, 1, none⟩ = some (.slice a' n cc) := (hT8.cell (p := ⟨w6.heap.size, 1, none⟩) hkl7 (by simp; omega)).trans hk71
        have hB8 : BytesAt w8 a' root := HB6.out.turn hT8 (fun x h1 h2 => by have := HX6.out x h2; simp; omega)
        have hW8 : WordsAt w8 w2.heap.size 0 T' := HW7.out.turn hT8 (by simp; omega)
        have hTc : Turn [p] w8 (w8.setCell ⟨p, 4, none⟩ (.int .i64 (c' : Nat))) := (Turn.refl [p] w8).setCell (List.mem_singleton.2 rfl) _ _
        have hTd : Turn [p] w8 ((w8.setCell ⟨p, 4, none⟩ (.int .i64 (c' : Nat))).setCell ⟨p, 5, none⟩ (.slice a' n cc)) := hTc.setCell (List.mem_singleton.2 rfl) _ _
        have h8s := hT8.size
        obtain ⟨rb', hrb1, hrb2, hrb3⟩ : ∃ rb', w5.heap.size ≤ rb' ∧ rb' < w8.heap.size ∧ ∀ x, root ≠ [] → a' = some x → x.block = rb' := by
          by_cases hr : root = []
          · exact ⟨w6.heap.size, h6s, by omega, fun x h => absurd hr h⟩
          · obtain ⟨bb, off, rfl, hcb'⟩ := hB8.at (k := 0) (List.length_pos_iff.2 hr)
            exact ⟨bb, HX6.out _ rfl, lt_of_cell hcb', fun x _ hx => by obtain rfl := Option.some.inj hx; rfl⟩
        have hB9 : BytesAt (w8.setCell ⟨p, 4, none⟩ (.int .i64 (c' : Nat))) a' root := hB8.turn hTc (fun x h1 h2 => by have := HX6.out x h2; simp; omega)
        have hP10 := hP9.setRoot a' cc rb' root hB9 HN6.out hrb3 (by omega)
        rw [HN.out] at hP10
        obtain ⟨T9, hW9, _⟩ := hP10.wd
        have hW9n : WordsAt ((w8.setCell ⟨p, 4, none⟩ (.int .i64 (c' : Nat))).setCell ⟨p, 5, none⟩ (.slice a' n cc)) w2.heap.size 0 T' := hW8.turn hTd (by simp; omega)
        obtain ⟨hWn, hTn⟩ := words_put hW9 hW8.lt
        have hst2 := run_storeCells_cells (P := Tryz.prog) p 9 (wlist T') 0 ((w8.setCell ⟨p, 4, none⟩ (.int .i64 (c' : Nat))).setCell ⟨p, 5, none⟩ (.slice a' n cc)) (fun j hj => by rw [Nat.add_zero, hW9.cell j (by rw [wlist_length] at hj; exact hj)]; rfl) (fun j _ => hW9.fz _) (wlist_one T')
        rw [Nat.add_zero] at hst2
        obtain ⟨N2, hN2, hld2, hsz2, hN0⟩ : ∃ N : Nat, (∀ w, Sem.run Tryz.prog (sizeOf 114) w = .ok N w) ∧ (loadCellsFrom ⟨w2.heap.size, 0, none⟩ 0 N #[]).run Tryz.prog ((w8.setCell ⟨p, 4, none⟩ (.int .i64 (c' : Nat))).setCell ⟨p, 5, none⟩ (.slice a' n cc)) = .ok (wlist T').toArray ((w8.setCell ⟨p, 4, none⟩ (.int .i64 (c' : Nat))).setCell ⟨p, 5, none⟩ (.slice a' n cc)) ∧ (wlist T').length = N ∧ ¬ N = 0 := ⟨256, size78, words_load hW9n, wlist_length T', by decide⟩
        have HPf := hide (hP10.newSince hTn hWn (q' := q.committed root) rfl HC'.out.symm rfl (fun _ => rfl) (fun k hk => by
          rw [HSd.out k hk, HBt.out k hk]
          show _ = (true && _)
          unfold Pg.tk Pg.committed Pg.there
          by_cases h4 : k < 4
          · by_cases e : q.si k = 2
            · have := HA.out.laid.kr k (HA.out.s2 k e); omega
            · have e' : (q.si k == 2) = false := by rw [beq_eq_false_iff_ne]; exact e
              simp [h4, e']
          · by_cases h5 : s.n ≤ k
            · by_cases e : q.si k = 2
              · have := HA.out.laid.kr k (HA.out.s2 k e); omega
              · have e' : (q.si k == 2) = false := by rw [beq_eq_false_iff_ne]; exact e
                simp [h5, e']
            · simp [h4, h5]))
        have hcsn : (((w8.setCell ⟨p, 4, none⟩ (.int .i64 (c' : Nat))).setCell ⟨p, 5, none⟩ (.slice a' n cc)).setCells p 9 (wlist T')).cell? ⟨p, 265, none⟩ = some (.map (some sm)) := (hTn.out 265 (by omega)).trans hP10.cs
        have hfn := hWn.fz 265
        have hpn := hWn.blk
        have hTn0 : Turn [p] w8 (((w8.setCell ⟨p, 4, none⟩ (.int .i64 (c' : Nat))).setCell ⟨p, 5, none⟩ (.slice a' n cc)).setCells p 9 (wlist T')) := hTd.trans hTn.turn
        have hmm := @run_makeMap Tryz.prog
        have HD8 := hide hD8
        have HTl' := hide HW'.out.lt
        have Hl0 := hide hl0
        have Hl1 := hide hl1
        have HAdd := hide (add_any p 4 q.c (by omega) w8 h48 hf48)
        rw [← HC'.out] at HAdd
        generalize hw10 : ((w8.setCell ⟨p, 4, none⟩ (.int .i64 (c' : Nat))).setCell ⟨p, 5, none⟩ (.slice a' n cc)).setCells p 9 (wlist T') = w10 at *
        clear hD8 hP8 hP9 hB8 hB9 hW8 hW9 hW9n hP10 hWn hTn hw10 HWc HW7 HA7 HB6 HCl
        go_wp2_with fail
        refine HAdd.out.mono ?_
        rintro e w9 ⟨rfl, rfl⟩
        go_wp2_with fail
        go_ret
        rw [← World.setCell_alloc_past _ _ _ _ hpn]
        have hTa : Turn [p] w8 ((w10.alloc (.map #[] 0)).setCell ⟨p, 265, none⟩ (.map (some w10.heap.size))) := (hTn0.alloc _).setCell (List.mem_singleton.2 rfl) _ _
        have hTz : Turn [p, b, m] w ((w10.alloc (.map #[] 0)).setCell ⟨p, 265, none⟩ (.map (some w10.heap.size))) := (((hT0r.mono (by simp)).trans (hT67.mono (by simp))).trans hT8).trans (hTa.mono (by simp))
        have h10s := hTn0.size
        have hzs := hTa.size
        refine .inl ⟨rfl, Hl0.out, Hl1.out, ⟨s.headed c' root T', w10.heap.size, rb', hd, rfl, rfl, ?_, fun k hk => (page_headed s c' root T' k hk).1, by omega, by omega, by omega, ?_⟩, hTz⟩
        · intro h
          have e1 : (s.mapped c' T').left = s.left := by show (if s.left < 0 then s.left else s.left - 1) = _; rw [if_pos h]
          show (if (s.mapped c' T').left < 0 then (s.mapped c' T').left else (s.mapped c' T').left - 1) < 0
          rw [e1, if_pos h]
          exact h
        · refine ⟨HD8.out.turn hTa (by simp; exact Ne.symm HA.out.apart.pb) (by simp; exact Ne.symm HA.out.apart.pm), HPf.out, ?_, ⟨HA.out.apart.pb, HA.out.apart.pm, by omega, by omega, by omega, by omega, by omega⟩, fun n h => by simp [Pg.committed] at h, fun n h => by simp [Pg.committed] at h, fun n => by simp [Pg.committed], fun h => by simp [Pg.committed] at h, ?_, ⟨HA.out.pos.1, HA.out.pos.2.1, HA.out.pos.2.2.1, by omega⟩⟩
          · have hh := HA.out.laid.headed T' HTl'.out root (by rw [HN.out]; exact hl) HRb.out q.there (fun k h4 h5 => by
              rw [HSd.out k (by have := HA.out.laid.n4096; omega), HBt.out k (by have := HA.out.laid.n4096; omega)]
              unfold Pg.tk Pg.there
              have h4' : ¬ k < 4 := by omega
              have h5' : ¬ s.n ≤ k := by omega
              simp [h4', h5']) (fun k hk => by
              unfold Pg.there at hk
              simp at hk
              rcases hk.1 with h | h
              · exact HA.out.laid.kr k h
              · exact (HA.out.s1 k h).2) (by omega)
            rw [← HC'.out] at hh
            show Laid _ (q.c + 1) root q.there
            rw [← HC'.out]
            exact hh
          · exact HA.out.tab.turn hTz (by have := HA.out.pos; simp; omega)
      · have HS' := hide hs'
        have Hor := hide hor
        clear hs' hor
        go_wp2_with fail
        go_ret
        exact .inr ⟨rfl, Hor.out, HS'.out, ((hT0r.mono (by simp)).trans (hT67.mono (by simp))).trans hT8⟩
    · intro x c w3 cnt1 hwx hwc hlx hat hrg1 hlt hg1 hs1 hen
      obtain ⟨k, rfl, rfl, hk0⟩ := HS.out.entry (HLeft.out _ hlx) hat
      have hk0' : q.si k ≠ 0 := hk0
      have hk3 := HA.out.s3 k
      have hk16 : k < 16384 := by
        have hN := HA.out.laid.n4096
        by_cases e : q.si k = 1
        · have := HA.out.s1 k e; omega
        · have e2 : q.si k = 2 := by omega
          have := HA.out.laid.kr k (HA.out.s2 k e2); omega
      have HT1 := hide (hTr.then (turn_of_grown hg1) (by simp))
      have HW1 := hide (HW'.out.turn (turn_of_grown hg1) (by simp))
      have HL1 : Hid (∀ kl, (left kl && !kl.sameKey (.int .i64 (k : Int))) = true → has D kl = true) := fun kl h => HLeft.out kl (by simp at h; exact h.1)
      have Hrg1 := hide hrg1
      have hmeas : w3.rangeLeft sm (w2.heap.size + 1) < wr.rangeLeft sm (w2.heap.size + 1) := by rw [hrg1.left_eq, hrg.left_eq]; exact hlt
      have HM := hide hmeas
      clear hrg hrg1 hat hlx hmeas hg1 hwx hwc hk0
      have hl1 : ({ q with rd := true } : Pg).si k = q.si k := rfl
      rw [hl1] at hen ⊢
      by_cases e : q.si k = 2
      · have HSh := hide (HSw.out.hit e)
        have t1 : ((q.si k : Int) == 2) = true := by rw [e]; rfl
        clear e
        go_wp2_with fail
        refine (free_any w2.heap.size 0 k T' hk16 w3 HW1.out).mono ?_
        rintro e w4 ⟨rfl, hW2, hT2⟩
        have hrg2 := Hrg1.out.kept (grown_of_turn hT2.turn) (by intro e; simp at e; omega) (by intro e; simp at e)
        go_wp2_with fail
        go_roundw
        case rel => exact ⟨_, cnt1, _, hrg2, HL1.out, hW2, HSh.out, HT1.out.then hT2.turn (by simp)⟩
        case measure =>
          rw [hrg2.left_eq, ← Hrg1.out.left_eq]
          exact HM.out
      · have HSm := hide (HSw.out.miss e)
        have t1 : ((q.si k : Int) == 2) = false := by rw [beq_eq_false_iff_ne]; omega
        go_wp2_with fail
        go_roundw
        case rel => exact ⟨_, cnt1, _, Hrg1.out, HL1.out, HW1.out, HSm.out, HT1.out⟩
        case measure => exact HM.out
end Go.Proofs.YthgpjkcgccdldaaGreatDoor
