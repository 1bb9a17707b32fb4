/-
  Left, isThere, Free, Read, Alloc of a pager, walked.
-/
import Derived.Test.YtjbjcjcahkfgbaaDoorPmap
namespace Go.Proofs.YtjbjcjcahkfgbaaDoor
open Go.RowKit Go.Maps

theorem freeCount_congr {s t : Nat → Bool} {n : Nat} (h : ∀ k, k < n → s k = t k) : freeCount s n = freeCount t n := by
  unfold freeCount
  apply List.countP_congr
  intro k hk
  rw [h k (List.mem_range.1 hk)]

theorem Tab.turn {S : List Nat} {w w' : World} (h : Tab w) (hT : Turn S w w') (h0 : 0 ∉ S) : Tab w' := fun i hi => (hT.cell (p := ⟨0, i, none⟩) (lt_of_cell (h 0 (by omega))) h0).trans (h i hi)

theorem PAt.turn {S : List Nat} {w w' : World} {p b m sm rb : Nat} {s : St} {q : Pg} (h : PAt w p b m sm rb s q) (hT : Turn S w w') (h0 : 0 ∉ S) (hp : p ∉ S) (hb : b ∉ S) (hm : m ∉ S) (hs : sm ∉ S) (hr : rb ∉ S) : PAt w' p b m sm rb s q :=
  ⟨h.disk.turn hT hb hm, h.pg.turn hT hp hs hr, h.laid, h.apart, h.s1, h.s2, h.s3, h.s0, h.tab.turn hT h0, h.pos⟩
theorem PAt.turn0 {w w' : World} {p b m sm rb : Nat} {s : St} {q : Pg} (h : PAt w p b m sm rb s q) (hT : Turn [] w w') : PAt w' p b m sm rb s q := h.turn hT (by simp) (by simp) (by simp) (by simp) (by simp) (by simp)

/-- How many can be allocated now. -/
def Pg.left (q : Pg) (N : Nat) : Nat := freeCount (q.tk N) 16384

set_option maxHeartbeats 800000 in
theorem left_any (p b m sm rb : Nat) (s : St) (q : Pg) (hd : s.dead = false) (w : World) (hA : PAt w p b m sm rb s q) :
    Calls Tryd.prog 14 #[.pointer (some ⟨p, 0, none⟩)] w fun e w' => e = .returned (.int .i64 (q.left s.n : Nat)) ∧ PAt w' p b m sm rb s { q with rd := true } ∧ Turn [p] w w' := by
  have HF := hide (freeMap_any p b m sm rb s q hd w hA)
  clear hA hd
  go_enter Tryd.func14, Tryd.ntmps14
  go_wp2_with fail
  refine HF.out.mono ?_
  rintro e w1 ⟨rfl, hA1, hT1⟩
  obtain ⟨T, hW, hb⟩ := hA1.pg.wd
  have HA1 := hide hA1
  have HE : Hid (freeCount (bit T) 16384 = q.left s.n) := freeCount_congr fun k hk => by rw [hb k hk]; rfl
  have HC := hide (countFree_any p 9 T w1 hW)
  rw [HE.out] at HC
  clear hA1 hW hb HE
  go_wp2_with fail
  refine HC.out.mono ?_
  rintro e w2 ⟨rfl, rfl⟩
  go_wp2_with fail
  go_ret
  exact ⟨rfl, HA1.out, hT1⟩

/-- There is such a page. -/
def Pg.there (q : Pg) (n : Nat) : Bool := (q.K n || q.si n == 1) && !(q.si n == 2)
def Pg.thereI (q : Pg) (N : Nat) (i : Int) : Bool := decide (4 ≤ i) && decide (i < N) && q.there i.toNat

theorem zero3 (w : World) : Sem.run Tryd.prog (zeroValue 3) w = .ok (.int .i64 0) w := by kernel_rfl

/-- What 'since' says of a page. -/
theorem since_look {w : World} {p b sm rb N : Nat} {d l : Int} {q : Pg} (h : PgAt w p b sm rb N d l q) (n : Nat) (hn : n ≤ 16384) : (Instr.lookup 65 (.map (some sm)) (.int .i64 (n : Nat)) false).run Tryd.prog w = .ok (.int .i64 (q.si n : Nat)) w := by
  obtain ⟨k, D, _, hM, hS⟩ := h.since
  obtain ⟨c, hrun, hat, _⟩ := hM.lookup_int law3 Tryd.underlying65 Tryd.underlying3 (zero3 w) (key3 (i := n) (by omega))
  rw [hS.at_ n] at hat
  have : (q.si n : Int) = c := by
    have := DataW.lit.inj hat
    exact (Lit.int.inj this).2
  rw [hrun, this]

set_option maxRecDepth 100000 in
set_option maxHeartbeats 1600000 in
theorem isThere_any (p b m sm rb : Nat) (s : St) (q : Pg) (hd : s.dead = false) (i : Int) (w : World) (hA : PAt w p b m sm rb s q) :
    Calls Tryd.prog 41 #[.pointer (some ⟨p, 0, none⟩), .int .i64 i] w fun e w' => e = .returned (.bool (q.thereI s.n i)) ∧ (∃ r, (q.thereI s.n i = true → r = true) ∧ PAt w' p b m sm rb s { q with rd := r }) ∧ Turn [p] w w' := by
  have h0 := hA.pg.c0
  have hn1 := hA.laid.n64
  have hn2 := hA.laid.n4096
  have HFp := hide (fun w' => firstPage_any s.n (by omega) w')
  rw [mbs_one hn1 hn2] at HFp
  have HF := hide (freeMap_any p b m sm rb s q hd w hA)
  have HA := hide hA
  clear hA hd
  by_cases h1 : 4 ≤ i
  · by_cases h2 : i < s.n
    · obtain ⟨n, rfl⟩ := Int.eq_ofNat_of_zero_le (show 0 ≤ i by omega)
      have HE : Hid (q.thereI s.n (n : Nat) = q.there n) := by
        show _ = _
        unfold Pg.thereI
        rw [decide_eq_true h1, decide_eq_true h2]
        rfl
      have t1 : decide ((n : Int) < 4) = false := by simp; omega
      have t2 : decide ((s.n : Int) ≤ (n : Int)) = false := by simp; omega
      go_enter Tryd.func41, Tryd.ntmps41
      go_wp2_with fail
      refine (blocks_any b m s w HA.out.disk).mono ?_
      rintro e w1 ⟨rfl, rfl⟩
      go_wp2_with fail
      refine (HFp.out _).mono ?_
      rintro e w2 ⟨rfl, rfl⟩
      go_wp2_with fail
      refine HF.out.mono ?_
      rintro e w3 ⟨rfl, hA3, hT3⟩
      obtain ⟨T, hW, hb⟩ := hA3.pg.wd
      have hlk := since_look hA3.pg n (by omega)
      have hcs := hA3.pg.cs
      have HA3 := hide hA3
      have HI := hide (isTaken_any p 9 n T (by omega) w3 hW)
      rw [hb n (by omega)] at HI
      have HT : Hid ((true && ({ q with rd := true } : Pg).tk s.n n) = (q.K n || q.si n == 1)) := by
        show _ = _
        unfold Pg.tk
        rw [decide_eq_false (by omega : ¬ n < 4), decide_eq_false (by omega : ¬ s.n ≤ n)]
        simp
      rw [HT.out] at HI
      have hs3 := HA.out.s3 n
      clear hA3 hW hb
      go_wp2_with fail
      refine HI.out.mono ?_
      rintro e w4 ⟨rfl, rfl⟩
      cases hk : (q.K n || q.si n == 1) with
      | true =>
        have HK := hide hk
        clear hk
        go_wp2_with fail
        go_ret
        refine ⟨?_, ⟨true, fun _ => rfl, HA3.out⟩, hT3⟩
        rw [HE.out]
        unfold Pg.there
        rw [HK.out]
        show Ending.returned (.bool ((q.si n : Int) != 2)) = _
        by_cases h : q.si n = 2
        · rw [h]; rfl
        · have : ((q.si n : Int) != 2) = true := by rw [bne_iff_ne]; omega
          rw [this]
          have : (q.si n == 2) = false := by rw [beq_eq_false_iff_ne]; exact h
          rw [this]
          rfl
      | false =>
        have HK := hide hk
        clear hk
        go_wp2_with fail
        go_ret
        refine ⟨?_, ⟨true, fun _ => rfl, HA3.out⟩, hT3⟩
        rw [HE.out]
        unfold Pg.there
        rw [HK.out]
        rfl
    · have HE : Hid (q.thereI s.n i = false) := by
        show _ = _
        unfold Pg.thereI
        rw [decide_eq_false h2]
        simp
      have t1 : decide (i < 4) = false := by simp; omega
      have t2 : decide ((s.n : Int) ≤ i) = true := by simp; omega
      go_enter Tryd.func41, Tryd.ntmps41
      go_wp2_with fail
      refine (blocks_any b m s w HA.out.disk).mono ?_
      rintro e w1 ⟨rfl, rfl⟩
      go_wp2_with fail
      refine (HFp.out _).mono ?_
      rintro e w2 ⟨rfl, rfl⟩
      go_wp2_with fail
      go_ret
      refine ⟨by rw [HE.out]; rfl, ⟨q.rd, fun h => absurd h (by rw [HE.out]; simp), HA.out⟩, Turn.refl _ _⟩
  · have HE : Hid (q.thereI s.n i = false) := by
      show _ = _
      unfold Pg.thereI
      rw [decide_eq_false h1]
      rfl
    have t1 : decide (i < 4) = true := by simp; omega
    go_enter Tryd.func41, Tryd.ntmps41
    go_wp2_with fail
    refine (blocks_any b m s w HA.out.disk).mono ?_
    rintro e w1 ⟨rfl, rfl⟩
    go_wp2_with fail
    refine (HFp.out _).mono ?_
    rintro e w2 ⟨rfl, rfl⟩
    go_wp2_with fail
    go_ret
    refine ⟨by rw [HE.out]; rfl, ⟨q.rd, fun h => absurd h (by rw [HE.out]; simp), HA.out⟩, Turn.refl _ _⟩

end Go.Proofs.YtjbjcjcahkfgbaaDoor
