/-
  A leaf's sizes; total.
  A branch's sizes; where a node is cut; lows and parts of nodes.
  Lows and parts of nodes.
  A sight's once, walked: the closure runs, then the word is stored and the lock is left.
  What a sight's once runs, walked: the committed keys are asked for and stored.
-/
import Derived.Test.YthgpjkcgccdldaaGreatDoorV23
import Derived.Test.YthgpjkcgccdldaaGreatDoorV09
import Derived.Test.YthgpjkcgccdldaaGreatDoorV03
import Derived.Deep.RegionWith

namespace Go.Proofs.YthgpjkcgccdldaaGreatDoor
open Go.RowKit Go.Maps

/-- Ints that a slice leads to. -/
def IntRow (w : World) (b : Nat) (l : List Nat) : Prop := ∀ i (h : i < l.length), w.cell? ⟨b, i, none⟩ = some (.int .i64 (l[i] : Nat))
theorem IntRow.turn0 {w w' : World} {b : Nat} {l : List Nat} (h : IntRow w b l) (hT : Turn [] w w') : IntRow w' b l := fun i hi => (hT.cell (p := ⟨b, i, none⟩) (lt_of_cell (h i hi)) (by simp)).trans (h i hi)

def sumN (l : List Nat) : Nat := l.foldl (· + ·) 0
theorem sumN_take (l : List Nat) (i : Nat) (h : i < l.length) : sumN (l.take (i + 1)) = sumN (l.take i) + l[i] := by
  unfold sumN
  rw [List.take_succ_eq_append_getElem h, List.foldl_append]
  rfl
theorem foldl_add (l : List Nat) (a : Nat) : l.foldl (· + ·) a = a + sumN l := by
  unfold sumN
  induction l generalizing a with
  | nil => rfl
  | cons x l ih =>
    simp only [List.foldl_cons]
    rw [ih (a + x), ih (0 + x)]
    omega
theorem sumN_append (a b : List Nat) : sumN (a ++ b) = sumN a + sumN b := by
  show (a ++ b).foldl _ 0 = _
  rw [List.foldl_append, foldl_add]
  rfl
theorem sumN_le (l : List Nat) (i : Nat) : sumN (l.take i) ≤ sumN l := by
  have h : sumN l = sumN (l.take i) + sumN (l.drop i) := by rw [← sumN_append, List.take_append_drop]
  omega

set_option maxRecDepth 100000 in
set_option maxHeartbeats 1600000 in
theorem total_any (b cap : Nat) (l : List Nat) (hlen : l.length ≤ 1000) (hsum : sumN l ≤ 1000000) (w : World) (hR : IntRow w b l) :
    Calls Tryz.prog 156 #[.slice (some ⟨b, 0, none⟩) l.length cap] w fun e w' => e = .returned (.int .i64 (sumN l : Nat)) ∧ w' = w := by
  have HR := hide hR
  clear hR
  go_enter Tryz.func156, Tryz.ntmps156
  go_wp2_with fail
  go_loop [3, 5, 8] (fun s _ i => ∃ j : Nat, j ≤ l.length ∧ i = .int .i64 j ∧ s = .int .i64 (sumN (l.take j) : Nat)) (fun _ _ i => l.length - (intOf i).toNat)
  case atStart => exact ⟨0, Nat.zero_le _, rfl, rfl⟩
  case round =>
    obtain ⟨j, hj, rfl, rfl⟩ := hrel
    have hs := sumN_le l j
    by_cases hlt : j < l.length
    · have hc := HR.out j hlt
      have hs1 := sumN_le l (j + 1)
      have HS := hide (sumN_take l j hlt)
      have hs2 : sumN (l.take j) + l[j] ≤ 1000000 := by rw [← HS.out]; omega
      clear hs1
      generalize l[j] = k at *
      generalize sumN (l.take j) = tt at *
      go_wp2_with fail
      go_round
      case rel => exact ⟨j + 1, by omega, by go_num, by rw [HS.out]; go_num⟩
      case measure => simp [intOf]; omega
    · obtain rfl : j = l.length := by omega
      go_wp2_with fail
      go_ret
      exact ⟨rfl, rfl⟩

/-- Bytes that an entry takes. -/
def kvSize (x : ByteArray × ByteArray) : Nat := 2 + x.1.size + x.2.size
def lsizes (l : List (ByteArray × ByteArray)) : List Nat := l.map kvSize

theorem info3 : (Tryz.prog.info? 3).map (fun i => (i.zero, i.size, i.bytes)) = some (some (.int .i64 0), 1, 8) := by kernel_rfl

/-- The row of sizes, as far as it was filled. -/
structure SizesAt (w : World) (b : Nat) (l : List Nat) (j : Nat) : Prop where
  done : ∀ i (h : i < l.length), i < j → w.cell? ⟨b, i, none⟩ = some (.int .i64 (l[i] : Nat))
  rest : ∀ i, i < l.length → j ≤ i → w.cell? ⟨b, i, none⟩ = some (.int .i64 0)
  fz : ∀ o, w.frozen? ⟨b, o, none⟩ = false

theorem make_ints (n : Nat) (hn : n ≤ 1000000) (w : World) : (Instr.makeSlice 60 (.int .i64 (n : Nat)) (.int .i64 (n : Nat))).run Tryz.prog w = .ok (.slice (some ⟨w.heap.size, 0, none⟩) n n) (w.alloc (.cells (List.replicate n (Value.int .i64 0)).toArray 3)) := by
  obtain ⟨i0, hi, hz0, hz1, hz2⟩ := info_parts info3
  have h := run_make (P := Tryz.prog) w 60 3 i0 (.int .i64 0) Tryz.underlying60 hi hz0 .i64 .i64 (n : Int) (n : Int) (by omega) (by omega) (by rw [hz2]; omega) (by omega)
  have e : madeCells (Value.int .i64 0).cells (((n : Nat) : Int).toNat * i0.size) = (List.replicate n (Value.int .i64 0)).toArray := by
    rw [hz1]
    apply Array.toList_inj.1
    rw [show (Value.int .i64 0).cells = #[Value.int .i64 0] from rfl, toList_madeCells_one, List.toList_toArray]
    simp
  rw [e] at h
  simpa using h

theorem SizesAt.new (w : World) (l : List Nat) : SizesAt (w.alloc (.cells (List.replicate l.length (Value.int .i64 0)).toArray 3)) w.heap.size l 0 :=
  ⟨fun i _ h => absurd h (Nat.not_lt_zero _), fun i hi _ => by
    rw [World.cell?_alloc_at _ _ _ _ rfl, List.getElem?_toArray, List.getElem?_replicate, if_pos hi], fun o => World.frozen?_alloc_at _ _ _ _ rfl⟩

theorem SizesAt.turn0 {w w' : World} {b : Nat} {l : List Nat} {j : Nat} (h : SizesAt w b l j) (hb : b < w.heap.size) (hT : Turn [] w w') : SizesAt w' b l j :=
  ⟨fun i hi hj => (hT.cell (p := ⟨b, i, none⟩) hb (by simp)).trans (h.done i hi hj), fun i hi hj => (hT.cell (p := ⟨b, i, none⟩) hb (by simp)).trans (h.rest i hi hj), fun o => (World.frozen?_of_block (a := ⟨b, o, none⟩) (hT.block b hb (by simp))).trans (h.fz o)⟩

theorem SizesAt.put {w : World} {b : Nat} {l : List Nat} {j : Nat} (h : SizesAt w b l j) (hj : j < l.length) : SizesAt (w.setCell ⟨b, j, none⟩ (.int .i64 (l[j] : Nat))) b l (j + 1) := by
  refine ⟨fun i hi hlt => ?_, fun i hi hle => ?_, fun o => by rw [World.frozen?_setCell]; exact h.fz o⟩
  · by_cases e : i = j
    · subst e
      exact World.cell?_setCell_same _ _ _ (h.rest i hi (Nat.le_refl _))
    · exact (World.cell?_setCell_other _ _ _ _ (off_ne (Ne.symm e))).trans (h.done i hi (by omega))
  · exact (World.cell?_setCell_other _ _ _ _ (off_ne (by omega))).trans (h.rest i hi (by omega))

theorem lsizes_length (l : List (ByteArray × ByteArray)) : (lsizes l).length = l.length := by simp [lsizes]

set_option maxRecDepth 100000 in
set_option maxHeartbeats 3200000 in
theorem lsizes_any (a : Option Addr) (cap : Nat) (l : List (ByteArray × ByteArray)) (hlen : l.length ≤ 1000) (hb : ∀ x ∈ l, x.1.size ≤ 1000 ∧ x.2.size ≤ 1000) (w : World) (hK : KVsAt w a l) :
    Calls Tryz.prog 234 #[.slice a l.length cap] w fun e w' => e = .returned (.slice (some ⟨w.heap.size, 0, none⟩) l.length l.length) ∧ IntRow w' w.heap.size (lsizes l) ∧ Turn [] w w' := by
  have HK := hide hK
  have hmk := make_ints l.length (by omega)
  have hN := SizesAt.new w (lsizes l)
  rw [lsizes_length] at hN
  have HN := hide hN
  have HB := hide hb
  have hT0 : Turn [] w (w.alloc (.cells (List.replicate l.length (Value.int .i64 0)).toArray 3)) := (Turn.refl [] w).alloc _
  have HT0 := hide hT0
  have hs0 : w.heap.size < (w.alloc (.cells (List.replicate l.length (Value.int .i64 0)).toArray 3)).heap.size := by simp
  clear hK hN hb hT0
  go_enter Tryz.func234, Tryz.ntmps234
  generalize (List.replicate l.length (Value.int .i64 0)).toArray = Z at *
  go_wp2_with fail
  generalize hw0 : w.alloc (.cells Z 3) = w0 at *
  clear hw0 hmk
  go_loopw [4, 5, 11] (fun _ _ i wr => ∃ j : Nat, j ≤ l.length ∧ i = .int .i64 j ∧ SizesAt wr w.heap.size (lsizes l) j ∧ Turn [] w wr ∧ w.heap.size < wr.heap.size) (fun _ _ i _ => l.length - (intOf i).toNat)
  case atStart => exact ⟨0, Nat.zero_le _, rfl, HN.out, HT0.out, hs0⟩
  case round =>
    obtain ⟨j, hj, rfl, hS, hT, hlt⟩ := hrel
    have HS := hide hS
    have HT := hide hT
    clear hS hT
    by_cases hjl : j < l.length
    · obtain ⟨b, off, rfl, hc, hd⟩ := (HK.out.turn0 HT.out).at hjl
      obtain ⟨hb1, hb2⟩ := HB.out l[j] (List.getElem_mem hjl)
      have hjs : j < (lsizes l).length := by rw [lsizes_length]; exact hjl
      have HE : Hid ((lsizes l)[j] = kvSize l[j]) := by show _ = _; simp [lsizes]
      have HSj := hide (HS.out.turn0 hlt (((Turn.refl [] wr).alloc (.cells #[.string l[j].1, .string l[j].2] 55))))
      have hz := HSj.out.rest j hjs (Nat.le_refl _)
      have hf := HSj.out.fz j
      have hbl := lt_of_cell hc
      go_wp2_with fail
      have hv : Value.int .i64 (1 + (l[j].1.size : Int) + 1 + (l[j].2.size : Int)) = .int .i64 ((lsizes l)[j] : Nat) := by
        rw [HE.out]
        unfold kvSize
        congr 1
        omega
      go_roundw
      case rel =>
        refine ⟨j + 1, by omega, by go_num, ?_, ?_, ?_⟩
        · rw [hv]
          exact (HS.out.put hjs).turn0 (by rw [World.size_setCell]; exact hlt) ((Turn.refl [] _).alloc _)
        · exact (HT.out.then ((Turn.refl [w.heap.size] wr).setCell (List.mem_singleton.2 rfl) j _) (by simp)).alloc _
        · simp
          omega
      case measure => simp [intOf]; omega
    · obtain rfl : j = l.length := by omega
      go_wp2_with fail
      go_ret
      exact ⟨rfl, fun i hi => HS.out.done i hi (by rw [lsizes_length] at hi; exact hi), HT.out⟩
end Go.Proofs.YthgpjkcgccdldaaGreatDoor

namespace Go.Proofs.YthgpjkcgccdldaaGreatDoor
open Go.RowKit Go.Maps

def kidSize (x : ByteArray × Nat) : Nat := 5 + x.1.size
def bsizes (l : List (ByteArray × Nat)) : List Nat := l.map kidSize
theorem bsizes_length (l : List (ByteArray × Nat)) : (bsizes l).length = l.length := by simp [bsizes]

set_option maxRecDepth 100000 in
set_option maxHeartbeats 3200000 in
theorem bsizes_any (a : Option Addr) (cap : Nat) (l : List (ByteArray × Nat)) (hlen : l.length ≤ 1000) (hb : ∀ x ∈ l, x.1.size ≤ 1000) (w : World) (hK : KidsAt w a l) :
    Calls Tryz.prog 239 #[.slice a l.length cap] w fun e w' => e = .returned (.slice (some ⟨w.heap.size, 0, none⟩) l.length l.length) ∧ IntRow w' w.heap.size (bsizes l) ∧ Turn [] w w' := by
  have HK := hide hK
  have hmk := make_ints l.length (by omega)
  have hN := SizesAt.new w (bsizes l)
  rw [bsizes_length] at hN
  have HN := hide hN
  have HB := hide hb
  have hT0 : Turn [] w (w.alloc (.cells (List.replicate l.length (Value.int .i64 0)).toArray 3)) := (Turn.refl [] w).alloc _
  have HT0 := hide hT0
  have hs0 : w.heap.size < (w.alloc (.cells (List.replicate l.length (Value.int .i64 0)).toArray 3)).heap.size := by simp
  clear hK hN hb hT0
  go_enter Tryz.func239, Tryz.ntmps239
  generalize (List.replicate l.length (Value.int .i64 0)).toArray = Z at *
  go_wp2_with fail
  generalize hw0 : w.alloc (.cells Z 3) = w0 at *
  clear hw0 hmk
  go_loopw [4, 5, 11] (fun _ _ i wr => ∃ j : Nat, j ≤ l.length ∧ i = .int .i64 j ∧ SizesAt wr w.heap.size (bsizes l) j ∧ Turn [] w wr ∧ w.heap.size < wr.heap.size) (fun _ _ i _ => l.length - (intOf i).toNat)
  case atStart => exact ⟨0, Nat.zero_le _, rfl, HN.out, HT0.out, hs0⟩
  case round =>
    obtain ⟨j, hj, rfl, hS, hT, hlt⟩ := hrel
    have HS := hide hS
    have HT := hide hT
    clear hS hT
    by_cases hjl : j < l.length
    · obtain ⟨b, off, rfl, hc, hd⟩ := (HK.out.turn0 HT.out).at hjl
      have hb1 := HB.out l[j] (List.getElem_mem hjl)
      have hjs : j < (bsizes l).length := by rw [bsizes_length]; exact hjl
      have HE : Hid ((bsizes l)[j] = kidSize l[j]) := by show _ = _; simp [bsizes]
      have HSj := hide (HS.out.turn0 hlt (((Turn.refl [] wr).alloc (.cells #[.string l[j].1, .pointer (some ⟨l[j].2, 0, none⟩)] 173))))
      have hz := HSj.out.rest j hjs (Nat.le_refl _)
      have hf := HSj.out.fz j
      have hbl := lt_of_cell hc
      go_wp2_with fail
      have hv : Value.int .i64 (1 + (l[j].1.size : Int) + 4) = .int .i64 ((bsizes l)[j] : Nat) := by
        rw [HE.out]
        unfold kidSize
        congr 1
        omega
      go_roundw
      case rel =>
        refine ⟨j + 1, by omega, by go_num, ?_, ?_, ?_⟩
        · rw [hv]
          exact (HS.out.put hjs).turn0 (by rw [World.size_setCell]; exact hlt) ((Turn.refl [] _).alloc _)
        · exact (HT.out.then ((Turn.refl [w.heap.size] wr).setCell (List.mem_singleton.2 rfl) j _) (by simp)).alloc _
        · simp
          omega
      case measure => simp [intOf]; omega
    · obtain rfl : j = l.length := by omega
      go_wp2_with fail
      go_ret
      exact ⟨rfl, fun i hi => HS.out.done i hi (by rw [bsizes_length] at hi; exact hi), HT.out⟩

theorem sumN_sum (l : List Nat) : sumN l = l.sum := by
  induction l with
  | nil => rfl
  | cons x l ih =>
    rw [List.sum_cons, ← ih, show sumN (x :: l) = l.foldl (· + ·) (0 + x) from rfl, foldl_add]
    omega

theorem midGo_step (all : Nat) (l : List Nat) (j best least front : Nat) (h : j < l.length) : midGo all (l.drop j) j best least front = if costN all front < least then midGo all (l.drop (j + 1)) (j + 1) j (costN all front) (front + l[j]) else midGo all (l.drop (j + 1)) (j + 1) best least (front + l[j]) := by
  rw [List.drop_eq_getElem_cons h]
  rfl

set_option maxRecDepth 100000 in
set_option maxHeartbeats 1600000 in
/-- middle. -/
theorem middle_any (b cap : Nat) (l : List Nat) (hlen : l.length ≤ 1000) (hsum : sumN l ≤ 1000000) (w : World) (hR : IntRow w b l) :
    Calls Tryz.prog 157 #[.slice (some ⟨b, 0, none⟩) l.length cap] w fun e w' => e = .returned (.int .i64 (middleN l : Nat)) ∧ w' = w := by
  have HR := hide hR
  have HT := hide (total_any b cap l hlen hsum w hR)
  clear hR
  go_enter Tryz.func157, Tryz.ntmps157
  go_wp2_with fail
  refine HT.out.mono ?_
  rintro e w1 ⟨rfl, rfl⟩
  have HA := hide (sumN_sum l)
  obtain ⟨all, hall⟩ : ∃ n, n = sumN l := ⟨_, rfl⟩
  have HAll := hide hall
  rw [← hall] at hsum ⊢
  clear hall
  go_wp2_with fail
  go_loop [4, 5, 6, 7, 8, 9, 15] (fun be le fr _ _ _ i => ∃ j best least : Nat, j ≤ l.length ∧ i = .int .i64 j ∧ be = .int .i64 best ∧ le = .int .i64 least ∧ least ≤ all ∧ fr = .int .i64 (sumN (l.take j) : Nat) ∧ Hid ((midGo all (l.drop j) j best least (sumN (l.take j))).1 = middleN l)) (fun _ _ _ _ _ _ i => l.length - (intOf i).toNat)
  case atStart =>
    refine ⟨0, 0, all, Nat.zero_le _, rfl, rfl, rfl, Nat.le_refl _, rfl, ?_⟩
    show _ = _
    rw [HAll.out, HA.out]
    rfl
  case round =>
    obtain ⟨j, best, least, hj, rfl, rfl, rfl, hle, rfl, HM⟩ := hrel
    have hs := sumN_le l j
    rw [← HAll.out] at hs
    by_cases hlt : j < l.length
    · have hc := HR.out j hlt
      have HS := hide (sumN_take l j hlt)
      have HM' : Hid ((if costN all (sumN (l.take j)) < least then midGo all (l.drop (j + 1)) (j + 1) j (costN all (sumN (l.take j))) (sumN (l.take j) + l[j]) else midGo all (l.drop (j + 1)) (j + 1) best least (sumN (l.take j) + l[j])).1 = middleN l) := by
        show _ = _
        rw [← midGo_step all l j best least _ hlt]
        exact HM.out
      clear HM
      have hs2 : sumN (l.take j) + l[j] ≤ 1000000 := by
        have := sumN_le l (j + 1)
        rw [HS.out, ← HAll.out] at this
        omega
      rw [← HS.out] at HM'
      generalize hk : l[j] = k at *
      generalize hf : sumN (l.take j) = f at *
      obtain ⟨c, hcd⟩ : ∃ c, c = costN all f := ⟨_, rfl⟩
      have hc2 : c ≤ all := by rw [hcd]; unfold costN; omega
      obtain ⟨g, hg⟩ : ∃ g, all = f + g := ⟨all - f, by omega⟩
      have HMY : Hid (c < least → (midGo all (l.drop (j + 1)) (j + 1) j c (sumN (l.take (j + 1)))).1 = middleN l) := fun hcl => by
        have := HM'.out
        rw [← hcd, if_pos hcl] at this
        exact this
      have HMN : Hid (¬ c < least → (midGo all (l.drop (j + 1)) (j + 1) best least (sumN (l.take (j + 1)))).1 = middleN l) := fun hcl => by
        have := HM'.out
        rw [← hcd, if_neg hcl] at this
        exact this
      clear HM'
      have hcg : c = max f g := by rw [hcd, hg]; unfold costN; omega
      clear hcd
      obtain ⟨al, hal⟩ : ∃ x : Int, x = (all : Int) := ⟨_, rfl⟩
      have hsub : (all : Int) - (f : Int) = (g : Nat) := by omega
      have HG := hide hg
      clear hg hal
      by_cases hfg : f ≤ g
      · obtain rfl : c = g := by omega
        have hm : max (f : Int) (c : Int) = c := by omega
        by_cases hcl : c < least
        · have HM2 := hide (HMY.out hcl)
          clear HMY HMN hcg
          go_wp2_with fail
          go_round
          case rel => exact ⟨j + 1, j, c, by omega, by go_num, rfl, by first | rfl | (congr 1; omega), hc2, by rw [HS.out]; go_num, HM2⟩
          case measure => simp [intOf]; omega
        · have HM2 := hide (HMN.out hcl)
          clear HMY HMN hcg
          go_wp2_with fail
          go_round
          case rel => exact ⟨j + 1, best, least, by omega, by go_num, rfl, rfl, hle, by rw [HS.out]; go_num, HM2⟩
          case measure => simp [intOf]; omega
      · obtain rfl : c = f := by omega
        have hm : max (c : Int) (g : Int) = c := by omega
        by_cases hcl : c < least
        · have HM2 := hide (HMY.out hcl)
          clear HMY HMN hcg
          go_wp2_with fail
          go_round
          case rel => exact ⟨j + 1, j, c, by omega, by go_num, rfl, by first | rfl | (congr 1; omega), hc2, by rw [HS.out]; go_num, HM2⟩
          case measure => simp [intOf]; omega
        · have HM2 := hide (HMN.out hcl)
          clear HMY HMN hcg
          go_wp2_with fail
          go_round
          case rel => exact ⟨j + 1, best, least, by omega, by go_num, rfl, rfl, hle, by rw [HS.out]; go_num, HM2⟩
          case measure => simp [intOf]; omega
    · obtain rfl : j = l.length := by omega
      have HM2 : Hid (best = middleN l) := by
        show _ = _
        have := HM.out
        rw [List.drop_length] at this
        exact this
      clear HM
      go_wp2_with fail
      go_ret
      exact ⟨by rw [← HM2.out]; rfl, rfl⟩

end Go.Proofs.YthgpjkcgccdldaaGreatDoor

namespace Go.Proofs.YthgpjkcgccdldaaGreatDoor
open Go.RowKit Go.Maps

set_option maxRecDepth 100000 in
set_option maxHeartbeats 1000000 in
/-- A leaf's low. -/
theorem llow_any (a : Option Addr) (cap : Nat) (l : List (ByteArray × ByteArray)) (hne : 0 < l.length) (_hlen : l.length ≤ 1000000) (w : World) (hK : KVsAt w a l) :
    Calls Tryz.prog 233 #[.slice a l.length cap] w fun e w' => e = .returned (.string l[0].1) ∧ w' = w := by
  obtain ⟨b, off, rfl, hc, _⟩ := hK.at hne
  simp only [Nat.zero_mul, Nat.add_zero] at hc
  go_enter Tryz.func233, Tryz.ntmps233
  go_wp2_with fail
  go_ret
  exact ⟨rfl, rfl⟩

set_option maxRecDepth 100000 in
set_option maxHeartbeats 1000000 in
/-- A branch's low. -/
theorem blow_any (a : Option Addr) (cap : Nat) (l : List (ByteArray × Nat)) (hne : 0 < l.length) (_hlen : l.length ≤ 1000000) (w : World) (hK : KidsAt w a l) :
    Calls Tryz.prog 238 #[.slice a l.length cap] w fun e w' => e = .returned (.string l[0].1) ∧ w' = w := by
  obtain ⟨b, off, rfl, hc, _⟩ := hK.at hne
  simp only [Nat.zero_mul, Nat.add_zero] at hc
  go_enter Tryz.func238, Tryz.ntmps238
  go_wp2_with fail
  go_ret
  exact ⟨rfl, rfl⟩

set_option maxRecDepth 100000 in
set_option maxHeartbeats 1600000 in
/-- A leaf, cut. -/
theorem lcut_any (b off n cap i : Nat) (hi : i < n) (hcap : n ≤ cap ∧ cap ≤ 9223372036854775807) (w : World) :
    Calls Tryz.prog 231 #[.slice (some ⟨b, off, none⟩) n cap, .int .i64 (i : Nat)] w fun e w' => e = .returned (.tuple #[.iface 137 (.slice (some ⟨b, off, none⟩) i cap), .iface 137 (.slice (some ⟨b, off + i * 2, none⟩) (n - i) (cap - i))]) ∧ Turn [] w w' := by
  have hil : (i : Int) ≤ (n : Int) := by omega
  have hic : (i : Int) ≤ (cap : Int) := by omega
  have hne : ¬ cap = i := by omega
  go_enter Tryz.func231, Tryz.ntmps231
  go_wp2_with fail
  go_region_with fail
  all_goals
    go_wp2_with fail
    refine bodyPost_ret (v := .tuple #[.iface 137 (.slice (some ⟨b, off, none⟩) i cap), .iface 137 (.slice (some ⟨b, off + i * 2, none⟩) (n - i) (cap - i))]) (by simp [results, Tryz.results231, go_sem]) rfl ⟨rfl, (Turn.refl [] w).drew⟩

set_option maxRecDepth 100000 in
set_option maxHeartbeats 1600000 in
/-- A branch, cut. -/
theorem bcut_any (b off n cap i : Nat) (hi : i < n) (hcap : n ≤ cap ∧ cap ≤ 9223372036854775807) (w : World) :
    Calls Tryz.prog 236 #[.slice (some ⟨b, off, none⟩) n cap, .int .i64 (i : Nat)] w fun e w' => e = .returned (.tuple #[.iface 170 (.slice (some ⟨b, off, none⟩) i cap), .iface 170 (.slice (some ⟨b, off + i * 2, none⟩) (n - i) (cap - i))]) ∧ Turn [] w w' := by
  have hil : (i : Int) ≤ (n : Int) := by omega
  have hic : (i : Int) ≤ (cap : Int) := by omega
  have hne : ¬ cap = i := by omega
  go_enter Tryz.func236, Tryz.ntmps236
  go_wp2_with fail
  go_region_with fail
  all_goals
    go_wp2_with fail
    refine bodyPost_ret (v := .tuple #[.iface 170 (.slice (some ⟨b, off, none⟩) i cap), .iface 170 (.slice (some ⟨b, off + i * 2, none⟩) (n - i) (cap - i))]) (by simp [results, Tryz.results236, go_sem]) rfl ⟨rfl, (Turn.refl [] w).drew⟩
end Go.Proofs.YthgpjkcgccdldaaGreatDoor

namespace Go.Proofs.YthgpjkcgccdldaaGreatDoor
open Go.RowKit Go.Maps

set_option maxRecDepth 100000 in
set_option maxHeartbeats 4000000 in
theorem sslow (sg sb vb : Nat) (w : World) (R : World → Prop) (h0 : w.cell? ⟨sg, 0, none⟩ = some (.int .u32 0)) (h1 : w.cell? ⟨sg, 1, none⟩ = some (.int .i32 0)) (hf : ∀ o, w.frozen? ⟨sg, o, none⟩ = false)
    (hF : Calls Tryz.prog 51 #[.pointer (some ⟨sb, 0, none⟩), .pointer (some ⟨vb, 0, none⟩)] (w.setCell ⟨sg, 1, none⟩ (.int .i32 1)) fun e w2 => e = .returned (.tuple #[]) ∧ R w2 ∧ w2.cell? ⟨sg, 0, none⟩ = some (.int .u32 0) ∧ w2.cell? ⟨sg, 1, none⟩ = some (.int .i32 1) ∧ ∀ o, w2.frozen? ⟨sg, o, none⟩ = false) :
    Calls Tryz.prog 77 #[.pointer (some ⟨sg, 0, none⟩), .func (.func 51) #[] #[.pointer (some ⟨sb, 0, none⟩), .pointer (some ⟨vb, 0, none⟩)]] w fun e w' => e = .returned (.tuple #[]) ∧ ∃ w2, R w2 ∧ w2.cell? ⟨sg, 0, none⟩ = some (.int .u32 0) ∧ w2.cell? ⟨sg, 1, none⟩ = some (.int .i32 1) ∧ w' = ((w2.setCell ⟨sg, 0, none⟩ (.int .u32 1)).drew).setCell ⟨sg, 1, none⟩ (.int .i32 0) := by
  have f0 := hf 0
  have f1 := hf 1
  have h01 : (w.setCell ⟨sg, 1, none⟩ (.int .i32 1)).cell? ⟨sg, 0, none⟩ = some (.int .u32 0) := (World.cell?_setCell_other _ _ _ _ (off_ne (by omega))).trans h0
  have hl := run_call_load (P := Tryz.prog) Tryz.func107 (by kernel_rfl) (by kernel_rfl) (by kernel_rfl) .u32 (by kernel_rfl) h01
  have hnot : ∀ (x : Bool) (w : World), (Op.unary .not (.bool x)).run Tryz.prog w = .ok (.bool (!x)) w := fun _ _ => rfl
  have HF := hide hF
  clear hF hf
  go_enter_defers Tryz.func77, Tryz.ntmps77
  go_wp2_with (first | (go_at_call 108; refine (Sm.lock_free ⟨sg, 1, none⟩ _ (by go_simp) (by go_simp)).mono ?_; rintro e w' ⟨rfl, rfl⟩) | (go_at_call 51; refine HF.out.mono ?_; rintro e w2 ⟨rfl, hR, k0, k1, kf⟩; have HR := hide hR; have HK := hide kf; clear hR kf) | (go_at_call 76; go_in))
  refine leaves_cons (f := 110) (args := #[.pointer (some ⟨sg, 0, none⟩), .bool true]) (by simp) (by simp [go_sem]) ?_
  refine (Sm.store_deferred ⟨sg, 0, none⟩ (.int .u32 0) .returning _ k0 (HK.out 0)).mono ?_
  rintro e u' w'' ⟨rfl, rfl, rfl⟩
  have hc3' : ((w2.setCell ⟨sg, 0, none⟩ (.int .u32 1)).drew).cell? ⟨sg, 1, none⟩ = some (.int .i32 1) := (World.cell?_setCell_other _ _ _ _ (off_ne (by omega))).trans k1
  have hf3' : ((w2.setCell ⟨sg, 0, none⟩ (.int .u32 1)).drew).frozen? ⟨sg, 1, none⟩ = false := (World.frozen?_setCell ..).trans (HK.out 1)
  refine leaves_cons (f := 109) (args := #[.pointer (some ⟨sg, 1, none⟩)]) (by simp [settle]) (by simp [go_sem]) ?_
  refine (Sm.unlock_deferred ⟨sg, 1, none⟩ _ _ hc3' hf3').mono ?_
  rintro e u' w'' ⟨rfl, rfl, rfl⟩
  simp [Leaves, settle, results, Tryz.results77]
  exact ⟨w2, HR.out, k0, k1, rfl⟩

set_option maxHeartbeats 1600000 in
set_option maxRecDepth 100000 in
theorem sdo (sg sb vb : Nat) (w : World) (R : World → Prop) (h0 : w.cell? ⟨sg, 0, none⟩ = some (.int .u32 0)) (h1 : w.cell? ⟨sg, 1, none⟩ = some (.int .i32 0)) (hf : ∀ o, w.frozen? ⟨sg, o, none⟩ = false)
    (hF : Calls Tryz.prog 51 #[.pointer (some ⟨sb, 0, none⟩), .pointer (some ⟨vb, 0, none⟩)] (w.setCell ⟨sg, 1, none⟩ (.int .i32 1)) fun e w2 => e = .returned (.tuple #[]) ∧ R w2 ∧ w2.cell? ⟨sg, 0, none⟩ = some (.int .u32 0) ∧ w2.cell? ⟨sg, 1, none⟩ = some (.int .i32 1) ∧ ∀ o, w2.frozen? ⟨sg, o, none⟩ = false) :
    Calls Tryz.prog 50 #[.pointer (some ⟨sg, 0, none⟩), .func (.func 51) #[] #[.pointer (some ⟨sb, 0, none⟩), .pointer (some ⟨vb, 0, none⟩)]] w fun e w' => e = .returned (.tuple #[]) ∧ ∃ w2, R w2 ∧ w2.cell? ⟨sg, 0, none⟩ = some (.int .u32 0) ∧ w2.cell? ⟨sg, 1, none⟩ = some (.int .i32 1) ∧ w' = ((w2.setCell ⟨sg, 0, none⟩ (.int .u32 1)).drew).setCell ⟨sg, 1, none⟩ (.int .i32 0) := by
  have hl := run_call_load (P := Tryz.prog) Tryz.func107 (by kernel_rfl) (by kernel_rfl) (by kernel_rfl) .u32 (by kernel_rfl) h0
  have hnot : ∀ (x : Bool) (w : World), (Op.unary .not (.bool x)).run Tryz.prog w = .ok (.bool (!x)) w := fun _ _ => rfl
  have HC := hide (sslow sg sb vb w R h0 h1 hf hF)
  clear hF hf
  go_enter Tryz.func50, Tryz.ntmps50
  go_wp2_with (first | (go_at_call 77; refine HC.out.mono ?_; rintro e w' ⟨rfl, hR⟩; have HR := hide hR; clear hR) | (go_at_call 76; go_in))
  go_end0
  exact ⟨rfl, HR.out⟩

end Go.Proofs.YthgpjkcgccdldaaGreatDoor

namespace Go.Proofs.YthgpjkcgccdldaaGreatDoor
open Go.RowKit Go.Maps

set_option maxRecDepth 100000 in
set_option maxHeartbeats 4000000 in
theorem look1 (st sg v sb vb n : Nat) (w : World) (R : Option Addr → Nat → World → Prop)
    (hR : ∀ u, Turn [] w u → Calls Tryz.prog 52 #[.pointer (some ⟨st, 0, none⟩)] u fun e w2 => ∃ ra rc, e = .returned (.slice ra n rc) ∧ R ra rc w2 ∧ (w2.cell? ⟨vb, 0, none⟩ = some (.pointer (some ⟨v, 0, none⟩)) ∧ w2.cell? ⟨v, 1, none⟩ = some (.pointer (some ⟨sg, 0, none⟩)) ∧ (∃ x, w2.cell? ⟨sg, 3, none⟩ = some x) ∧ w2.frozen? ⟨sg, 3, none⟩ = false))
    (hs : w.cell? ⟨sb, 0, none⟩ = some (.pointer (some ⟨st, 0, none⟩))) (hv : w.cell? ⟨vb, 0, none⟩ = some (.pointer (some ⟨v, 0, none⟩))) (h1 : w.cell? ⟨v, 1, none⟩ = some (.pointer (some ⟨sg, 0, none⟩))) :
    Calls Tryz.prog 51 #[.pointer (some ⟨sb, 0, none⟩), .pointer (some ⟨vb, 0, none⟩)] w fun e w' => e = .returned (.tuple #[]) ∧ ∃ ra rc w2, R ra rc w2 ∧ (w' = w2.setCell ⟨sg, 3, none⟩ (.slice ra n rc) ∨ w' = (w2.drew).setCell ⟨sg, 3, none⟩ (.slice ra n rc)) := by
  have HR := hide hR
  clear hR
  go_enter Tryz.func51, Tryz.ntmps51
  go_region_with (go_at_call 52; refine (HR.out _ (by first | exact Turn.refl _ _ | exact (Turn.refl _ _).drew | exact ((Turn.refl _ _).drew).drew)).mono ?_; rintro e w2 ⟨ra, rc, rfl, hR2, k0, k1, ⟨x, k3⟩, kf⟩; have HR2 := hide hR2; clear hR2)
  all_goals go_end0
  all_goals exact ⟨rfl, _, _, _, HR2.out, by first | exact .inl rfl | exact .inr rfl⟩

end Go.Proofs.YthgpjkcgccdldaaGreatDoor
