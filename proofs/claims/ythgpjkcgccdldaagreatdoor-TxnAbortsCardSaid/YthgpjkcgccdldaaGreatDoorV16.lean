/-
  strings.Clone; a leaf's put, sizes; total; the closure of Put.
-/
import Derived.Test.YthgpjkcgccdldaaGreatDoorV11
import Derived.Lib.UnsafeStr
import Derived.Deep.RegionWith
import Derived.Shelf.Strconv.Clone

namespace Go.Proofs.YthgpjkcgccdldaaGreatDoor
open Go.RowKit Go.Maps

theorem ptr5 : Tryz.prog.underlying 194 = some (.pointer 5) := by kernel_rfl

set_option maxHeartbeats 4000000 in
set_option maxRecDepth 100000 in
theorem strclone_any (s : ByteArray) (w : World) (hlim : s.size ≤ 1000000) : Calls Tryz.prog 92 #[.string s] w fun e w' => e = .returned (.string s) ∧ Turn [] w w' := by
  by_cases h0 : s.size = 0
  · have hs : s = ⟨#[]⟩ := by
      apply ByteArray.ext
      exact Array.eq_empty_of_size_eq_zero h0
    subst hs
    go_enter Tryz.func92, Tryz.ntmps92
    go_wp2
    go_ret
    exact ⟨rfl, Turn.refl _ _⟩
  · obtain ⟨i0, hi, hz0, hz1, hz2⟩ := info_parts info5
    have hinfo : (Tryz.prog.info? 5).map (·.size) = some 1 := by rw [hi]; simp [hz1]
    have hco : Tryz.prog.cellsOf 5 = 1 := by simp [Program.cellsOf, hi, hz1]
    obtain ⟨M, hM⟩ : ∃ M, M = madeCells (Value.int .u8 0).cells (((s.size : Nat) : Int).toNat * i0.size) := ⟨_, rfl⟩
    have hMs : M.size = s.size := by rw [hM, size_madeCells, hz1]; simp
    have hmk : ∀ W : World, (Instr.makeSlice 68 (.int .i64 (s.size : Int)) (.int .i64 (s.size : Int))).run Tryz.prog W = .ok (.slice (some ⟨W.heap.size, 0, none⟩) s.size s.size) (W.alloc (.cells M 5)) := fun W => by
      have h := run_make (P := Tryz.prog) W 68 5 i0 (.int .u8 0) Tryz.underlying68 hi hz0 .i64 .i64 (s.size : Int) (s.size : Int) (by omega) (by omega) (by rw [hz2]; omega) (by omega)
      rw [← hM] at h
      simpa using h
    clear hM
    have hcp := Lib.run_copy_row_string (P := Tryz.prog) (w.alloc (.cells M 5)) 68 9 3 5 w.heap.size 0 s.size s.size s M 5 Tryz.underlying68 hinfo (heap_alloc_new w _) (Nat.le_refl _) (by omega)
    obtain ⟨Y, hY⟩ : ∃ Y, Y = (M.toList.take 0 ++ Lib.byteCells s.data.toList ++ M.toList.drop (0 + s.size)).toArray := ⟨_, rfl⟩
    rw [← hY] at hcp
    have hYl : Y.toList = Lib.byteCells s.data.toList := by
      rw [hY, List.toList_toArray, List.take_zero, List.nil_append, List.drop_of_length_le (by rw [Array.length_toList]; omega), List.append_nil]
    have hYs : Y.size = s.size := by rw [← Array.length_toList, hYl, Lib.byteCells_length, ← Lib.size_eq]
    have hgY : ((w.alloc (.cells M 5)).setRow w.heap.size Y).heap[w.heap.size]? = some (.cells Y 5 (0, 0)) := setRow_heap _ _ M _ 5 (0, 0) (heap_alloc_new w _)
    have hne : s.data.toList ≠ [] := fun e => h0 (by rw [Lib.size_eq, e]; rfl)
    have hUS := Lib.run_unsafeString_row (P := Tryz.prog) ((w.alloc (.cells M 5)).setRow w.heap.size Y) 194 3 9 5 ptr5 hco w.heap.size Y.size (by unfold World.shape?; rw [hgY]) s.data.toList hne (by rw [← Lib.size_eq]; omega) (by rw [← Lib.size_eq]; omega)
      (fun j x hx => Lib.cells_of_row hgY Y.size j _ (by rw [List.take_of_length_le (by rw [Array.length_toList]; exact Nat.le_refl _), hYl]; simp [Lib.byteCells, hx]))
    rw [← Lib.size_eq] at hUS
    clear hY
    go_enter Tryz.func92, Tryz.ntmps92
    go_wp2
    go_ret
    have hb1 : Below w.heap.size w (w.alloc (.cells M 5)) := (Below.refl _ w).alloc (Nat.le_refl _) _
    have hb2 : Below w.heap.size (w.alloc (.cells M 5)) ((w.alloc (.cells M 5)).setRow w.heap.size Y) := ⟨rfl, rfl, rfl, by simp, fun k hk => setRow_other _ _ _ _ (by omega)⟩
    exact ⟨rfl, Turn.of_below (Lib.below_freeze (hb1.trans hb2) (p := ⟨w.heap.size, 0, none⟩) (Nat.le_refl _) _)⟩

set_option maxRecDepth 100000 in
set_option maxHeartbeats 1000000 in
theorem sclone_any (s : ByteArray) (w : World) (hlim : s.size ≤ 1000000) : Calls Tryz.prog 65 #[.string s] w fun e w' => e = .returned (.string s) ∧ Turn [] w w' := by
  go_enter Tryz.func65, Tryz.ntmps65
  go_wp2_with fail
  refine (strclone_any s w hlim).mono ?_
  rintro e w1 ⟨rfl, hT⟩
  go_wp2_with fail
  go_ret
  exact ⟨rfl, hT⟩

/-- A leaf with a key put. -/
def putL (l : List (ByteArray × ByteArray)) (i : Nat) (f : Bool) (kv : ByteArray × ByteArray) : List (ByteArray × ByteArray) := l.take i ++ [kv] ++ l.drop (if f = true then i + 1 else i)

theorem kv_append (a b : List (ByteArray × ByteArray)) : kvCells (a ++ b) = kvCells a ++ kvCells b := List.map_append
theorem kv_take (a : List (ByteArray × ByteArray)) (n : Nat) : kvCells (a.take n) = (kvCells a).take n := List.map_take
theorem kv_drop (a : List (ByteArray × ByteArray)) (n : Nat) : kvCells (a.drop n) = (kvCells a).drop n := List.map_drop

theorem three_new (w : World) (x y z : Value) (t : TypeId) : ∀ j u, [x, y, z][j]? = some u → (w.alloc (.cells #[x, y, z] t)).cell? ⟨w.heap.size, 0 + j, none⟩ = some u := by
  intro j u hj
  rw [Nat.zero_add]
  match j, hj with
  | 0, hj => exact (World.cell?_alloc_at #[x, y, z] t _ 0 rfl).trans hj
  | 1, hj => exact (World.cell?_alloc_at #[x, y, z] t _ 1 rfl).trans hj
  | 2, hj => exact (World.cell?_alloc_at #[x, y, z] t _ 2 rfl).trans hj

theorem pairs_drop_if {W : World} {b off cap : Nat} {l : List (ByteArray × ByteArray)} (h : KVsAt W (some ⟨b, off, none⟩) l) (hc : l.length ≤ cap) (j : Nat) : PairsAt W (if cap = j then some ⟨b, off, none⟩ else some ⟨b, off + j * 2, none⟩) (kvCells (l.drop j)) := by
  by_cases hcj : cap = j
  · left
    have : l.drop j = [] := List.drop_of_length_le (by omega)
    rw [this]
    rfl
  · rw [if_neg hcj, kv_drop]
    exact h.pairs.drop j

theorem parts3 (w1 : World) (b off cap i j : Nat) (l : List (ByteArray × ByteArray)) (k v : ByteArray) (hi : i ≤ l.length) (_hj : j ≤ l.length) (hc : l.length ≤ cap) (hK : KVsAt w1 (some ⟨b, off, none⟩) l) :
    PartsAt ((w1.alloc (.cells #[.string k, .string v] 55)).alloc (.cells #[.slice (some ⟨b, off, none⟩) i cap, .slice (some ⟨w1.heap.size, 0, none⟩) 1 1, .slice (if cap = j then some ⟨b, off, none⟩ else some ⟨b, off + j * 2, none⟩) (l.length - j) (cap - j)] 137)).drew (w1.heap.size + 1) 0 [kvCells (l.take i), kvCells [(k, v)], kvCells (l.drop j)] := by
  have hT1 : Turn [] w1 (w1.alloc (.cells #[.string k, .string v] 55)) := (Turn.refl [] w1).alloc _
  have hT2 : Turn [] (w1.alloc (.cells #[.string k, .string v] 55)) ((w1.alloc (.cells #[.string k, .string v] 55)).alloc (.cells #[.slice (some ⟨b, off, none⟩) i cap, .slice (some ⟨w1.heap.size, 0, none⟩) 1 1, .slice (if cap = j then some ⟨b, off, none⟩ else some ⟨b, off + j * 2, none⟩) (l.length - j) (cap - j)] 137)).drew := ((Turn.refl [] _).alloc _).drew
  have hsz : (w1.alloc (.cells #[.string k, .string v] 55)).heap.size = w1.heap.size + 1 := by simp
  have hK2 := (hK.turn0 hT1).turn0 hT2
  have hcell := three_new (w1.alloc (.cells #[.string k, .string v] 55)) (.slice (some ⟨b, off, none⟩) i cap) (.slice (some ⟨w1.heap.size, 0, none⟩) 1 1) (.slice (if cap = j then some ⟨b, off, none⟩ else some ⟨b, off + j * 2, none⟩) (l.length - j) (cap - j)) 137
  rw [hsz] at hcell
  intro n hn
  match n, hn with
  | 0, _ =>
    refine ⟨some ⟨b, off, none⟩, cap, ?_, by simp, ?_⟩
    · rw [show ([kvCells (l.take i), kvCells [(k, v)], kvCells (l.drop j)][0]).length = i by simp [kvCells_length]; omega]
      exact hcell 0 _ rfl
    · show PairsAt _ _ (kvCells (l.take i))
      rw [kv_take]
      exact hK2.pairs.take i
  | 1, _ =>
    refine ⟨some ⟨w1.heap.size, 0, none⟩, 1, hcell 1 _ rfl, by simp, .inr ⟨w1.heap.size, 0, rfl, fun m hm => ?_⟩⟩
    obtain rfl : m = 0 := by simp [kvCells] at hm; exact hm
    have hl : w1.heap.size < (w1.alloc (.cells #[.string k, .string v] 55)).heap.size := by simp
    exact ⟨(hT2.cell (p := ⟨w1.heap.size, 0, none⟩) hl (by simp)).trans (World.cell?_alloc_at _ _ _ _ rfl), (hT2.cell (p := ⟨w1.heap.size, 1, none⟩) hl (by simp)).trans (World.cell?_alloc_at _ _ _ _ rfl)⟩
  | 2, _ =>
    refine ⟨if cap = j then some ⟨b, off, none⟩ else some ⟨b, off + j * 2, none⟩, cap - j, ?_, by split <;> simp, ?_⟩
    · rw [show ([kvCells (l.take i), kvCells [(k, v)], kvCells (l.drop j)][2]).length = l.length - j by simp [kvCells_length]]
      exact hcell 2 _ rfl
    · show PairsAt _ _ (kvCells (l.drop j))
      exact pairs_drop_if hK2 hc j

theorem put_flat (l : List (ByteArray × ByteArray)) (i j : Nat) (kv : ByteArray × ByteArray) : [kvCells (l.take i), kvCells [kv], kvCells (l.drop j)].flatten = kvCells (l.take i ++ [kv] ++ l.drop j) := by
  simp [kvCells]

theorem concat3 (w1 : World) (b off cap i j : Nat) (l : List (ByteArray × ByteArray)) (k v : ByteArray) (hlen : l.length ≤ 1000) (hi : i ≤ l.length) (hj : j ≤ l.length) (hc : l.length ≤ cap) (hK : KVsAt w1 (some ⟨b, off, none⟩) l) :
    Calls Tryz.prog 97 #[.slice (some ⟨w1.heap.size + 1, 0, none⟩) 3 3] ((w1.alloc (.cells #[.string k, .string v] 55)).alloc (.cells #[.slice (some ⟨b, off, none⟩) i cap, .slice (some ⟨w1.heap.size, 0, none⟩) 1 1, .slice (if cap = j then some ⟨b, off, none⟩ else some ⟨b, off + j * 2, none⟩) (l.length - j) (cap - j)] 137)).drew
      fun e w' => ∃ r, e = .returned r ∧ w'.ownsRow w1.heap.size 55 2 r (l.take i ++ [(k, v)] ++ l.drop j).length (flat (kvCells (l.take i ++ [(k, v)] ++ l.drop j))) ∧ Turn [] w1 w' := by
  have hP := parts3 w1 b off cap i j l k v hi hj hc hK
  have hL : tlen [kvCells (l.take i), kvCells [(k, v)], kvCells (l.drop j)] = (l.take i ++ [(k, v)] ++ l.drop j).length := by
    unfold tlen
    rw [put_flat, kvCells_length]
  have hb : (l.take i ++ [(k, v)] ++ l.drop j).length ≤ 1000000 := by simp; omega
  have := concat_any (w1.heap.size + 1) 0 3 [kvCells (l.take i), kvCells [(k, v)], kvCells (l.drop j)] (by simp) (by rw [hL]; exact hb) (by simp [kv_one]) _ hP
  refine this.mono ?_
  rintro e w' ⟨r, rfl, hO, hT⟩
  rw [hL, put_flat] at hO
  refine ⟨r, rfl, ?_, (((Turn.refl [] w1).alloc _).alloc _).drew.then hT (by simp)⟩
  obtain ⟨h1, h2 | ⟨g, cap', cur, e, hb', rest⟩⟩ := hO
  · exact ⟨h1, .inl h2⟩
  · exact ⟨h1, .inr ⟨g, cap', cur, e, by simp at hb'; omega, rest⟩⟩

set_option maxRecDepth 100000 in
set_option maxHeartbeats 3200000 in
theorem lput_any (b off cap : Nat) (l : List (ByteArray × ByteArray)) (k v : ByteArray) (hs : Rises (keysOf l)) (hlen : l.length ≤ 1000) (hcap : l.length ≤ cap ∧ cap ≤ 9223372036854775807) (w : World) (hK : KVsAt w (some ⟨b, off, none⟩) l) :
    Calls Tryz.prog 69 #[.slice (some ⟨b, off, none⟩) l.length cap, .agg #[.string k, .string v]] w fun e w' => ∃ i f r, e = .returned r ∧ IsPos (keysOf l) k i ∧ (f = true ↔ Stands l k i) ∧ w'.ownsRow w.heap.size 55 2 r (putL l i f (k, v)).length (flat (kvCells (putL l i f (k, v)))) ∧ Turn [] w w' := by
  have HK := hide hK
  have HS := hide hs
  clear hK hs
  go_enter Tryz.func69, Tryz.ntmps69
  go_wp2_with fail
  have hT0 : Turn [] w (w.alloc (.cells #[.string k, .string v] 55)) := (Turn.refl [] w).alloc _
  refine (lfind_any (some ⟨b, off, none⟩) cap l k HS.out (by omega) _ (HK.out.turn0 hT0)).mono ?_
  rintro e w1 ⟨i, f, rfl, h1, h2, hT1⟩
  have H1 := hide h1
  have H2 := hide h2
  have hi : i ≤ l.length := by have := h1.1; rw [keysOf_length] at this; exact this
  have hkv0 : w1.cell? ⟨w.heap.size, 0, none⟩ = some (.string k) := (hT1.cell (p := ⟨w.heap.size, 0, none⟩) (by simp) (by simp)).trans (World.cell?_alloc_at _ _ _ _ rfl)
  have hkv1 : w1.cell? ⟨w.heap.size, 1, none⟩ = some (.string v) := (hT1.cell (p := ⟨w.heap.size, 1, none⟩) (by simp) (by simp)).trans (World.cell?_alloc_at _ _ _ _ rfl)
  have hT01 := hT0.then hT1 (by simp)
  have HT01 := hide hT01
  have HK1 := hide (HK.out.turn0 hT01)
  have hw1 := hT1.size
  have hfi : f = true → i < l.length := fun e => by obtain ⟨h, _⟩ := h2.1 e; exact h
  have hil : (i : Int) ≤ (l.length : Int) := by omega
  have hic : (i : Int) ≤ (cap : Int) := by omega
  have hic2 : i ≤ cap := by omega
  clear h1 h2 hT1 hT0 HK hT01
  obtain ⟨j, hj1, hj2⟩ : ∃ j : Nat, j ≤ l.length ∧ j = (if f = true then i + 1 else i) := by
    refine ⟨_, ?_, rfl⟩
    split
    · exact hfi (by assumption)
    · exact hi
  have HC := hide (concat3 w1 b off cap i j l k v hlen hi hj1 hcap.1 HK1.out)
  have HE : Hid (putL l i f (k, v) = l.take i ++ [(k, v)] ++ l.drop j) := by show _ = _; unfold putL; rw [hj2]
  have h1s := HT01.out.size
  have hjc : (j : Int) ≤ (cap : Int) := by omega
  have hjl : (j : Int) ≤ (l.length : Int) := by omega
  have hfin : ∀ (w2 : World) (r : Value), w2.ownsRow w1.heap.size 55 2 r (l.take i ++ [(k, v)] ++ l.drop j).length (flat (kvCells (l.take i ++ [(k, v)] ++ l.drop j))) → w2.ownsRow w.heap.size 55 2 r (putL l i f (k, v)).length (flat (kvCells (putL l i f (k, v)))) := fun w2 r h => by
    rw [HE.out]
    obtain ⟨g1, g2 | ⟨g, cap', cur, e, hb', rest⟩⟩ := h
    · exact ⟨g1, .inl g2⟩
    · exact ⟨g1, .inr ⟨g, cap', cur, e, by omega, rest⟩⟩
  have HFin := hide hfin
  clear hfin HE
  by_cases hcj : cap = j
  · subst hcj
    simp only [↓reduceIte, Nat.sub_self] at HC
    rw [show l.length - cap = 0 by omega] at HC
    cases f with
    | false =>
      obtain rfl : cap = i := hj2
      clear hfi
      go_wp2_with fail
      go_region_with (go_at_call 97; refine HC.out.mono ?_; rintro e w2 ⟨r, rfl, hO, hT2⟩; have HO := hide hO; have HT2 := hide hT2; clear hO hT2)
      all_goals
        go_wp2_with fail
        go_ret
        exact ⟨cap, false, r, rfl, H1.out, H2.out, HFin.out _ _ HO.out, HT01.out.then HT2.out (by simp)⟩
    | true =>
      have hjI : (i : Int) + 1 = (cap : Int) := by simp at hj2; omega
      clear hfi hj2
      go_wp2_with fail
      go_region_with (go_at_call 97; refine HC.out.mono ?_; rintro e w2 ⟨r, rfl, hO, hT2⟩; have HO := hide hO; have HT2 := hide hT2; clear hO hT2)
      all_goals
        go_wp2_with fail
        go_ret
        exact ⟨i, true, r, rfl, H1.out, by simpa using H2.out, HFin.out _ _ HO.out, HT01.out.then HT2.out (by simp)⟩
  · simp only [if_neg hcj] at HC
    cases f with
    | false =>
      obtain rfl : j = i := hj2
      clear hfi
      go_wp2_with fail
      go_region_with (go_at_call 97; refine HC.out.mono ?_; rintro e w2 ⟨r, rfl, hO, hT2⟩; have HO := hide hO; have HT2 := hide hT2; clear hO hT2)
      all_goals
        go_wp2_with fail
        go_ret
        exact ⟨j, false, r, rfl, H1.out, H2.out, HFin.out _ _ HO.out, HT01.out.then HT2.out (by simp)⟩
    | true =>
      have hjI : (i : Int) + 1 = (j : Int) := by simp at hj2; omega
      clear hfi hj2
      go_wp2_with fail
      go_region_with (go_at_call 97; refine HC.out.mono ?_; rintro e w2 ⟨r, rfl, hO, hT2⟩; have HO := hide hO; have HT2 := hide hT2; clear hO hT2)
      all_goals
        go_wp2_with fail
        go_ret
        exact ⟨i, true, r, rfl, H1.out, by simpa using H2.out, HFin.out _ _ HO.out, HT01.out.then HT2.out (by simp)⟩
end Go.Proofs.YthgpjkcgccdldaaGreatDoor
