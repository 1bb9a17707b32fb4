/-
  strings.Compare; rows of keys and values in memory; a leaf's find.
-/
import Derived.Test.YthgpjkcgccdldaaGreatDoorV05
import Derived.Test.YthgpjkcgccdldaaGreatDoorV01

namespace Go.Proofs.YthgpjkcgccdldaaGreatDoor
open Go.RowKit

set_option maxRecDepth 100000 in
set_option maxHeartbeats 1000000 in
theorem compareString_any (a b : ByteArray) (w : World) : Calls Tryz.prog 151 #[.string a, .string b] w fun e w' => e = .returned (.int .i64 (cmp a b)) ∧ w' = w := by
  go_enter Tryz.func151, Tryz.ntmps151
  go_wp2
  rw [run_callFunc_extern Tryz.func188 (by kernel_rfl) (by kernel_rfl) (by kernel_rfl) (e := Extern.BytealgCompare.compare) (by kernel_rfl), Lib.run_compareString]
  simp only [Result.andThen]
  rw [Oper.upon_value]
  go_wp2
  go_ret
  exact ⟨rfl, rfl⟩

set_option maxRecDepth 100000 in
set_option maxHeartbeats 1000000 in
theorem compare_any (a b : ByteArray) (w : World) : Calls Tryz.prog 115 #[.string a, .string b] w fun e w' => e = .returned (.int .i64 (cmp a b)) ∧ w' = w := by
  go_enter Tryz.func115, Tryz.ntmps115
  go_wp2_with fail
  refine (compareString_any a b w).mono ?_
  rintro e w1 ⟨rfl, rfl⟩
  go_wp2_with fail
  go_ret
  exact ⟨rfl, rfl⟩

/-- Keys and values that a slice leads to. -/
def KVsAt (w : World) (a : Option Addr) (l : List (ByteArray × ByteArray)) : Prop :=
  l = [] ∨ ∃ b off, a = some ⟨b, off, none⟩ ∧ ∀ i (h : i < l.length), w.cell? ⟨b, off + i * 2, none⟩ = some (.string l[i].1) ∧ w.cell? ⟨b, off + i * 2 + 1, none⟩ = some (.string l[i].2)

theorem KVsAt.at {w : World} {a : Option Addr} {l : List (ByteArray × ByteArray)} (h : KVsAt w a l) {i : Nat} (hi : i < l.length) :
    ∃ b off, a = some ⟨b, off, none⟩ ∧ w.cell? ⟨b, off + i * 2, none⟩ = some (.string l[i].1) ∧ w.cell? ⟨b, off + i * 2 + 1, none⟩ = some (.string l[i].2) := by
  rcases h with rfl | ⟨b, off, hg, hc⟩
  · simp at hi
  · exact ⟨b, off, hg, hc i hi⟩

theorem KVsAt.lt {w : World} {a : Option Addr} {l : List (ByteArray × ByteArray)} (h : KVsAt w a l) (x : Addr) (hl : l ≠ []) (hx : a = some x) : x.block < w.heap.size := by
  obtain ⟨b, off, hg, hc, _⟩ := h.at (i := 0) (List.length_pos_iff.2 hl)
  obtain rfl : x = ⟨b, off, none⟩ := Option.some.inj (hx.symm.trans hg)
  exact lt_of_cell hc

theorem KVsAt.turn {S : List Nat} {w w' : World} {a : Option Addr} {l : List (ByteArray × ByteArray)} (h : KVsAt w a l) (hT : Turn S w w') (hn : ∀ x, l ≠ [] → a = some x → x.block ∉ S) : KVsAt w' a l := by
  rcases h with rfl | ⟨b, off, hg, hc⟩
  · exact .inl rfl
  · refine .inr ⟨b, off, hg, fun i hi => ?_⟩
    have hl : l ≠ [] := fun e => by rw [e] at hi; simp at hi
    have hb := hn _ hl hg
    have h0 := hc i hi
    exact ⟨(hT.cell (p := ⟨b, off + i * 2, none⟩) (lt_of_cell h0.1) hb).trans h0.1, (hT.cell (p := ⟨b, off + i * 2 + 1, none⟩) (lt_of_cell h0.2) hb).trans h0.2⟩

theorem KVsAt.turn0 {w w' : World} {a : Option Addr} {l : List (ByteArray × ByteArray)} (h : KVsAt w a l) (hT : Turn [] w w') : KVsAt w' a l := h.turn hT (by simp)

set_option maxRecDepth 100000 in
set_option maxHeartbeats 1000000 in
theorem find1_any (k v key : ByteArray) (w : World) : Calls Tryz.prog 119 #[.agg #[.string k, .string v], .string key] w fun e w' => e = .returned (.int .i64 (cmp k key)) ∧ Turn [] w w' := by
  go_enter Tryz.func119, Tryz.ntmps119
  go_wp2_with fail
  refine (compare_any k key _).mono ?_
  rintro e w1 ⟨rfl, rfl⟩
  go_wp2_with fail
  go_ret
  exact ⟨rfl, (Turn.refl [] w).alloc _⟩

def keysOf (l : List (ByteArray × ByteArray)) : List ByteArray := l.map Prod.fst
theorem keysOf_get {l : List (ByteArray × ByteArray)} {i : Nat} (h : i < l.length) : (keysOf l)[i]'(by unfold keysOf; simpa using h) = l[i].1 := by simp [keysOf]
theorem keysOf_length (l : List (ByteArray × ByteArray)) : (keysOf l).length = l.length := by simp [keysOf]

/-- A key stands at i. -/
def Stands (l : List (ByteArray × ByteArray)) (key : ByteArray) (i : Nat) : Prop := ∃ h : i < l.length, l[i].1 = key

set_option maxRecDepth 100000 in
set_option maxHeartbeats 3200000 in
theorem bsearch_any (a : Option Addr) (cap : Nat) (l : List (ByteArray × ByteArray)) (key : ByteArray) (hs : Rises (keysOf l)) (hlen : l.length ≤ 1000000) (w : World) (hK : KVsAt w a l) :
    Calls Tryz.prog 118 #[.slice a l.length cap, .string key, .func (.func 119) #[] #[]] w fun e w' => ∃ i f, e = .returned (.tuple #[.int .i64 (i : Nat), .bool f]) ∧ IsPos (keysOf l) key i ∧ (f = true ↔ Stands l key i) ∧ Turn [] w w' := by
  have HK := hide hK
  have HS := hide hs
  have HLk := hide (keysOf_length l)
  clear hK hs
  go_enter Tryz.func118, Tryz.ntmps118
  go_wp2_with fail
  go_loopw [9, 10] (fun i j wr => ∃ i' j' : Nat, i' ≤ j' ∧ j' ≤ l.length ∧ i = .int .i64 i' ∧ j = .int .i64 j' ∧ Hid (∀ m (h : m < l.length), m < i' → klt l[m].1 key) ∧ Hid (∀ m (h : m < l.length), j' ≤ m → ¬ klt l[m].1 key) ∧ Turn [] w wr) (fun i j _ => (intOf j).toNat - (intOf i).toNat)
  case atStart => exact ⟨0, l.length, Nat.zero_le _, Nat.le_refl _, rfl, rfl, fun m _ h => absurd h (Nat.not_lt_zero _), fun m h h2 => absurd h2 (by omega), Turn.refl _ _⟩
  case round =>
    obtain ⟨i, j, hij, hjl, rfl, rfl, H1, H2, hT⟩ := hrel
    have HT := hide hT
    clear hT
    by_cases hlt : i < j
    · obtain ⟨h, hh, hi1, hi2⟩ : ∃ h : Nat, h = (i + j) / 2 ∧ i ≤ h ∧ h < j := ⟨_, rfl, by omega, by omega⟩
      have e1 : ((i : Int) + (j : Int)) / 2 = (h : Int) := by omega
      have hhl : h < l.length := by omega
      obtain ⟨b, off, rfl, hc, hd⟩ := (HK.out.turn0 HT.out).at hhl
      clear hh
      go_wp2_with fail
      refine (find1_any l[h].1 l[h].2 key _).mono ?_
      rintro e w1 ⟨rfl, hT1⟩
      have HT1 := hide (HT.out.then hT1 (by simp))
      clear hT1 hc hd
      by_cases hk : cmp l[h].1 key < 0
      · have HE : Hid (∀ m (h' : m < l.length), m < h + 1 → klt l[m].1 key) := fun m h' hm => by
          by_cases he : m = h
          · subst he; exact cmp_neg.1 hk
          · have := HS.out.get (i := m) (j := h) (by omega) (by rw [HLk.out]; exact hhl)
            rw [keysOf_get h', keysOf_get hhl] at this
            exact klt_trans this (cmp_neg.1 hk)
        generalize cmp l[h].1 key = c at *
        go_wp2_with fail
        go_roundw
        case rel => exact ⟨h + 1, j, by omega, hjl, by go_num, rfl, HE, H2, HT1.out⟩
        case measure => simp [intOf]; omega
      · have HE : Hid (∀ m (h' : m < l.length), h ≤ m → ¬ klt l[m].1 key) := fun m h' hm => by
          by_cases he : m = h
          · subst he; exact fun e => hk (cmp_neg.2 e)
          · have := HS.out.get (i := h) (j := m) (by omega) (by rw [HLk.out]; exact h')
            rw [keysOf_get h', keysOf_get hhl] at this
            exact fun e => hk (cmp_neg.2 (klt_trans this e))
        generalize cmp l[h].1 key = c at *
        go_wp2_with fail
        go_roundw
        case rel => exact ⟨i, h, by omega, by omega, rfl, rfl, H1, HE, HT1.out⟩
        case measure => simp [intOf]; omega
    · obtain rfl : i = j := by omega
      have HPos : Hid (IsPos (keysOf l) key i) := ⟨by rw [HLk.out]; exact hjl, fun m h hm => by rw [HLk.out] at h; rw [keysOf_get h]; exact H1.out m h hm, fun m h hm => by rw [HLk.out] at h; rw [keysOf_get h]; exact H2.out m h hm⟩
      by_cases hil : i < l.length
      · obtain ⟨b, off, rfl, hc, hd⟩ := (HK.out.turn0 HT.out).at hil
        go_wp2_with fail
        refine (find1_any l[i].1 l[i].2 key _).mono ?_
        rintro e w1 ⟨rfl, hT1⟩
        have HT1 := hide (HT.out.then hT1 (by simp))
        have HE : Hid (∀ f : Bool, f = decide (cmp l[i].1 key = 0) → (f = true ↔ Stands l key i)) := fun f e => by
          rw [e, decide_eq_true_iff, cmp_zero]
          exact ⟨fun h => ⟨hil, h⟩, fun ⟨_, h⟩ => h⟩
        clear hT1 hc hd
        by_cases hz : cmp l[i].1 key = 0
        · rw [hz] at HE ⊢
          clear hz
          go_wp2_with fail
          refine bodyPost_ret (v := .tuple #[.int .i64 (i : Nat), .bool true]) (by simp [results, Tryz.results118, go_sem]) rfl ⟨i, true, rfl, HPos.out, HE.out true (by simp), HT1.out⟩
        · have hzb : (cmp l[i].1 key == 0) = false := by simpa using hz
          have HF := hide (HE.out false (by simp [hz]))
          generalize cmp l[i].1 key = c at *
          go_wp2_with fail
          refine bodyPost_ret (v := .tuple #[.int .i64 (i : Nat), .bool false]) (by simp [results, Tryz.results118, go_sem]) rfl ⟨i, false, rfl, HPos.out, HF.out, HT1.out⟩
      · go_wp2_with fail
        refine bodyPost_ret (v := .tuple #[.int .i64 (i : Nat), .bool false]) (by simp [results, Tryz.results118, go_sem]) rfl ⟨i, false, rfl, HPos.out, ⟨fun h => (by cases h), fun ⟨h, _⟩ => absurd h hil⟩, HT.out⟩

set_option maxRecDepth 100000 in
set_option maxHeartbeats 1000000 in
theorem lfind_any (a : Option Addr) (cap : Nat) (l : List (ByteArray × ByteArray)) (key : ByteArray) (hs : Rises (keysOf l)) (hlen : l.length ≤ 1000000) (w : World) (hK : KVsAt w a l) :
    Calls Tryz.prog 82 #[.slice a l.length cap, .string key] w fun e w' => ∃ i f, e = .returned (.tuple #[.int .i64 (i : Nat), .bool f]) ∧ IsPos (keysOf l) key i ∧ (f = true ↔ Stands l key i) ∧ Turn [] w w' := by
  have HC := hide (bsearch_any a cap l key hs hlen w hK)
  clear hs hK
  go_enter Tryz.func82, Tryz.ntmps82
  go_wp2_with fail
  refine HC.out.mono ?_
  rintro e w1 ⟨i, f, rfl, h1, h2, h3⟩
  have H1 := hide h1
  have H2 := hide h2
  have H3 := hide h3
  clear h1 h2 h3
  go_wp2_with fail
  refine bodyPost_ret (v := .tuple #[.int .i64 (i : Nat), .bool f]) (by simp [results, Tryz.results82, go_sem]) rfl ⟨i, f, rfl, H1.out, H2.out, H3.out⟩
end Go.Proofs.YthgpjkcgccdldaaGreatDoor

/-
  Rows of pairs of cells in memory.
-/
namespace Go.Proofs.YthgpjkcgccdldaaGreatDoor
open Go.RowKit

/-- Pairs of cells that a slice leads to. -/
def PairsAt (w : World) (a : Option Addr) (l : List (Value × Value)) : Prop :=
  l = [] ∨ ∃ b off, a = some ⟨b, off, none⟩ ∧ ∀ i (h : i < l.length), w.cell? ⟨b, off + i * 2, none⟩ = some l[i].1 ∧ w.cell? ⟨b, off + i * 2 + 1, none⟩ = some l[i].2

def flat (l : List (Value × Value)) : List Value := l.flatMap fun x => [x.1, x.2]
theorem flat_append (a b : List (Value × Value)) : flat (a ++ b) = flat a ++ flat b := List.flatMap_append
theorem flat_length (l : List (Value × Value)) : (flat l).length = l.length * 2 := by
  induction l with
  | nil => rfl
  | cons x l ih =>
    show (x.1 :: x.2 :: flat l).length = _
    rw [List.length_cons, List.length_cons, ih, List.length_cons]
    omega
theorem flat_get (l : List (Value × Value)) (i : Nat) (h : i < l.length) : (flat l)[i * 2]? = some l[i].1 ∧ (flat l)[i * 2 + 1]? = some l[i].2 := by
  induction l generalizing i with
  | nil => simp at h
  | cons x l ih =>
    cases i with
    | zero => exact ⟨rfl, rfl⟩
    | succ i =>
      have := ih i (by simpa using h)
      have e : (i + 1) * 2 = i * 2 + 1 + 1 := by omega
      rw [e]
      exact this
def OneCell (l : List (Value × Value)) : Prop := ∀ x ∈ l, x.1.oneCell' = true ∧ x.2.oneCell' = true
theorem flat_one {l : List (Value × Value)} (h : OneCell l) : ∀ u ∈ flat l, u.oneCell' = true := by
  intro u hu
  obtain ⟨x, hx, hm⟩ := List.mem_flatMap.1 hu
  simp at hm
  rcases hm with rfl | rfl
  · exact (h x hx).1
  · exact (h x hx).2

theorem PairsAt.turn {S : List Nat} {w w' : World} {a : Option Addr} {l : List (Value × Value)} (h : PairsAt w a l) (hT : Turn S w w') (hn : ∀ x, l ≠ [] → a = some x → x.block ∉ S) : PairsAt w' a l := by
  rcases h with rfl | ⟨b, off, hg, hc⟩
  · exact .inl rfl
  · refine .inr ⟨b, off, hg, fun i hi => ?_⟩
    have hl : l ≠ [] := fun e => by rw [e] at hi; simp at hi
    have hb := hn _ hl hg
    have h0 := hc i hi
    exact ⟨(hT.cell (p := ⟨b, off + i * 2, none⟩) (lt_of_cell h0.1) hb).trans h0.1, (hT.cell (p := ⟨b, off + i * 2 + 1, none⟩) (lt_of_cell h0.2) hb).trans h0.2⟩
theorem PairsAt.turn0 {w w' : World} {a : Option Addr} {l : List (Value × Value)} (h : PairsAt w a l) (hT : Turn [] w w') : PairsAt w' a l := h.turn hT (by simp)

theorem PairsAt.src {w : World} {ad : Addr} {l : List (Value × Value)} (h : PairsAt w (some ad) l) : ∀ j u, (flat l)[j]? = some u → w.cell? (ad.add j) = some u := by
  intro j u hj
  have hlen := flat_length l
  have hjl : j < l.length * 2 := by
    rw [← hlen]
    rcases Nat.lt_or_ge j (flat l).length with h | h
    · exact h
    · rw [List.getElem?_eq_none h] at hj; cases hj
  rcases h with rfl | ⟨b, off, e, hc⟩
  · simp at hjl
  obtain rfl := Option.some.inj e
  rw [add_spot]
  obtain ⟨h1, h2⟩ := flat_get l (j / 2) (by omega)
  obtain ⟨c1, c2⟩ := hc (j / 2) (by omega)
  rcases Nat.mod_two_eq_zero_or_one j with hm | hm
  · have ej : j = j / 2 * 2 := by omega
    rw [← ej] at h1 c1
    rw [c1, ← hj, h1]
  · have ej : j = j / 2 * 2 + 1 := by omega
    rw [← ej] at h2
    have ej' : off + j / 2 * 2 + 1 = off + j := by omega
    rw [ej'] at c2
    rw [c2, ← hj, h2]

/-- Parts of a row. -/
theorem PairsAt.take {w : World} {a : Option Addr} {l : List (Value × Value)} (h : PairsAt w a l) (n : Nat) : PairsAt w a (l.take n) := by
  rcases h with rfl | ⟨b, off, e, hc⟩
  · exact .inl (by simp)
  · exact .inr ⟨b, off, e, fun i hi => by
      rw [List.length_take] at hi
      rw [List.getElem_take]
      exact hc i (by omega)⟩
theorem PairsAt.drop {w : World} {b off : Nat} {l : List (Value × Value)} (h : PairsAt w (some ⟨b, off, none⟩) l) (n : Nat) : PairsAt w (some ⟨b, off + n * 2, none⟩) (l.drop n) := by
  rcases h with rfl | ⟨b', off', e, hc⟩
  · exact .inl (by simp)
  · obtain ⟨rfl, rfl⟩ : b = b' ∧ off = off' := by
      have := Option.some.inj e
      exact ⟨congrArg Addr.block this, congrArg Addr.off this⟩
    exact .inr ⟨b, off + n * 2, rfl, fun i hi => by
      rw [List.length_drop] at hi
      rw [List.getElem_drop]
      have := hc (n + i) (by omega)
      have e1 : off + n * 2 + i * 2 = off + (n + i) * 2 := by omega
      rw [e1]
      exact this⟩

/-- A row of the call's own, as a slice. -/
theorem own_pairs {w : World} {base e : Nat} {v : Value} {n : Nat} {l : List (Value × Value)} (h : w.ownsRow base e 2 v n (flat l)) : ∃ a cap, v = .slice a l.length cap ∧ n = l.length ∧ (a = none → cap = 0) ∧ PairsAt w a l ∧ ∀ x, a = some x → base ≤ x.block ∧ x.block < w.heap.size := by
  have hn : n = l.length := by
    have := h.1
    rw [flat_length] at this
    omega
  subst hn
  have hlt := h.lt
  obtain ⟨_, ⟨rfl, h0⟩ | ⟨g, cap, cur, rfl, hb, hg, hnc, hm, hsz, hcur⟩⟩ := h
  · exact ⟨none, 0, by rw [h0], rfl, fun _ => rfl, .inl (List.eq_nil_of_length_eq_zero h0), by simp⟩
  · refine ⟨_, cap, rfl, rfl, by simp, .inr ⟨g, 0, rfl, fun i hi => ?_⟩, fun x hx => by obtain rfl := Option.some.inj hx; exact hlt g rfl⟩
    obtain ⟨h1, h2⟩ := flat_get l i hi
    rw [← hcur, List.getElem?_take, if_pos (by omega), Array.getElem?_toList] at h1 h2
    unfold World.cell?
    rw [hg]
    rw [Nat.zero_add]
    exact ⟨h1, h2⟩

def kvCells (l : List (ByteArray × ByteArray)) : List (Value × Value) := l.map fun x => (.string x.1, .string x.2)
theorem kvCells_length (l : List (ByteArray × ByteArray)) : (kvCells l).length = l.length := by simp [kvCells]
theorem kv_one (l : List (ByteArray × ByteArray)) : OneCell (kvCells l) := by
  intro x hx
  obtain ⟨y, _, rfl⟩ := List.mem_map.1 hx
  exact ⟨rfl, rfl⟩
theorem KVsAt.pairs {w : World} {a : Option Addr} {l : List (ByteArray × ByteArray)} (h : KVsAt w a l) : PairsAt w a (kvCells l) := by
  rcases h with rfl | ⟨b, off, e, hc⟩
  · exact .inl rfl
  · exact .inr ⟨b, off, e, fun i hi => by
      rw [kvCells_length] at hi
      simp only [kvCells, List.getElem_map]
      exact hc i hi⟩
theorem PairsAt.kvs {w : World} {a : Option Addr} {l : List (ByteArray × ByteArray)} (h : PairsAt w a (kvCells l)) : KVsAt w a l := by
  rcases h with h | ⟨b, off, e, hc⟩
  · exact .inl (by simpa [kvCells] using h)
  · exact .inr ⟨b, off, e, fun i hi => by
      have := hc i (by rw [kvCells_length]; exact hi)
      simp only [kvCells, List.getElem_map] at this
      exact this⟩
end Go.Proofs.YthgpjkcgccdldaaGreatDoor
