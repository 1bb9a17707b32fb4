/-
  A branch's kids in memory; its find.
-/
import Derived.Test.YthgpjkcgccdldaaGreatDoorV06

namespace Go.Proofs.YthgpjkcgccdldaaGreatDoor
open Go.RowKit

/-- Lows and places that a slice leads to. -/
def KidsAt (w : World) (a : Option Addr) (l : List (ByteArray × Nat)) : Prop :=
  l = [] ∨ ∃ b off, a = some ⟨b, off, none⟩ ∧ ∀ i (h : i < l.length), w.cell? ⟨b, off + i * 2, none⟩ = some (.string l[i].1) ∧ w.cell? ⟨b, off + i * 2 + 1, none⟩ = some (.pointer (some ⟨l[i].2, 0, none⟩))

theorem KidsAt.at {w : World} {a : Option Addr} {l : List (ByteArray × Nat)} (h : KidsAt w a l) {i : Nat} (hi : i < l.length) :
    ∃ b off, a = some ⟨b, off, none⟩ ∧ w.cell? ⟨b, off + i * 2, none⟩ = some (.string l[i].1) ∧ w.cell? ⟨b, off + i * 2 + 1, none⟩ = some (.pointer (some ⟨l[i].2, 0, none⟩)) := by
  rcases h with rfl | ⟨b, off, hg, hc⟩
  · simp at hi
  · exact ⟨b, off, hg, hc i hi⟩

theorem KidsAt.lt {w : World} {a : Option Addr} {l : List (ByteArray × Nat)} (h : KidsAt w a l) (x : Addr) (hl : l ≠ []) (hx : a = some x) : x.block < w.heap.size := by
  obtain ⟨b, off, hg, hc, _⟩ := h.at (i := 0) (List.length_pos_iff.2 hl)
  obtain rfl : x = ⟨b, off, none⟩ := Option.some.inj (hx.symm.trans hg)
  exact lt_of_cell hc

theorem KidsAt.turn {S : List Nat} {w w' : World} {a : Option Addr} {l : List (ByteArray × Nat)} (h : KidsAt w a l) (hT : Turn S w w') (hn : ∀ x, l ≠ [] → a = some x → x.block ∉ S) : KidsAt w' a l := by
  rcases h with rfl | ⟨b, off, hg, hc⟩
  · exact .inl rfl
  · refine .inr ⟨b, off, hg, fun i hi => ?_⟩
    have hl : l ≠ [] := fun e => by rw [e] at hi; simp at hi
    have hb := hn _ hl hg
    have h0 := hc i hi
    exact ⟨(hT.cell (p := ⟨b, off + i * 2, none⟩) (lt_of_cell h0.1) hb).trans h0.1, (hT.cell (p := ⟨b, off + i * 2 + 1, none⟩) (lt_of_cell h0.2) hb).trans h0.2⟩

theorem KidsAt.turn0 {w w' : World} {a : Option Addr} {l : List (ByteArray × Nat)} (h : KidsAt w a l) (hT : Turn [] w w') : KidsAt w' a l := h.turn hT (by simp)

set_option maxRecDepth 100000 in
set_option maxHeartbeats 1000000 in
theorem kfind1_any (k : ByteArray) (v : Nat) (key : ByteArray) (w : World) : Calls Tryz.prog 143 #[.agg #[.string k, .pointer (some ⟨v, 0, none⟩)], .string key] w fun e w' => e = .returned (.int .i64 (cmp k key)) ∧ Turn [] w w' := by
  go_enter Tryz.func143, Tryz.ntmps143
  go_wp2_with fail
  refine (compare_any k key _).mono ?_
  rintro e w1 ⟨rfl, rfl⟩
  go_wp2_with fail
  go_ret
  exact ⟨rfl, (Turn.refl [] w).alloc _⟩

def lowsOf (l : List (ByteArray × Nat)) : List ByteArray := l.map Prod.fst
theorem lowsOf_get {l : List (ByteArray × Nat)} {i : Nat} (h : i < l.length) : (lowsOf l)[i]'(by unfold lowsOf; simpa using h) = l[i].1 := by simp [lowsOf]
theorem lowsOf_length (l : List (ByteArray × Nat)) : (lowsOf l).length = l.length := by simp [lowsOf]

/-- A key stands at i. -/
def StandsK (l : List (ByteArray × Nat)) (key : ByteArray) (i : Nat) : Prop := ∃ h : i < l.length, l[i].1 = key

set_option maxRecDepth 100000 in
set_option maxHeartbeats 3200000 in
theorem kbsearch_any (a : Option Addr) (cap : Nat) (l : List (ByteArray × Nat)) (key : ByteArray) (hs : Rises (lowsOf l)) (hlen : l.length ≤ 1000000) (w : World) (hK : KidsAt w a l) :
    Calls Tryz.prog 142 #[.slice a l.length cap, .string key, .func (.func 143) #[] #[]] w fun e w' => ∃ i f, e = .returned (.tuple #[.int .i64 (i : Nat), .bool f]) ∧ IsPos (lowsOf l) key i ∧ (f = true ↔ StandsK l key i) ∧ Turn [] w w' := by
  have HK := hide hK
  have HS := hide hs
  have HLk := hide (lowsOf_length l)
  clear hK hs
  go_enter Tryz.func142, Tryz.ntmps142
  go_wp2_with fail
  go_loopw [9, 10] (fun i j wr => ∃ i' j' : Nat, i' ≤ j' ∧ j' ≤ l.length ∧ i = .int .i64 i' ∧ j = .int .i64 j' ∧ Hid (∀ m (h : m < l.length), m < i' → klt l[m].1 key) ∧ Hid (∀ m (h : m < l.length), j' ≤ m → ¬ klt l[m].1 key) ∧ Turn [] w wr) (fun i j _ => (intOf j).toNat - (intOf i).toNat)
  case atStart => exact ⟨0, l.length, Nat.zero_le _, Nat.le_refl _, rfl, rfl, fun m _ h => absurd h (Nat.not_lt_zero _), fun m h h2 => absurd h2 (by omega), Turn.refl _ _⟩
  case round =>
    obtain ⟨i, j, hij, hjl, rfl, rfl, H1, H2, hT⟩ := hrel
    have HT := hide hT
    clear hT
    by_cases hlt : i < j
    · obtain ⟨h, hh, hi1, hi2⟩ : ∃ h : Nat, h = (i + j) / 2 ∧ i ≤ h ∧ h < j := ⟨_, rfl, by omega, by omega⟩
      have e1 : ((i : Int) + (j : Int)) / 2 = (h : Int) := by omega
      have hhl : h < l.length := by omega
      obtain ⟨b, off, rfl, hc, hd⟩ := (HK.out.turn0 HT.out).at hhl
      clear hh
      go_wp2_with fail
      refine (kfind1_any l[h].1 l[h].2 key _).mono ?_
      rintro e w1 ⟨rfl, hT1⟩
      have HT1 := hide (HT.out.then hT1 (by simp))
      clear hT1 hc hd
      by_cases hk : cmp l[h].1 key < 0
      · have HE : Hid (∀ m (h' : m < l.length), m < h + 1 → klt l[m].1 key) := fun m h' hm => by
          by_cases he : m = h
          · subst he; exact cmp_neg.1 hk
          · have := HS.out.get (i := m) (j := h) (by omega) (by rw [HLk.out]; exact hhl)
            rw [lowsOf_get h', lowsOf_get hhl] at this
            exact klt_trans this (cmp_neg.1 hk)
        generalize cmp l[h].1 key = c at *
        go_wp2_with fail
        go_roundw
        case rel => exact ⟨h + 1, j, by omega, hjl, by go_num, rfl, HE, H2, HT1.out⟩
        case measure => simp [intOf]; omega
      · have HE : Hid (∀ m (h' : m < l.length), h ≤ m → ¬ klt l[m].1 key) := fun m h' hm => by
          by_cases he : m = h
          · subst he; exact fun e => hk (cmp_neg.2 e)
          · have := HS.out.get (i := h) (j := m) (by omega) (by rw [HLk.out]; exact h')
            rw [lowsOf_get h', lowsOf_get hhl] at this
            exact fun e => hk (cmp_neg.2 (klt_trans this e))
        generalize cmp l[h].1 key = c at *
        go_wp2_with fail
        go_roundw
        case rel => exact ⟨i, h, by omega, by omega, rfl, rfl, H1, HE, HT1.out⟩
        case measure => simp [intOf]; omega
    · obtain rfl : i = j := by omega
      have HPos : Hid (IsPos (lowsOf l) key i) := ⟨by rw [HLk.out]; exact hjl, fun m h hm => by rw [HLk.out] at h; rw [lowsOf_get h]; exact H1.out m h hm, fun m h hm => by rw [HLk.out] at h; rw [lowsOf_get h]; exact H2.out m h hm⟩
      by_cases hil : i < l.length
      · obtain ⟨b, off, rfl, hc, hd⟩ := (HK.out.turn0 HT.out).at hil
        go_wp2_with fail
        refine (kfind1_any l[i].1 l[i].2 key _).mono ?_
        rintro e w1 ⟨rfl, hT1⟩
        have HT1 := hide (HT.out.then hT1 (by simp))
        have HE : Hid (∀ f : Bool, f = decide (cmp l[i].1 key = 0) → (f = true ↔ StandsK l key i)) := fun f e => by
          rw [e, decide_eq_true_iff, cmp_zero]
          exact ⟨fun h => ⟨hil, h⟩, fun ⟨_, h⟩ => h⟩
        clear hT1 hc hd
        by_cases hz : cmp l[i].1 key = 0
        · rw [hz] at HE ⊢
          clear hz
          go_wp2_with fail
          refine bodyPost_ret (v := .tuple #[.int .i64 (i : Nat), .bool true]) (by simp [results, Tryz.results142, go_sem]) rfl ⟨i, true, rfl, HPos.out, HE.out true (by simp), HT1.out⟩
        · have hzb : (cmp l[i].1 key == 0) = false := by simpa using hz
          have HF := hide (HE.out false (by simp [hz]))
          generalize cmp l[i].1 key = c at *
          go_wp2_with fail
          refine bodyPost_ret (v := .tuple #[.int .i64 (i : Nat), .bool false]) (by simp [results, Tryz.results142, go_sem]) rfl ⟨i, false, rfl, HPos.out, HF.out, HT1.out⟩
      · go_wp2_with fail
        refine bodyPost_ret (v := .tuple #[.int .i64 (i : Nat), .bool false]) (by simp [results, Tryz.results142, go_sem]) rfl ⟨i, false, rfl, HPos.out, ⟨fun h => (by cases h), fun ⟨h, _⟩ => absurd h hil⟩, HT.out⟩

/-- Where a key is looked for. -/
def IsKid (l : List (ByteArray × Nat)) (key : ByteArray) (i : Nat) : Prop :=
  i < l.length ∧ (∀ h : i < l.length, i = 0 ∨ ¬ klt key l[i].1) ∧ ∀ m (h : m < l.length), i < m → klt key l[m].1

theorem isKid_of {l : List (ByteArray × Nat)} {key : ByteArray} {p : Nat} {f : Bool} (hs : Rises (lowsOf l)) (hne : 0 < l.length) (hp : IsPos (lowsOf l) key p) (hf : f = true ↔ StandsK l key p) : IsKid l key (if f then p else p - 1) := by
  have hl := lowsOf_length l
  have hget : ∀ m (h : m < l.length), (lowsOf l)[m]'(by omega) = l[m].1 := fun m h => lowsOf_get h
  have hup : ∀ m m' (h : m < l.length) (h' : m' < l.length), m < m' → klt l[m].1 l[m'].1 := fun m m' h h' hm => by
    have := hs.get (i := m) (j := m') hm (by omega)
    rwa [hget m h, hget m' h'] at this
  obtain ⟨h1, h2, h3⟩ := hp
  have h2' : ∀ m (h : m < l.length), m < p → klt l[m].1 key := fun m h hm => by
    have := h2 m (by omega) hm
    rwa [hget m h] at this
  have h3' : ∀ m (h : m < l.length), p ≤ m → ¬ klt l[m].1 key := fun m h hm => by
    have := h3 m (by omega) hm
    rwa [hget m h] at this
  cases f with
  | true =>
    obtain ⟨hlt, he⟩ := hf.1 rfl
    refine ⟨hlt, fun _ => .inr ?_, fun m h hm => ?_⟩
    · rw [if_pos rfl] at *
      rw [show l[(if true = true then p else p - 1)] = l[p] from rfl] at *
      rw [he]
      exact klt_irrefl _
    · have := hup p m hlt h hm
      rwa [he] at this
  | false =>
    have hno : ¬ StandsK l key p := fun h => by cases hf.2 h
    have hgt : ∀ m (h : m < l.length), p ≤ m → klt key l[m].1 := fun m h hm => by
      rcases klt_tri key l[m].1 with hk | hk | hk
      · exact hk
      · rcases Nat.eq_or_lt_of_le hm with rfl | hm'
        · exact absurd ⟨h, hk.symm⟩ hno
        · have h5 := hup p m (by omega) h hm'
          rw [← hk] at h5
          exact absurd h5 (h3' p (by omega) (Nat.le_refl _))
      · exact absurd hk (h3' m h hm)
    show IsKid l key (p - 1)
    refine ⟨by omega, fun h => ?_, fun m h hm => hgt m h (by omega)⟩
    rcases Nat.eq_zero_or_pos p with rfl | hp0
    · exact .inl rfl
    · exact .inr (klt_asymm (h2' (p - 1) h (by omega)))

set_option maxRecDepth 100000 in
set_option maxHeartbeats 1000000 in
theorem bfind_any (a : Option Addr) (cap : Nat) (l : List (ByteArray × Nat)) (key : ByteArray) (hs : Rises (lowsOf l)) (hne : 0 < l.length) (hlen : l.length ≤ 1000000) (w : World) (hK : KidsAt w a l) :
    Calls Tryz.prog 106 #[.slice a l.length cap, .string key] w fun e w' => ∃ i : Nat, e = .returned (.int .i64 i) ∧ IsKid l key i ∧ Turn [] w w' := by
  have HC := hide (kbsearch_any a cap l key hs hlen w hK)
  have HS := hide hs
  have HN := hide hne
  clear hs hK hne
  go_enter Tryz.func106, Tryz.ntmps106
  go_wp2_with fail
  refine HC.out.mono ?_
  rintro e w1 ⟨i, f, rfl, h1, h2, h3⟩
  have hil : i ≤ 1000000 := by have := h1.1; rw [lowsOf_length] at this; omega
  have HI := hide (isKid_of HS.out HN.out h1 h2)
  have H3 := hide h3
  clear h1 h2 h3
  cases f with
  | true =>
    go_wp2_with fail
    go_ret
    exact ⟨i, rfl, HI.out, H3.out⟩
  | false =>
    rcases Nat.eq_zero_or_pos i with rfl | hi
    · go_wp2_with fail
      go_ret
      exact ⟨0, rfl, HI.out, H3.out⟩
    · obtain ⟨j, rfl⟩ : ∃ j, i = j + 1 := ⟨i - 1, by omega⟩
      have hm : max (0 : Int) (((j + 1 : Nat) : Int) - 1) = (j : Nat) := by omega
      clear hi
      go_wp2_with fail
      · go_ret
        exact ⟨j, by congr 2, HI.out, H3.out⟩
      · go_ret
        obtain rfl : j = 0 := by omega
        exact ⟨0, rfl, HI.out, H3.out⟩
end Go.Proofs.YthgpjkcgccdldaaGreatDoor
