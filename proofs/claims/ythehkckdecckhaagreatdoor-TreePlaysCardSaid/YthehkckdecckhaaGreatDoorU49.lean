/-
  How ints read as arguments.
  Scan of all, as the laws ask it; two trees on one disk.
  Scan after scan, each from behind the last key: by itself. A Put that is refused.
  Is a tree as low as it must be? A number's remainder, exactly; the keys of TreeGrows differ.
  What TreeGrows keeps: the keys that are there, how many places are new.
-/
import Derived.Test.YthehkckdecckhaaGreatDoorU48
import Derived.ProofKit
import Derived.OpenShut
import Derived.SizedLaws
import Derived.Deep.Strs
import Derived.Deep.Slices

namespace Go.Proofs.YthehkckdecckhaaGreatDoor
open Go.ChangeShapes Go.WideShapes Go.ChangeAt Go.RowKit
open Go.Deep

/-- Ints that a slice leads to. -/
def NumsAt (w : World) (a : Option Addr) (l : List Int) : Prop := l = [] ∨ ∃ b off, a = some ⟨b, off, none⟩ ∧ ∀ i, i < l.length → w.cell? ⟨b, off + i, none⟩ = some (.int .i64 (l.getD i 0))
theorem NumsAt.at {w : World} {a : Option Addr} {l : List Int} (h : NumsAt w a l) {i : Nat} (hi : i < l.length) : ∃ b off, a = some ⟨b, off, none⟩ ∧ w.cell? ⟨b, off + i, none⟩ = some (.int .i64 (l.getD i 0)) := by
  rcases h with rfl | ⟨b, off, rfl, h⟩
  · simp at hi
  · exact ⟨b, off, rfl, h i hi⟩
theorem NumsAt.turn0 {w w' : World} {a : Option Addr} {l : List Int} (h : NumsAt w a l) (hT : Turn [] w w') : NumsAt w' a l := by
  rcases h with rfl | ⟨b, off, rfl, h⟩
  · exact .inl rfl
  · exact .inr ⟨b, off, rfl, fun i hi => (hT.cell (p := ⟨b, off + i, none⟩) (lt_of_cell (h i hi)) (by simp)).trans (h i hi)⟩
/-- The ints that came in, out of how they are read. -/
theorem nums_of {H : Type} {enc : TypeId × Value → H} {W : World} {fuel : Nat} {a : Option Addr} {n c : Nat} {y : DataW H × List MemPlace} (h : DataW.trod enc Tryz.prog W 0 (fun _ => true) true fuel 54 [.slice a n c] = some y) :
    ∃ l : List Int, n = l.length ∧ NumsAt W a l ∧ l.length ≤ 9223372036854775807 := by
  rcases open_ints Tryz.underlying54 Tryz.underlying3 (by kernel_rfl) h with ⟨hcs, _⟩ | ⟨x, l, c', zs, hcs, _, hl, hm, hz, hx, hcell, hwz⟩
  · have e := List.singleton_inj.1 hcs
    injection e with e1 e2 e3
    subst e1 e2 e3
    exact ⟨[], rfl, .inl rfl, by simp⟩
  · have e := List.singleton_inj.1 hcs
    injection e with e1 e2 e3
    subst e1 e2 e3
    have hz' : zs.length = c := by simpa using hz
    unfold maxLen at hm
    refine ⟨zs.take n, by rw [List.length_take]; omega, ?_, by rw [List.length_take]; omega⟩
    by_cases hn : n = 0
    · subst hn; exact .inl (by simp)
    have hc0 := hcell 0 (by omega)
    rw [show x.add 0 = x from rfl] at hc0
    obtain ⟨_, _, _, _, hsp⟩ := World.shape?_of_cell? hc0
    obtain ⟨b, off, sp⟩ := x
    obtain rfl : sp = none := hsp
    refine .inr ⟨b, off, rfl, fun i hi => ?_⟩
    rw [List.length_take] at hi
    have hc := hcell i (by omega)
    rw [Addr.add_mid] at hc
    rw [hc, List.getD_eq_getElem?_getD, List.getD_eq_getElem?_getD, List.getElem?_take, if_pos (by omega)]

end Go.Proofs.YthehkckdecckhaaGreatDoor

namespace Go.Proofs.YthehkckdecckhaaGreatDoor
open Go.RowKit Go.Maps

theorem tg_scan {w : World} {O : Nat → Prop} {t p b m sm rb : Nat} {s : St} {q : Pg} {Dn S : Stt} {D : Dk} {G : Gh} {Rw : Nat → Prop} {ds : List Nat} {rd rt : Root?} (h : TG w O t p b m sm rb s q Dn S D G Rw ds rd rt) (lo hi : ByteArray) (lim : Int) (hn : (flatR rt).length ≤ 100000) :
    Calls Tryz.prog 21 #[.pointer (some ⟨t, 0, none⟩), .string lo, .string hi, .int .i64 lim] w fun e w' => ∃ a c, e = .returned (.slice a (scanL lo hi lim (flatR rt)).length c) ∧ KVsAt w' a (scanL lo hi lim (flatR rt)) ∧ ((scanL lo hi lim (flatR rt)).length ≤ c ∧ (a = none → c = 0)) ∧ (∀ x, a = some x → w.heap.size ≤ x.block ∧ x.block < w'.heap.size) ∧ ∃ G' Rw' r, TG w' O t p b m sm rb s { q with rd := r } Dn S D G' Rw' ds rd rt ∧ TStep p w w' G G' Rw Rw' ∧ ∀ x, a = some x → G' x.block = none ∧ ¬ Rw' x.block := by
  refine (tm_scan h.td h.now h.ok lo hi lim (by omega)).mono ?_
  rintro e w' ⟨r, rfl, hO, G', Rw', r', hTD, hG, hS, hout⟩
  obtain ⟨a, c, hv, hn2, hl, hnil, hp, hb⟩ := own_room hO
  have hlen : (kvCells (scanL lo hi lim (flatR rt))).length = (scanL lo hi lim (flatR rt)).length := kvCells_length _
  refine ⟨a, c, by rw [hv], hp.kvs, ⟨hl, hnil⟩, hb, G', Rw', r', h.seen r' hTD hG, hS, fun x hx => hout x.block ?_⟩
  rw [hv, hx]
  have := hb x hx
  have hsp : x = ⟨x.block, x.off, x.spot⟩ := rfl
  rfl

/-- Another tree's calls leave this one alone. -/
theorem TG.beside {w w' : World} {O : Nat → Prop} {t p b m sm rb : Nat} {s : St} {q : Pg} {Dn S : Stt} {D : Dk} {G : Gh} {Rw : Nat → Prop} {ds : List Nat} {rd rt : Root?} (h : TG w O t p b m sm rb s q Dn S D G Rw ds rd rt) {O1 : Nat → Prop} {t1 p1 sm1 rb1 : Nat} {s1 : St} {q1 : Pg} {Dn1 S1 : Stt} {D1 : Dk} {G1 G1' : Gh} {Rw1 Rw1' : Nat → Prop} {ds1 : List Nat} {rd1 rt1 : Root?} (h1 : TG w O1 t1 p1 b m sm1 rb1 s1 q1 Dn1 S1 D1 G1 Rw1 ds1 rd1 rt1) (hS : TStep p1 w w' G1 G1' Rw1 Rw1') (hn : ∀ x, (x = p1 ∨ G1 x ≠ none) → x ∉ [t, p, sm, rb] ∧ G x = none ∧ ¬ Rw x ∧ S.dropped.ownBlock ≠ some x) : TG w' O t p b m sm rb s q Dn S D G Rw ds rd rt := by
  obtain ⟨X, hX, hX1⟩ := hS.turn
  refine h.others hX fun x hx => ?_
  obtain ⟨g1, g2⟩ := hn x (hX1 x hx)
  have h3 : x ≠ 1 ∧ x ≠ b ∧ x ≠ m := by
    rcases hX1 x hx with rfl | e
    · have ha := h1.td.tm.pa.apart
      have hp := h1.td.tm.pa.pos
      exact ⟨by omega, ha.pb, ha.pm⟩
    · have := not7 (h1.td.tm.own x (.inl e)).1
      exact ⟨this.1, this.2.2.1, this.2.2.2.1⟩
  refine ⟨?_, g2⟩
  simp at g1 ⊢
  exact ⟨h3.1, g1.1, g1.2.1, h3.2.1, h3.2.2, g1.2.2.1, g1.2.2.2⟩

end Go.Proofs.YthehkckdecckhaaGreatDoor

namespace Go.Proofs.YthehkckdecckhaaGreatDoor
open Go.RowKit Go.Maps Go.Lib

theorem cmpL_end : ∀ (a x : List UInt8), compareBytes x a ≠ -1 → compareBytes a (x ++ [0]) = -1
  | [], [], _ => by decide
  | [], y :: x, _ => by unfold compareBytes; rfl
  | z :: a, [], h => by exact absurd rfl h
  | z :: a, y :: x, h => by
    have ih := cmpL_end a x
    rw [List.cons_append]
    unfold compareBytes at h ⊢
    by_cases h1 : y < z
    · rw [if_pos h1] at h
      exact absurd rfl h
    · rw [if_neg h1] at h
      by_cases h2 : z < y
      · rw [if_pos h2]
      · rw [if_neg h2] at h
        rw [if_neg h2, if_neg h1]
        exact ih h
theorem cmpL_end2 : ∀ (a x : List UInt8), compareBytes x a = -1 → compareBytes a (x ++ [0]) ≠ -1
  | [], [], h => by exact absurd h (by decide)
  | [], y :: x, h => by
    have e : compareBytes (y :: x) [] = 1 := rfl
    rw [e] at h
    exact absurd h (by decide)
  | z :: a, [], _ => by
    rw [List.nil_append]
    unfold compareBytes
    by_cases h1 : z < 0
    · exact absurd h1 (UInt8.not_lt_zero)
    · rw [if_neg h1]
      by_cases h2 : (0 : UInt8) < z
      · rw [if_pos h2]
        decide
      · rw [if_neg h2]
        cases a with
        | nil => decide
        | cons b a =>
          show (1 : Int) ≠ -1
          decide
  | z :: a, y :: x, h => by
    have ih := cmpL_end2 a x
    rw [List.cons_append]
    unfold compareBytes at h ⊢
    by_cases h1 : y < z
    · have h3 : ¬ z < y := fun h3 => absurd (UInt8.lt_trans h1 h3) (UInt8.lt_irrefl _)
      rw [if_neg h3, if_pos h1]
      decide
    · rw [if_neg h1] at h
      by_cases h2 : z < y
      · rw [if_pos h2] at h
        exact absurd h (by decide)
      · rw [if_neg h2] at h
        rw [if_neg h2, if_neg h1]
        exact ih h

/-- Behind a key. -/
def behind (x : ByteArray) : ByteArray := x ++ ⟨#[0]⟩
theorem behind_list (x : ByteArray) : (behind x).data.toList = x.data.toList ++ [0] := by
  unfold behind
  rw [ByteArray.data_append, Array.toList_append]
theorem behind_klt {a x : ByteArray} : klt a (behind x) ↔ ¬ klt x a := by
  unfold klt cmp
  rw [behind_list]
  exact ⟨fun h k => cmpL_end2 _ _ k h, fun h => cmpL_end _ _ h⟩

theorem behind_pos {l : List Kv} (hs : Rises (keysOf l)) {n : Nat} (hn : n < l.length) : IsPos (keysOf l) (behind l[n].1) (n + 1) := by
  refine ⟨by rw [keysOf_length]; omega, fun m hm hmj => ?_, fun m hm hjm => ?_⟩
  · rw [keysOf_length] at hm
    rw [keysOf_get hm, behind_klt]
    by_cases e : m = n
    · subst e; exact klt_irrefl _
    · have := hs.get (show m < n by omega) (by rw [keysOf_length]; exact hn)
      rw [keysOf_get hm, keysOf_get hn] at this
      exact klt_asymm this
  · rw [keysOf_length] at hm
    rw [keysOf_get hm, behind_klt]
    have := hs.get (show n < m by omega) (by rw [keysOf_length]; exact hm)
    rw [keysOf_get hm, keysOf_get hn] at this
    exact fun h => h this
theorem empty_pos (l : List Kv) : IsPos (keysOf l) ⟨#[]⟩ 0 := ⟨Nat.zero_le _, fun m _ h => absurd h (by omega), fun m _ _ => not_below _⟩

theorem scanRun_take {lim : Int} (h1 : 1 ≤ lim) : ∀ (l xs : List Kv), (xs.length : Int) < lim → (scanRun ⟨#[]⟩ lim xs l).1 = xs ++ l.take (lim.toNat - xs.length)
  | [], xs, _ => by simp [scanRun]
  | x :: l, xs, h => by
    have e : scanStep ⟨#[]⟩ lim xs x = (xs ++ [x], decide (((xs.length + 1 : Nat) : Int) < lim)) := by
      unfold scanStep
      rw [if_neg (fun h => h.1 rfl), decide_eq_false (show ¬ lim < 1 by omega), Bool.false_or]
    rw [scanRun_cons, e]
    obtain ⟨n, hn⟩ : ∃ n, lim.toNat - xs.length = n + 1 := ⟨lim.toNat - xs.length - 1, by omega⟩
    by_cases hl : ((xs.length + 1 : Nat) : Int) < lim
    · rw [if_pos (decide_eq_true hl), scanRun_take h1 l (xs ++ [x]) (by simp; omega), hn, List.take_succ_cons, List.length_append, List.length_singleton, show lim.toNat - (xs.length + 1) = n by omega]
      simp
    · have : n = 0 := by omega
      subst this
      rw [decide_eq_false hl, hn]
      simp
theorem scan_part {l : List Kv} {lo : ByteArray} {n : Nat} {lim : Int} (h1 : 1 ≤ lim) (hp : IsPos (keysOf l) lo n) : scanL lo ⟨#[]⟩ lim l = (l.drop n).take lim.toNat := by
  unfold scanL
  rw [fromK_pos hp, scanRun_take h1 _ _ (by simp; omega)]
  simp

set_option maxRecDepth 100000 in
set_option maxHeartbeats 1600000 in
theorem put_badK (t p b m sm rb : Nat) (s : St) (q : Pg) (D S : Stt) (hd : s.dead = false) (hq : q.dead = false) (k v : ByteArray) (hk : k.size = 0 ∨ 48 < k.size) (hks : k.size ≤ 1000000) (w : World) (hA : PAt w p b m sm rb s q) (hT : TreeAt w t p D S) :
    Calls Tryz.prog 12 #[.pointer (some ⟨t, 0, none⟩), .string k, .string v] w fun e w' => e = .returned (.int .i64 1) ∧ (∃ r, PAt w' p b m sm rb s { q with rd := r }) ∧ Turn [p] w w' := by
  have HC := hide (tdead_any t p b m sm rb s q D S hd hq w hA hT)
  clear hA hT
  rcases hk with h | h
  · have hk0 : k.toList.isEmpty = true := by rw [toList_empty]; exact decide_eq_true h
    go_enter Tryz.func12, Tryz.ntmps12
    go_wp2_with fail
    with_reducible refine HC.out.mono ?_
    rintro e w1 ⟨rfl, hA1, hT1⟩
    have HA1 := hide hA1
    clear hA1
    go_wp2_with fail
    go_ret
    exact ⟨rfl, HA1.out, hT1⟩
  · have hk0 : k.toList.isEmpty = false := by rw [toList_empty]; exact decide_eq_false (by omega)
    go_enter Tryz.func12, Tryz.ntmps12
    go_wp2_with fail
    with_reducible refine HC.out.mono ?_
    rintro e w1 ⟨rfl, hA1, hT1⟩
    have HA1 := hide hA1
    clear hA1
    go_wp2_with fail
    go_ret
    exact ⟨rfl, HA1.out, hT1⟩

end Go.Proofs.YthehkckdecckhaaGreatDoor

namespace Go.Proofs.YthehkckdecckhaaGreatDoor
open Go.RowKit Go.Maps

set_option maxRecDepth 100000 in
set_option maxHeartbeats 3200000 in
theorem low_any {w : World} {O : Nat → Prop} {t p b m sm rb : Nat} {s : St} {q : Pg} {Dn S : Stt} {D : Dk} {G : Gh} {Rw : Nat → Prop} {ds : List Nat} {rd rt : Root?} (h : TG w O t p b m sm rb s q Dn S D G Rw ds rd rt) (hn : (flatR rt).length ≤ 100000) :
    Calls Tryz.prog 27 #[.pointer (some ⟨t, 0, none⟩)] w fun e w' => e = .returned (.bool true) ∧ w' = w := by
  have HL := hide (len_any t p Dn S w h.td.tm.tr)
  rw [h.keys] at HL
  have HH := hide (tg_height h)
  have hlow := h.ok.low
  have hh20 := h.ok.height (by omega)
  have HF : Hid (flatR rt = [] → (flatR rt).length = 0) := fun e => by rw [e]; rfl
  have hl2 : heightR rt = 0 ∧ (flatR rt).length = 0 ∨ 1 ≤ heightR rt ∧ 2 ^ (heightR rt - 1) ≤ (flatR rt).length := by
    rcases hlow with ⟨h1, h2⟩ | h2
    · exact .inl ⟨h1, HF.out h2⟩
    · exact .inr h2
  generalize (flatR rt).length = n at *
  generalize heightR rt = hr at *
  have HL2 := hide hl2
  clear hlow HF hl2
  go_enter Tryz.func27, Tryz.ntmps27
  go_wp2_with fail
  refine HL.out.mono ?_
  rintro e w1 ⟨rfl, ew⟩
  obtain rfl : w1 = w := ew
  go_wp2_with fail
  refine HH.out.mono ?_
  rintro e w2 ⟨rfl, ew⟩
  obtain rfl : w2 = w1 := ew
  by_cases h0 : n = 0
  · obtain rfl : hr = 0 := by
      rcases HL2.out with h | ⟨h1, h2⟩
      · exact h.1
      · have := Nat.two_pow_pos (hr - 1)
        omega
    subst h0
    go_wp2_with fail
    go_ret
    exact ⟨rfl, rfl⟩
  · have h1 : 1 ≤ hr := by rcases HL2.out with h | h <;> omega
    have h2 : 2 ^ (hr - 1) ≤ n := by rcases HL2.out with h | h <;> omega
    have H2 := hide h2
    clear h2
    go_wp2_with fail
    go_loopw [5] (fun i wr => ∃ j : Nat, j ≤ 20 ∧ i = .int .i64 (j : Nat) ∧ wr = w2) (fun i _ => 20 - (intOf i).toNat)
    case atStart => exact ⟨0, by omega, rfl, rfl⟩
    case round =>
      obtain ⟨j, hj, rfl, rfl⟩ := hrel
      have hpc : (2 : Int) ^ (j + 1) = ((2 ^ (j + 1) : Nat) : Int) := by push_cast; rfl
      have hp0 : (2 : Nat) ^ (j + 1) ≤ 2097152 := Nat.pow_le_pow_right (n := 2) (by decide) (show j + 1 ≤ 21 by omega)
      by_cases hc : (2 : Nat) ^ (j + 1) ≤ n + 1
      · have hj2 : j < 19 := Classical.byContradiction fun hx => by
          have : (2 : Nat) ^ 20 ≤ 2 ^ (j + 1) := Nat.pow_le_pow_right (n := 2) (by decide) (show 20 ≤ j + 1 by omega)
          omega
        have hci : (2 : Int) ^ (j + 1) ≤ (n : Int) + 1 := by rw [hpc]; omega
        have hc0 : (0 : Int) ≤ (2 : Int) ^ (j + 1) := by rw [hpc]; exact Int.natCast_nonneg _
        clear hpc hp0 hc
        go_wp2_with fail
        go_roundw
        case rel => exact ⟨j + 1, by omega, by go_num, trivial⟩
        case measure => simp [intOf]; omega
      · have hlow : hr ≤ 1 + j := Classical.byContradiction fun hx => by
          have h3 : (2 : Nat) ^ (j + 1) ≤ 2 ^ (hr - 1) := Nat.pow_le_pow_right (n := 2) (by decide) (show j + 1 ≤ hr - 1 by omega)
          have := H2.out
          omega
        have hci : (n : Int) + 1 < (2 : Int) ^ (j + 1) := by rw [hpc]; omega
        have hc0 : (2 : Int) ^ (j + 1) ≤ 2097152 := by rw [hpc]; omega
        clear hpc hp0 hc
        have hdl : decide ((hr : Int) ≤ 1 + (j : Int)) = true := decide_eq_true (by omega)
        go_wp2_with fail
        go_ret
        exact ⟨rfl, rfl⟩

set_option maxRecDepth 100000 in
set_option maxHeartbeats 1600000 in
theorem within_nat (a n : Nat) (hn : 0 < n) (hn2 : n ≤ 1000000) (_ha : a ≤ 1000000000000) (w : World) : Calls Tryz.prog 11 #[.int .i64 (a : Nat), .int .i64 (n : Nat)] w fun e w' => e = .returned (.int .i64 ((a % n : Nat) : Int)) ∧ w' = w := by
  have hm : (a : Int).tmod (n : Int) = ((a % n : Nat) : Int) := by
    rw [Int.tmod_eq_emod_of_nonneg (Int.natCast_nonneg _)]
    exact (Int.natCast_emod a n).symm
  have hlt := Nat.mod_lt a hn
  have t1 : decide (((a % n : Nat) : Int) < 0) = false := decide_eq_false (Int.not_lt.2 (Int.natCast_nonneg _))
  generalize a % n = y at *
  rw [← hm] at *
  generalize hy : (a : Int).tmod n = z at *
  go_enter Tryz.func11, Tryz.ntmps11
  go_wp2
  go_ret
  exact ⟨rfl, rfl⟩

/-- A key of TreeGrows. -/
def gk (st j : Nat) : ByteArray := nm (j * st % 17576)
theorem gk_size (st j : Nat) : (gk st j).size = 3 := nm_size _
theorem cop {st : Nat} (h2 : st % 2 = 1) (h13 : st % 13 ≠ 0) : Nat.Coprime 17576 st := by
  have h : Nat.Coprime 26 st := by
    unfold Nat.Coprime
    rw [Nat.gcd_rec]
    have hm : st % 26 % 2 = 1 := by omega
    have hn : st % 26 % 13 ≠ 0 := by omega
    have hl : st % 26 < 26 := by omega
    have all : ∀ r, r < 26 → r % 2 = 1 → r % 13 ≠ 0 → Nat.gcd r 26 = 1 := by decide
    exact all _ hl hm hn
  exact Nat.Coprime.pow_left 3 h
theorem gk_inj {st i j : Nat} (h2 : st % 2 = 1) (h13 : st % 13 ≠ 0) (hi : i < 17576) (hj : j < 17576) (h : gk st i = gk st j) : i = j := by
  have h1 := nm_inj (Nat.mod_lt _ (by decide)) (Nat.mod_lt _ (by decide)) h
  have key : ∀ {a b : Nat}, a ≤ b → b < 17576 → a * st % 17576 = b * st % 17576 → a = b := fun {a b} hab hb he => by
    have hd : 17576 ∣ (b - a) * st := by
      rw [Nat.sub_mul]
      have hle := Nat.mul_le_mul_right st hab
      exact Nat.dvd_of_mod_eq_zero (by omega)
    have := (cop h2 h13).dvd_of_dvd_mul_right hd
    rcases Nat.eq_zero_or_pos (b - a) with h | h
    · omega
    · have := Nat.le_of_dvd h this
      omega
  rcases Nat.le_total i j with hle | hle
  · exact key hle hj h1
  · exact (key hle hi h1.symm).symm

end Go.Proofs.YthehkckdecckhaaGreatDoor

namespace Go.Proofs.YthehkckdecckhaaGreatDoor
open Go.RowKit Go.Maps

theorem within_eq (x : Int) (a n : Nat) (hx : x = (a : Nat)) (hn : 0 < n) (hn2 : n ≤ 1000000) (ha : a ≤ 1000000000000) (w : World) : Calls Tryz.prog 11 #[.int .i64 x, .int .i64 (n : Nat)] w fun e w' => e = .returned (.int .i64 ((a % n : Nat) : Int)) ∧ w' = w := by
  subst hx
  exact within_nat a n hn hn2 ha w

/-- The keys from i - N to min i N are there, and no others. -/
structure Keys (st N i : Nat) (l : List Kv) : Prop where
  some : ∀ x ∈ l, ∃ j, i - N ≤ j ∧ j < min i N ∧ x.1 = gk st j
  all : ∀ j, i - N ≤ j → j < min i N → ∃ v, (gk st j, v) ∈ l
  len : l.length = min i N - (i - N)
theorem Keys.nil (st N : Nat) : Keys st N 0 [] := ⟨fun x hx => (by cases hx), fun j _ h => by omega, by simp⟩

theorem mem_putK_self (l : List Kv) (k v : ByteArray) : (k, v) ∈ putK l k v := by
  unfold putK
  exact List.mem_append_right _ (List.mem_cons_self ..)
theorem mem_putK_of {l : List Kv} {k v : ByteArray} {x : Kv} (h : x ∈ l) (hn : x.1 ≠ k) : x ∈ putK l k v := by
  unfold putK
  rcases klt_tri x.1 k with h1 | h1 | h1
  · exact List.mem_append_left _ (List.mem_filter.2 ⟨h, decide_eq_true h1⟩)
  · exact absurd h1 hn
  · exact List.mem_append_right _ (List.mem_cons_of_mem _ (List.mem_filter.2 ⟨h, decide_eq_true h1⟩))

theorem Keys.fresh {st N i : Nat} {l : List Kv} (h : Keys st N i l) (h2 : st % 2 = 1) (h13 : st % 13 ≠ 0) (hN : N < 250) (hi : i < N) : getK l (gk st i) = none := by
  refine getK_absent fun x hx e => ?_
  obtain ⟨j, h1, h3, h4⟩ := h.some x hx
  rw [e] at h4
  have := gk_inj h2 h13 (by omega) (by omega) h4
  omega
theorem Keys.put {st N i : Nat} {l : List Kv} (h : Keys st N i l) (h2 : st % 2 = 1) (h13 : st % 13 ≠ 0) (hN : N < 250) (hi : i < N) (hr : (l.map Prod.fst).Pairwise klt) (v : ByteArray) : Keys st N (i + 1) (putK l (gk st i) v) := by
  refine ⟨fun x hx => ?_, fun j h1 h3 => ?_, ?_⟩
  · rcases putK_mem hx with rfl | hx
    · exact ⟨i, by omega, by omega, rfl⟩
    · obtain ⟨j, g1, g2, g3⟩ := h.some x hx
      exact ⟨j, by omega, by omega, g3⟩
  · by_cases e : j = i
    · subst e
      exact ⟨v, mem_putK_self _ _ _⟩
    · obtain ⟨v', hv⟩ := h.all j (by omega) (by omega)
      refine ⟨v', mem_putK_of hv fun e2 => e ?_⟩
      exact gk_inj h2 h13 (by omega) (by omega) e2
  · rw [putK_len hr, h.fresh h2 h13 hN hi, h.len]
    simp
    omega
theorem Keys.there {st N i : Nat} {l : List Kv} (h : Keys st N i l) (hi : N ≤ i) (hi2 : i - N < N) : ∃ v, getK l (gk st (i - N)) = .some v := by
  obtain ⟨v, hv⟩ := h.all (i - N) (Nat.le_refl _) (by omega)
  cases hg : getK l (gk st (i - N)) with
  | none => exact absurd rfl (getK_not hg _ hv)
  | some y => exact ⟨y, rfl⟩
theorem Keys.del {st N i : Nat} {l : List Kv} (h : Keys st N i l) (h2 : st % 2 = 1) (h13 : st % 13 ≠ 0) (hN : N < 250) (hi : N ≤ i) (hi2 : i - N < N) (hr : (l.map Prod.fst).Pairwise klt) : Keys st N (i + 1) (delK l (gk st (i - N))) := by
  refine ⟨fun x hx => ?_, fun j h1 h3 => ?_, ?_⟩
  · unfold delK at hx
    obtain ⟨hx, hne⟩ := List.mem_filter.1 hx
    obtain ⟨j, g1, g2, g3⟩ := h.some x hx
    have hne' : x.1 ≠ gk st (i - N) := by simpa using hne
    have : j ≠ i - N := fun e => hne' (by rw [g3, e])
    exact ⟨j, by omega, by omega, g3⟩
  · obtain ⟨v, hv⟩ := h.all j (by omega) (by omega)
    refine ⟨v, ?_⟩
    unfold delK
    refine List.mem_filter.2 ⟨hv, ?_⟩
    have : gk st j ≠ gk st (i - N) := fun e => by
      have := gk_inj h2 h13 (by omega) (by omega) e
      omega
    simpa using this
  · obtain ⟨v, hv⟩ := h.there hi hi2
    have := delK_len hr hv
    have := h.len
    omega

theorem grow_fresh {f f' h h' tp kk : Nat} (h1 : f ≤ 2 * (1 + tp) * kk) (h2 : f' ≤ f + (2 * max 1 h + 1)) (h3 : h ≤ tp) (h4 : 1 ≤ h ∨ 1 ≤ h') : f' ≤ 2 * (1 + max tp h') * (kk + 1) := by
  have e : 2 * (1 + max tp h') * (kk + 1) = 2 * (1 + max tp h') * kk + 2 * (1 + max tp h') := Nat.mul_succ _ _
  have g : 2 * (1 + tp) * kk ≤ 2 * (1 + max tp h') * kk := Nat.mul_le_mul_right _ (by omega)
  rw [e]
  omega
theorem RootOk.high {rt : Root?} (h : RootOk rt) (hl : 0 < (flatR rt).length) : 1 ≤ heightR rt := by
  rcases h.low with ⟨_, h2⟩ | h2
  · rw [h2] at hl
    cases hl
  · exact h2.1
/-- There is room for all but the pages of what is committed. -/
theorem TG.room {w : World} {O : Nat → Prop} {t p b m sm rb : Nat} {s : St} {q : Pg} {Dn S : Stt} {D : Dk} {G : Gh} {Rw : Nat → Prop} {ds : List Nat} {rd rt : Root?} (h : TG w O t p b m sm rb s q Dn S D G Rw ds rd rt) : s.n ≤ 10 + q.left s.n + 2 * (flatR rd).length := by
  have hf := fp_bd h.td.tm.pa.laid.n64 h.td.tm.pa.laid.n16
  have hp := h.okd.pages
  have hn := h.td.tm.pa.laid.n16
  have := left_ge q s.n (by omega) (pagesR rd) fun k _ _ hk => (h.qK k).1 (by
    rw [h.qs k] at hk
    simpa using hk)
  omega

/-- A call of TreeGrows. -/
def StepR (w w' : World) (O : Nat → Prop) (t p b m : Nat) (s : St) (Dn S : Stt) (D : Dk) (rd rt : Root?) (st N i : Nat) : Prop :=
  KeepO O w w' ∧ ∃ (sm rb : Nat) (q : Pg) (S' : Stt) (G : Gh) (Rw : Nat → Prop) (ds : List Nat) (rt' : Root?), TG w' O t p b m sm rb s q Dn S' D G Rw ds rd rt' ∧ Keys st N i (flatR rt') ∧ S'.changed = true ∧ S'.fresh ≤ S.fresh + (2 * max 1 (heightR rt) + 1) ∧ (1 ≤ heightR rt ∨ 1 ≤ heightR rt')
theorem step_put {w : World} {O : Nat → Prop} {t p b m sm rb : Nat} {s : St} {q : Pg} {Dn S : Stt} {D : Dk} {G : Gh} {Rw : Nat → Prop} {ds : List Nat} {rd rt : Root?} (h : TG w O t p b m sm rb s q Dn S D G Rw ds rd rt) {st N i : Nat} (hK : Keys st N i (flatR rt)) (h2 : st % 2 = 1) (h13 : st % 13 ≠ 0) (hN : N < 250) (hi : i < N) (v : ByteArray) (hv : v.size ≤ 120) (hn : s.n = 4096) (hrd : (flatR rd).length ≤ 250) :
    Calls Tryz.prog 12 #[.pointer (some ⟨t, 0, none⟩), .string (gk st i), .string v] w fun e w' => e = .returned (.int .i64 0) ∧ StepR w w' O t p b m s Dn S D rd rt st N (i + 1) := by
  have hr := h.room
  have hp := h.ok.pages
  have hc := count_le (pagesR rt)
  have hl := hK.len
  have hf := h.fresh
  refine (tg_put h (gk st i) v (by rw [gk_size]; omega) (by rw [gk_size]; omega) hv (by omega) (by omega) (by omega)).mono ?_
  rintro e w' ⟨rfl, rt', G', Rw', r, S', ds', h1, h3, h4, h5, h6⟩
  have hKn := hK.put h2 h13 hN hi h.ok.rises v
  rw [← h3] at hKn
  exact ⟨rfl, h6, sm, rb, _, S', G', Rw', ds', rt', h1, hKn, h4, h5, .inr (h1.ok.high (by rw [hKn.len]; omega))⟩
theorem step_del {w : World} {O : Nat → Prop} {t p b m sm rb : Nat} {s : St} {q : Pg} {Dn S : Stt} {D : Dk} {G : Gh} {Rw : Nat → Prop} {ds : List Nat} {rd rt : Root?} (h : TG w O t p b m sm rb s q Dn S D G Rw ds rd rt) {st N i : Nat} (hK : Keys st N i (flatR rt)) (h2 : st % 2 = 1) (h13 : st % 13 ≠ 0) (hN : N < 250) (hi : N ≤ i) (hi2 : i - N < N) (hrd : (flatR rd).length ≤ 250) :
    Calls Tryz.prog 15 #[.pointer (some ⟨t, 0, none⟩), .string (gk st (i - N))] w fun e w' => e = .returned (.int .i64 0) ∧ StepR w w' O t p b m s Dn S D rd rt st N (i + 1) := by
  have hl := hK.len
  obtain ⟨v, hv⟩ := hK.there hi hi2
  refine (tg_del h (gk st (i - N)) v hv (by omega) (by omega)).mono ?_
  rintro e w' ⟨rfl, rt', G', Rw', r, S', ds', h1, h3, h4, h5, h6⟩
  have hKn := hK.del h2 h13 hN hi hi2 h.ok.rises
  rw [← h3] at hKn
  exact ⟨rfl, h6, sm, rb, _, S', G', Rw', ds', rt', h1, hKn, h4, h5, .inl (h.ok.high (by omega))⟩
theorem StepR.of0 {w0 w w' : World} {O : Nat → Prop} {t p b m : Nat} {s : St} {Dn S : Stt} {D : Dk} {rd rt : Root?} {st N i : Nat} (hT : Turn [] w0 w) (h : StepR w w' O t p b m s Dn S D rd rt st N i) : StepR w0 w' O t p b m s Dn S D rd rt st N i := ⟨(KeepO.of0 hT).trans h.1, h.2⟩

/-- A round of TreeGrows begins. -/
structure GrowI (w0 wr : World) (t p b m N st i kk th k0 : Nat) : Prop where
  ex : ∃ (O : Nat → Prop) (sm rb : Nat) (s : St) (q : Pg) (Dn S : Stt) (D : Dk) (G : Gh) (Rw : Nat → Prop) (ds : List Nat) (rd rt : Root?), TG wr O t p b m sm rb s q Dn S D G Rw ds rd rt ∧ Keys st N i (flatR rt) ∧ (flatR rd).length ≤ 250 ∧ S.fresh ≤ 2 * (1 + th) * kk ∧ heightR rt ≤ th ∧ s.k = k0 ∧ s.n = 4096 ∧ (∀ x, x < w0.heap.size → x ≠ 1 → O x) ∧ Turn [] w0 wr

end Go.Proofs.YthehkckdecckhaaGreatDoor
