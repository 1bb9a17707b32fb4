/-
  slices.DeleteFunc of what was noted, walked: the rest, in the same memory.
  slices.DeleteFunc of what was noted, walked whole.
-/
import Derived.Test.YthgpjkcgccdldaaGreatDoorV46
import Derived.Laws.OwnMore
import Derived.Laws.IdiomCopy

namespace Go.Proofs.YthgpjkcgccdldaaGreatDoor
open Go.RowKit Go.Maps

/-- Cells of a row of the call's own are stored, from the o-th on: what is ahead stays. -/
theorem own_setCells {base : Nat} {e : TypeId} {size g n cap : Nat} : ∀ (vs : List Value) (o : Nat) (w : World) (xs : List Value), w.ownsRow base e size (.slice (some ⟨g, 0, none⟩) n cap) n xs → ∃ xs', (w.setCells g o vs).ownsRow base e size (.slice (some ⟨g, 0, none⟩) n cap) n xs' ∧ xs'.take o = xs.take o ∧ Turn [g] w (w.setCells g o vs)
  | [], o, w, xs, h => ⟨xs, h, rfl, Turn.refl _ _⟩
  | v :: vs, o, w, xs, h => by
    obtain ⟨h1, _⟩ := h.stored o v
    obtain ⟨xs', h2, h3, h4⟩ := own_setCells vs (o + 1) _ _ h1
    refine ⟨xs', h2, ?_, ((Turn.refl [g] w).setCell (List.mem_singleton.2 rfl) o v).trans h4⟩
    have h5 := congrArg (List.take o) h3
    rw [List.take_take, List.take_take, Nat.min_eq_left (by omega)] at h5
    rw [h5, List.take_set_of_le (Nat.le_refl o)]
/-- A row of the call's own is cut off. -/
theorem own_cut {w : World} {base : Nat} {e : TypeId} {size g n cap m : Nat} {xs : List Value} (h : w.ownsRow base e size (.slice (some ⟨g, 0, none⟩) n cap) n xs) (hm : m ≤ n) : w.ownsRow base e size (.slice (some ⟨g, 0, none⟩) m cap) m (xs.take (m * size)) := by
  obtain ⟨h1, ⟨h', _⟩ | ⟨g', cap', cur, h', hb, hg, hnc, hcm, hcs, htake⟩⟩ := h
  · simp at h'
  · simp only [Value.slice.injEq, Option.some.injEq, Addr.mk.injEq, and_true, true_and] at h'
    obtain ⟨rfl, rfl⟩ := h'
    have hle : m * size ≤ n * size := Nat.mul_le_mul_right _ hm
    refine ⟨by rw [List.length_take, h1, Nat.min_eq_left hle], .inr ⟨g, cap, cur, rfl, hb, hg, Nat.le_trans hm hnc, hcm, hcs, ?_⟩⟩
    rw [← htake, List.take_take, Nat.min_eq_left hle]

theorem clear_own {w : World} {base g n cap i : Nat} {xs : List Value} (h : w.ownsRow base 55 2 (.slice (some ⟨g, 0, none⟩) n cap) n xs) (hi : i ≤ n) (ty : TypeId) :
    ∃ w', (Builtin.clear_ #[31] ty #[.slice (hiP (some ⟨g, 0, none⟩) cap i) (n - i) (cap - i)]).run Tryz.prog w = .ok (.tuple #[]) w' ∧ w'.ownsRow base 55 2 (.slice (some ⟨g, 0, none⟩) i cap) i (xs.take (i * 2)) ∧ Turn [g] w w' := by
  have hcap : n ≤ cap := by
    obtain ⟨_, ⟨h', _⟩ | ⟨g', cap', cur, h', _, _, hnc, _⟩⟩ := h
    · simp at h'
    · simp only [Value.slice.injEq, Option.some.injEq, Addr.mk.injEq, and_true, true_and] at h'
      obtain ⟨_, rfl⟩ := h'
      exact hnc
  have hlz : (Builtin.zeroCells (Value.agg #[.string ⟨#[]⟩, .string ⟨#[]⟩]).cells (n - i)).toList.length = 2 * (n - i) := by simp [Builtin.zeroCells, Value.cells]; omega
  by_cases h0 : n - i = 0
  · refine ⟨w, ?_, own_cut h hi, Turn.refl _ _⟩
    rw [h0]
    unfold hiP
    by_cases hci : cap = i
    · rw [if_pos hci]
      simp [Builtin.clear_, run_underlying Tryz.underlying31]
    · rw [if_neg hci, Option.map_some, add_spot]
      simp [Builtin.clear_, run_underlying Tryz.underlying31]
  · have hci : ¬ cap = i := by omega
    have hone : ∀ v ∈ (Builtin.zeroCells (Value.agg #[.string ⟨#[]⟩, .string ⟨#[]⟩]).cells (n - i)).toList, v.oneCell' = true := fun v hv => by
      obtain ⟨j, hj, rfl⟩ := List.mem_iff_getElem.1 hv
      simp [Builtin.zeroCells, Value.cells] at hj ⊢
      rcases Nat.mod_two_eq_zero_or_one j with e | e <;> simp [e] <;> rfl
    have hst := run_storeCells_cells (P := Tryz.prog) g (i * 2) _ 0 w (fun j hj => by
      rw [hlz] at hj
      rw [h.cellAt _ (by omega), List.getElem?_eq_getElem (by rw [h.1]; omega)]
      rfl) (fun j _ => h.frozenAt _) hone
    obtain ⟨xs', k1, k2, k3⟩ := own_setCells (Builtin.zeroCells (Value.agg #[.string ⟨#[]⟩, .string ⟨#[]⟩]).cells (n - i)).toList (i * 2 + 0) w xs h
    refine ⟨_, ?_, ?_, k3⟩
    · unfold hiP
      rw [if_neg hci, Option.map_some, add_spot]
      obtain ⟨q, hq⟩ : ∃ q, n - i = q + 1 := ⟨n - i - 1, by omega⟩
      rw [hq] at hst ⊢
      simp only [Nat.zero_add, Nat.add_zero] at hst ⊢
      simp [Builtin.clear_, run_underlying Tryz.underlying31, hst]
    · have k4 := own_cut k1 hi
      rw [Nat.add_zero] at k2
      rw [k2] at k4
      exact k4

/-- Those that are kept of the first j. -/
def keptF (p : ByteArray → Bool) (l : List Kv) (j : Nat) : List Kv := (l.take j).filter fun x => !p x.1
theorem keptF_len (p : ByteArray → Bool) (l : List Kv) (j : Nat) : (keptF p l j).length ≤ j := by
  unfold keptF
  have h1 := List.length_filter_le (fun x : Kv => !p x.1) (l.take j)
  rw [List.length_take] at h1
  omega
theorem keptF_succ (p : ByteArray → Bool) (l : List Kv) {j : Nat} (h : j < l.length) : keptF p l (j + 1) = keptF p l j ++ if p l[j].1 = true then [] else [l[j]] := by
  unfold keptF
  rw [List.take_succ_eq_append_getElem h, List.filter_append]
  congr 1
  cases hp : p l[j].1 <;> simp [hp]
theorem keptF_all (p : ByteArray → Bool) (l : List Kv) : keptF p l l.length = l.filter fun x => !p x.1 := by unfold keptF; rw [List.take_length]
/-- The row while it is gone through. -/
def midF (p : ByteArray → Bool) (l : List Kv) (j : Nat) : List Kv := keptF p l j ++ l.drop (keptF p l j).length
theorem midF_len (p : ByteArray → Bool) (l : List Kv) {j : Nat} (h : j ≤ l.length) : (midF p l j).length = l.length := by
  have := keptF_len p l j
  unfold midF
  rw [List.length_append, List.length_drop]
  omega

set_option maxRecDepth 100000 in
set_option maxHeartbeats 1600000 in
/-- Was a key noted? -/
theorem undone1_any {W : World} {sb tb mb st n sz : Nat} {nt : ByteArray → Option Former} (hS : W.cell? ⟨sb, 0, none⟩ = some (.pointer (some ⟨tb, 0, none⟩))) (hx : TxAt W tb mb st) (hN : NotesAt W mb n sz nt) (k v : ByteArray) (hk : k.size ≤ 1000000) :
    Calls Tryz.prog 112 #[.agg #[.string k, .string v], .pointer (some ⟨sb, 0, none⟩)] W fun e w' => e = .returned (.bool (nt k).isSome) ∧ Turn [] W w' := by
  have h1 := hx.c1
  have hb : (W.alloc (.cells #[.string k, .string v] 55)).cell? ⟨W.heap.size, 0, none⟩ = some (.string k) := World.cell?_alloc_at _ _ _ _ rfl
  have hla := fun (W' : World) (hW : Turn [] W W') => (hN.of_block (hW.block mb hN.lt (by simp))).look (key := k) (by omega)
  have hlook := hla (W.alloc (.cells #[.string k, .string v] 55)) ((Turn.refl [] W).alloc _)
  have hlook2 := hla (W.alloc (.cells #[.string k, .string v] 55)).drew ((Turn.refl [] W).alloc _).drew
  have hlook3 := hla ((W.alloc (.cells #[.string k, .string v] 55)).alloc (.cells #[.string ⟨#[]⟩, .bool false] 133)) (((Turn.refl [] W).alloc _).alloc _)
  have hlook4 := hla ((W.alloc (.cells #[.string k, .string v] 55)).alloc (.cells #[.string ⟨#[]⟩, .bool false] 133)).drew (((Turn.refl [] W).alloc _).alloc _).drew
  have hlook5 := hla ((W.alloc (.cells #[.string k, .string v] 55)).drew.alloc (.cells #[.string ⟨#[]⟩, .bool false] 133)) (((Turn.refl [] W).alloc _).drew.alloc _)
  clear hla
  obtain ⟨⟨f1, f2⟩, hf⟩ : ∃ f : Former, f = (nt k).getD (⟨#[]⟩, false) := ⟨_, rfl⟩
  rw [← hf] at hlook hlook2 hlook3 hlook4 hlook5
  unfold formerV at hlook hlook2 hlook3 hlook4 hlook5
  simp only at hlook hlook2 hlook3 hlook4 hlook5
  obtain ⟨z, hz⟩ : ∃ z, z = (nt k).isSome := ⟨_, rfl⟩
  rw [← hz] at hlook hlook2 hlook3 hlook4 hlook5 ⊢
  have hsb := lt_of_cell hS
  have htb := lt_of_cell h1
  have hT1 : Turn [] W (W.alloc (.cells #[.string k, .string v] 55)) := (Turn.refl [] W).alloc _
  have hS1 : (W.alloc (.cells #[.string k, .string v] 55)).cell? ⟨sb, 0, none⟩ = some (.pointer (some ⟨tb, 0, none⟩)) := Lib.cell?_alloc_some _ hS
  have h11 : (W.alloc (.cells #[.string k, .string v] 55)).cell? ⟨tb, 1, none⟩ = some (.map (some mb)) := Lib.cell?_alloc_some _ h1
  have HT1 := hide hT1
  clear hx hN hf hz hS h1 hT1
  have hw1 : W.heap.size < (W.alloc (.cells #[.string k, .string v] 55)).heap.size := by simp
  have hw2 : sb < (W.alloc (.cells #[.string k, .string v] 55)).heap.size := by simp; omega
  have hw3 : tb < (W.alloc (.cells #[.string k, .string v] 55)).heap.size := by simp; omega
  go_enter Tryz.func112, Tryz.ntmps112
  go_wp2_with fail
  generalize W.alloc (.cells #[.string k, .string v] 55) = W1 at *
  go_region_with (fail)
  all_goals
    go_wp2_with fail
    go_ret
    exact ⟨rfl, by first | exact (HT1.out.alloc _).drew | exact HT1.out.drew.alloc _ | exact HT1.out.alloc _⟩

/-- A function that tells of a key's pair, wherever it is asked. -/
def AskP (w : World) (g sb : Nat) (p : ByteArray → Bool) : Prop := ∀ W, Turn [g] w W → ∀ k v : ByteArray, k.size ≤ 1000000 → Calls Tryz.prog 112 #[.agg #[.string k, .string v], .pointer (some ⟨sb, 0, none⟩)] W fun e w' => e = .returned (.bool (p k)) ∧ Turn [] W w'

/-- The first one of which it is true. -/
def IsFst (p : ByteArray → Bool) (l : List Kv) (x : Int) : Prop := (∃ i : Nat, x = (i : Int) ∧ ∃ h : i < l.length, p l[i].1 = true ∧ ∀ j (hj : j < l.length), j < i → p l[j].1 = false) ∨ (x = -1 ∧ ∀ j (hj : j < l.length), p l[j].1 = false)

set_option maxRecDepth 100000 in
set_option maxHeartbeats 1600000 in
theorem yindex_any {w : World} {g sb : Nat} {p : ByteArray → Bool} (a : Option Addr) (cap : Nat) (l : List Kv) (hlen : l.length ≤ 1000000) (hks : ∀ x ∈ l, x.1.size ≤ 1000000) (hK : KVsAt w a l) (hP : AskP w g sb p) :
    Calls Tryz.prog 148 #[.slice a l.length cap, .func (.func 112) #[] #[.pointer (some ⟨sb, 0, none⟩)]] w fun e w' => (∃ x, e = .returned (.int .i64 x) ∧ IsFst p l x) ∧ Turn [] w w' := by
  have HK := hide hK
  have HP := hide hP
  have HKs := hide hks
  clear hK hks hP
  obtain ⟨n, HN⟩ : ∃ n, Hid (l.length = n) := ⟨_, rfl⟩
  rw [HN.out] at hlen ⊢
  go_enter Tryz.func148, Tryz.ntmps148
  go_wp2_with fail
  go_loopw [5, 8] (fun _ x wr => ∃ j : Nat, j ≤ n ∧ x = .int .i64 (j : Nat) ∧ Hid (∀ q (hq : q < l.length), q < j → p l[q].1 = false) ∧ Turn [] w wr) (fun _ x _ => n - (intOf x).toNat)
  case atStart => exact ⟨0, Nat.zero_le _, rfl, fun q _ h => absurd h (Nat.not_lt_zero _), Turn.refl _ _⟩
  case round =>
    obtain ⟨j, hj, rfl, HB, hT⟩ := hrel
    have HT := hide hT
    by_cases hjn : j < n
    · have hjl : j < l.length := by rw [HN.out]; exact hjn
      obtain ⟨b, off, rfl, hc0, hc1⟩ := (HK.out.turn0 hT).at hjl
      have HC := hide (HP.out wr (hT.mono (by simp)) l[j].1 l[j].2 (HKs.out _ (List.getElem_mem hjl)))
      have HJ := hide (show ∃ z, p l[j].1 = z from ⟨_, rfl⟩)
      obtain ⟨z, hz⟩ := HJ.out
      have HZ := hide hz
      rw [hz] at HC
      clear hT hz HJ
      generalize l[j].2 = jv at *
      obtain ⟨jk, hjk⟩ : ∃ jk, jk = l[j].1 := ⟨_, rfl⟩
      rw [← hjk] at hc0 HC
      clear hjk
      cases z with
      | true =>
        have HR : Hid (IsFst p l (j : Nat)) := .inl ⟨j, rfl, hjl, HZ.out, HB.out⟩
        clear HZ hjl
        go_wp2_with fail
        refine HC.out.mono ?_
        rintro e w2 ⟨rfl, hT2⟩
        have HT2 := hide (HT.out.trans hT2)
        clear hT2
        go_wp2_with fail
        go_ret
        exact ⟨⟨_, rfl, HR.out⟩, HT2.out⟩
      | false =>
        have HB' : Hid (∀ q (hq : q < l.length), q < j + 1 → p l[q].1 = false) := fun q hq h => by
          by_cases e : q = j
          · subst e; exact HZ.out
          · exact HB.out q hq (by omega)
        clear HZ hjl
        go_wp2_with fail
        refine HC.out.mono ?_
        rintro e w2 ⟨rfl, hT2⟩
        have HT2 := hide (HT.out.trans hT2)
        clear hT2
        go_wp2_with fail
        go_roundw
        case rel => exact ⟨j + 1, by omega, by go_num, HB', HT2.out⟩
        case measure => simp [intOf]; omega
    · obtain rfl : j = n := by omega
      have HR : Hid (IsFst p l (-1)) := .inr ⟨rfl, fun q hq => HB.out q hq (by rw [HN.out] at hq; exact hq)⟩
      clear hT
      go_wp2_with fail
      go_ret
      exact ⟨⟨_, rfl, HR.out⟩, HT.out⟩

end Go.Proofs.YthgpjkcgccdldaaGreatDoor

namespace Go.Proofs.YthgpjkcgccdldaaGreatDoor
open Go.RowKit Go.Maps

theorem flat_set : ∀ (L : List Kv) (i : Nat) (k v : ByteArray), i < L.length → ((flat (kvCells L)).set (i * 2) (.string k)).set (i * 2 + 1) (.string v) = flat (kvCells (L.set i (k, v)))
  | x :: L, 0, k, v, _ => rfl
  | x :: L, i + 1, k, v, h => by
    have ih := flat_set L i k v (by simpa using h)
    have e1 : (i + 1) * 2 = i * 2 + 1 + 1 := by omega
    have e2 : flat (kvCells (x :: L)) = .string x.1 :: .string x.2 :: flat (kvCells L) := rfl
    have e3 : (x :: L).set (i + 1) (k, v) = x :: L.set i (k, v) := rfl
    rw [e1, e2, e3, List.set_cons_succ, List.set_cons_succ, List.set_cons_succ, List.set_cons_succ, ih]
    rfl
theorem flat_takeK (L : List Kv) (i : Nat) : (flat (kvCells L)).take (i * 2) = flat (kvCells (L.take i)) := by
  induction L generalizing i with
  | nil => simp [kvCells, flat]
  | cons x L ih =>
    cases i with
    | zero => rfl
    | succ i =>
      have e2 : flat (kvCells (x :: L)) = .string x.1 :: .string x.2 :: flat (kvCells L) := rfl
      rw [e2, show (i + 1) * 2 = i * 2 + 1 + 1 by omega, List.take_succ_cons, List.take_succ_cons, ih, List.take_succ_cons]
      rfl
theorem midF_get (p : ByteArray → Bool) (l : List Kv) {j : Nat} (h : j < l.length) (h2 : j < (midF p l j).length) : (midF p l j)[j] = l[j] := by
  have hk := keptF_len p l j
  unfold midF at h2 ⊢
  rw [List.getElem_append_right hk, List.getElem_drop]
  congr 1
  omega
theorem midF_skip (p : ByteArray → Bool) (l : List Kv) {j : Nat} (h : j < l.length) (hp : p l[j].1 = true) : keptF p l (j + 1) = keptF p l j ∧ midF p l (j + 1) = midF p l j := by
  have e : keptF p l (j + 1) = keptF p l j := by rw [keptF_succ p l h, if_pos hp, List.append_nil]
  exact ⟨e, by unfold midF; rw [e]⟩
theorem midF_keep (p : ByteArray → Bool) (l : List Kv) {j : Nat} (h : j < l.length) (hp : p l[j].1 = false) : (keptF p l (j + 1)).length = (keptF p l j).length + 1 ∧ midF p l (j + 1) = (midF p l j).set (keptF p l j).length l[j] := by
  have hk := keptF_len p l j
  have e : keptF p l (j + 1) = keptF p l j ++ [l[j]] := by rw [keptF_succ p l h, if_neg (by rw [hp]; simp)]
  refine ⟨by rw [e, List.length_append, List.length_singleton], ?_⟩
  unfold midF
  rw [e, List.set_append_right _ _ (Nat.le_refl _), Nat.sub_self, List.drop_eq_getElem_cons (show (keptF p l j).length < l.length by omega), List.set_cons_zero, List.length_append, List.length_singleton, List.append_assoc]
  rfl
theorem midF_start (p : ByteArray → Bool) (l : List Kv) {i : Nat} (h : i < l.length) (hp : p l[i].1 = true) (hb : ∀ j (hj : j < l.length), j < i → p l[j].1 = false) : (keptF p l (i + 1)).length = i ∧ midF p l (i + 1) = l := by
  have e0 : keptF p l i = l.take i := by
    unfold keptF
    refine List.filter_eq_self.2 fun x hx => ?_
    obtain ⟨j, hj, rfl⟩ := List.mem_take_iff_getElem.1 hx
    simp [hb j (by omega) (by omega)]
  have e := (midF_skip p l h hp).1
  have hl : (l.take i).length = i := by rw [List.length_take]; omega
  refine ⟨by rw [e, e0, hl], ?_⟩
  unfold midF
  rw [e, e0, hl, List.take_append_drop]

/-- The cells of one pair. -/
theorem own_pair {w : World} {base g n cap : Nat} {L : List Kv} (h : w.ownsRow base 55 2 (.slice (some ⟨g, 0, none⟩) n cap) n (flat (kvCells L))) {i : Nat} (hi : i < L.length) : w.cell? ⟨g, i * 2, none⟩ = some (.string L[i].1) ∧ w.cell? ⟨g, i * 2 + 1, none⟩ = some (.string L[i].2) := by
  obtain ⟨a, c, e, _, _, hp, _⟩ := own_pairs h
  injection e with e1 e2 e3
  subst e1
  obtain ⟨b, off, e, h0, h1⟩ := hp.kvs.at hi
  injection e with e
  injection e with e1 e2
  subst e1 e2
  rw [Nat.zero_add] at h0 h1
  exact ⟨h0, h1⟩

set_option maxRecDepth 100000 in
set_option maxHeartbeats 3200000 in
theorem ydelete_any {w : World} {base g sb cap : Nat} {p : ByteArray → Bool} (l : List Kv) (hlen : l.length ≤ 1000000) (hks : ∀ x ∈ l, x.1.size ≤ 1000000) (hO : w.ownsRow base 55 2 (.slice (some ⟨g, 0, none⟩) l.length cap) l.length (flat (kvCells l))) (hP : AskP w g sb p) :
    Calls Tryz.prog 111 #[.slice (some ⟨g, 0, none⟩) l.length cap, .func (.func 112) #[] #[.pointer (some ⟨sb, 0, none⟩)]] w fun e w' => e = .returned (.slice (some ⟨g, 0, none⟩) (l.filter fun x => !p x.1).length cap) ∧ w'.ownsRow base 55 2 (.slice (some ⟨g, 0, none⟩) (l.filter fun x => !p x.1).length cap) (l.filter fun x => !p x.1).length (flat (kvCells (l.filter fun x => !p x.1))) ∧ Turn [g] w w' := by
  obtain ⟨a0, c0, e0, -, -, hkv, -⟩ := own_pairs hO
  injection e0 with e1 e2 e3
  subst e1 e3
  clear e2
  have hcap : l.length ≤ cap := by
    obtain ⟨_, ⟨h', _⟩ | ⟨g', cap', cur, h', _, _, hnc, _⟩⟩ := hO
    · simp at h'
    · simp only [Value.slice.injEq, Option.some.injEq, Addr.mk.injEq, and_true, true_and] at h'
      obtain ⟨_, rfl⟩ := h'
      exact hnc
  have hcap2 : cap ≤ 9223372036854775807 := by
    obtain ⟨_, ⟨h', _⟩ | ⟨g', cap', cur, h', _, _, _, hm, _⟩⟩ := hO
    · simp at h'
    · simp only [Value.slice.injEq, Option.some.injEq, Addr.mk.injEq, and_true, true_and] at h'
      obtain ⟨_, rfl⟩ := h'
      unfold maxLen at hm
      exact hm
  have HI := hide (yindex_any (some ⟨g, 0, none⟩) cap l hlen hks hkv.kvs hP)
  have HO := hide hO
  have HP := hide hP
  have HKs := hide hks
  have hgl : g < w.heap.size := (hO.lt g rfl).2
  have HF := hide (keptF_all p l)
  clear hO hks hP hkv
  obtain ⟨n, HN⟩ : ∃ n, Hid (l.length = n) := ⟨_, rfl⟩
  rw [HN.out] at hlen hcap HI HF ⊢
  rw [← HF.out]
  obtain ⟨M, HMl⟩ : ∃ M, Hid ((keptF p l n).length = M) := ⟨_, rfl⟩
  rw [HMl.out]
  go_enter Tryz.func111, Tryz.ntmps111
  go_wp2_with fail
  refine HI.out.mono ?_
  rintro e w1 ⟨⟨x, rfl, hx⟩, hT1⟩
  have HT1 := hide (hT1.mono (T := [g]) (by simp))
  have HO1 := hide (own_turn HO.out hT1 (by simp))
  have hs1 := hT1.size
  clear hT1
  rcases hx with ⟨i, rfl, hi, hpi, hb⟩ | ⟨rfl, hb⟩
  · have hin : i < n := by rw [← HN.out]; exact hi
    have HS := hide (midF_start p l hi hpi hb)
    have hi1 : ((i : Int) == -1) = false := by simp
    clear hpi hb hi
    go_wp2_with fail
    go_loopw [5, 6, 7] (fun a b _ wr => ∃ j q : Nat, j ≤ n ∧ q ≤ j ∧ a = .int .i64 (q : Nat) ∧ b = .int .i64 (j : Nat) ∧ Hid ((keptF p l j).length = q) ∧ Hid (wr.ownsRow base 55 2 (.slice (some ⟨g, 0, none⟩) n cap) n (flat (kvCells (midF p l j)))) ∧ Turn [g] w wr) (fun _ b _ _ => n - (intOf b).toNat)
    case atStart => exact ⟨i + 1, i, by omega, by omega, rfl, by go_num, HS.out.1, by unfold Hid; rw [HS.out.2, ← HN.out]; exact HO1.out, HT1.out⟩
    case round =>
      obtain ⟨j, q, hj, hq, rfl, rfl, HQ, HOr, hT⟩ := hrel
      have HT := hide hT
      have hgr : g < wr.heap.size := Nat.lt_of_lt_of_le hgl hT.size
      by_cases hjn : j < n
      · have hjl : j < l.length := by rw [HN.out]; exact hjn
        have hml : (midF p l j).length = l.length := midF_len p l (by omega)
        have hcp := own_pair HOr.out (i := j) (by omega)
        rw [midF_get p l hjl (by omega)] at hcp
        obtain ⟨hc0, hc1⟩ := hcp
        have HC := hide (HP.out (wr.alloc (.cells #[.string l[j].1, .string l[j].2] 55)) (hT.alloc _) l[j].1 l[j].2 (HKs.out _ (List.getElem_mem hjl)))
        obtain ⟨z, hz⟩ : ∃ z, p l[j].1 = z := ⟨_, rfl⟩
        rw [hz] at HC
        have HZ := hide hz
        have HM := hide hml
        have HJ := hide (show ∃ jk jv, (jk, jv) = l[j] ∧ jk = l[j].1 ∧ jv = l[j].2 from ⟨_, _, rfl, rfl, rfl⟩)
        obtain ⟨jk, jv, ekv, ek, ev⟩ := HJ.out
        rw [← ek, ← ev] at HC
        rw [← ek] at hc0
        rw [← ev] at hc1
        have HEkv := hide ekv
        clear hT hz hml HJ ekv ek ev
        cases z with
        | true =>
          have HNx := hide (midF_skip p l hjl HZ.out)
          clear HEkv HZ hjl
          go_wp2_with fail
          refine HC.out.mono ?_
          rintro e w2 ⟨rfl, hT2⟩
          have hTw : Turn [] wr w2 := ((Turn.refl [] wr).alloc _).trans hT2
          have HT2 := hide (HT.out.trans (hTw.mono (by simp)))
          have HO2 := hide (own_turn HOr.out hTw (by simp))
          clear hT2 hTw
          go_wp2_with fail
          go_roundw
          case rel => exact ⟨j + 1, q, by omega, by omega, rfl, by go_num, by unfold Hid; rw [HNx.out.1]; exact HQ.out, by unfold Hid; rw [HNx.out.2]; exact HO2.out, HT2.out⟩
          case measure => simp [intOf]; omega
        | false =>
          have HNx := hide (midF_keep p l hjl HZ.out)
          rw [HQ.out, ← HEkv.out] at HNx
          clear HEkv HZ hjl
          go_wp2_with fail
          refine HC.out.mono ?_
          rintro e w2 ⟨rfl, hT2⟩
          have hTw : Turn [] wr w2 := ((Turn.refl [] wr).alloc _).trans hT2
          have HT2 := hide (HT.out.trans (hTw.mono (by simp)))
          have hO2 := own_turn HOr.out hTw (by simp)
          have hqc := own_pair hO2 (i := q) (by have := HM.out; have := HN.out; omega)
          obtain ⟨z0, hx0⟩ : ∃ z, w2.cell? ⟨g, q * 2, none⟩ = some (.string z) := ⟨_, hqc.1⟩
          obtain ⟨z1, hx1⟩ : ∃ z, w2.cell? ⟨g, q * 2 + 1, none⟩ = some (.string z) := ⟨_, hqc.2⟩
          have hf0 := hO2.frozenAt (q * 2)
          have hf1 := hO2.frozenAt (q * 2 + 1)
          have hb0 : w2.cell? ⟨wr.heap.size, 0, none⟩ = some (.string jk) := (hT2.cell (p := ⟨wr.heap.size, 0, none⟩) (by simp) (by simp)).trans (World.cell?_alloc_at _ _ _ _ rfl)
          have hb1 : w2.cell? ⟨wr.heap.size, 1, none⟩ = some (.string jv) := (hT2.cell (p := ⟨wr.heap.size, 1, none⟩) (by simp) (by simp)).trans (World.cell?_alloc_at _ _ _ _ rfl)
          have HO3 : Hid (((w2.setCell ⟨g, q * 2, none⟩ (.string jk)).setCell ⟨g, q * 2 + 1, none⟩ (.string jv)).ownsRow base 55 2 (.slice (some ⟨g, 0, none⟩) n cap) n (flat (kvCells (midF p l (j + 1))))) := by
            have h1 := ((hO2.stored (q * 2) (.string jk)).1.stored (q * 2 + 1) (.string jv)).1
            rw [flat_set _ _ _ _ (by have := HM.out; have := HN.out; omega), ← HNx.out.2] at h1
            exact h1
          have HT3 : Hid (Turn [g] w ((w2.setCell ⟨g, q * 2, none⟩ (.string jk)).setCell ⟨g, q * 2 + 1, none⟩ (.string jv))) := (HT2.out.setCell (List.mem_singleton.2 rfl) _ _).setCell (List.mem_singleton.2 rfl) _ _
          clear hT2 hTw hO2 hqc
          go_wp2_with fail
          go_roundw
          case rel => exact ⟨j + 1, q + 1, by omega, by omega, by go_num, by go_num, HNx.out.1, HO3.out, HT3.out⟩
          case measure => simp [intOf]; omega
      · obtain rfl : j = n := by omega
        obtain rfl : q = M := HQ.out.symm.trans HMl.out
        obtain ⟨w3, hcl, hO3, hT3⟩ := clear_own HOr.out (i := q) (by omega) 0
        have hsl := fun u => pslice_hi (some ⟨g, 0, none⟩) j cap q u (by omega)
        have hlo := fun u => pslice_lo (some ⟨g, 0, none⟩) j cap q u (by omega)
        have HO3 : Hid (w3.ownsRow base 55 2 (.slice (some ⟨g, 0, none⟩) q cap) q (flat (kvCells (keptF p l j)))) := by
          unfold Hid
          have e1 : (midF p l j).take q = keptF p l j := by
            unfold midF
            rw [List.take_append_of_le_length (by rw [HQ.out]; exact Nat.le_refl _), List.take_of_length_le (by rw [HQ.out]; exact Nat.le_refl _)]
          rw [flat_takeK, e1] at hO3
          exact hO3
        have HT3 := hide (HT.out.trans hT3)
        clear hT hO3 hT3
        generalize hiP (some ⟨g, 0, none⟩) cap q = ha at *
        go_wp2_with fail
        go_ret
        exact ⟨rfl, HO3.out, HT3.out⟩
  · have HE : Hid (keptF p l n = l) := by
      unfold Hid
      rw [HF.out]
      refine List.filter_eq_self.2 fun x hx => ?_
      obtain ⟨j, hj, rfl⟩ := List.mem_iff_getElem.1 hx
      simp [hb j hj]
    clear hb
    obtain rfl : n = M := by rw [← HMl.out, HE.out, HN.out]
    have HO2 : Hid (w1.ownsRow base 55 2 (.slice (some ⟨g, 0, none⟩) n cap) n (flat (kvCells (keptF p l n)))) := by
      unfold Hid
      rw [HE.out, ← HN.out]
      exact HO1.out
    go_wp2_with fail
    go_ret
    exact ⟨rfl, HO2.out, HT1.out⟩

end Go.Proofs.YthgpjkcgccdldaaGreatDoor
