/-
  A key is taken out of a leaf: slices.Clone, slices.IndexFunc, slices.DeleteFunc, leaf.del, walked.
-/
import Derived.Test.YthehkckdecckhaaGreatDoorU16
import Derived.Lib.SliceRun

namespace Go.Proofs.YthehkckdecckhaaGreatDoor
open Go.RowKit Go.Maps

/-- An append of pairs to a row of the call's own, whatever the slice's type is. -/
theorem append_pairsT {ops : Array Oper} {rest : List Oper} {o : Oper} {a : Act} {Q : Exit → Act → World → Prop} {w : World} (T : TypeId) (hU : Tryz.prog.underlying T = some (.slice 42)) (hgd : o.guard = none) (s x : Operand)
    (ho : o.op = .call { callee := .builtin .append, args := #[s, x], argTypes := #[T, T] }) (base : Nat) (v : Value) (n : Nat) (xs : List (Value × Value)) (hs : a.eval s = v) (hown : w.ownsRow base 42 2 v n (flat xs))
    (ak : Option Addr) (m c : Nat) (l : List (Value × Value)) (hx : a.eval x = .slice ak m c) (hm : l.length = m) (hnone : ak = none → c = 0) (hb : PairsAt w ak l) (h1 : OneCell l) (hbound : n + m ≤ 1000000) (hbase : base ≤ w.heap.size)
    (h : ∀ v' w', w'.ownsRow base 42 2 v' (n + m) (flat (xs ++ l)) → w.grownBy w' v.ownBlock → (v'.ownBlock = v.ownBlock ∨ v'.ownBlock = some w.heap.size) → wpList Tryz.prog ops Q rest (a.put o.dst v') w') :
    wpList Tryz.prog ops Q (o :: rest) a w := by
  obtain ⟨i0, z, hi, hz0, hzc, hz1, hz2⟩ := info_all
  cases ak with
  | none =>
    obtain rfl := hnone rfl
    have hl : l = [] := by
      rcases hb with h | ⟨_, _, e, _⟩
      · exact h
      · cases e
    subst hl
    obtain rfl : 0 = m := hm
    refine wpList_append_own_none hgd s x T ho base 42 i0 2 hU hi v n _ hs hown hx (h v w ?_ (grownBy_refl _ _) (.inl rfl))
    simpa using hown
  | some ad =>
    refine wpList_append_own_at w hgd s x T ho base 42 i0 z 2 32 hU hi hz0 hz1 hz2 hzc (by decide) v n (flat xs) hs hown ad m c (flat l) hx (by rw [flat_length, hm]) hb.src (flat_one h1) (by unfold maxLen; omega) (by omega) hbase ?_
    intro v' w' h1 h2 _ h4
    exact h v' w' (by rw [flat_append]; exact h1) h2 h4

/-- A row of pairs of the call's own, with something in it. -/
theorem own_kvs {w : World} {base n : Nat} {v : Value} {l : List (ByteArray × ByteArray)} (h : w.ownsRow base 42 2 v n (flat (kvCells l))) (hne : 0 < l.length) :
    ∃ g cap, v = .slice (some ⟨g, 0, none⟩) l.length cap ∧ n = l.length ∧ (l.length ≤ cap ∧ cap ≤ 9223372036854775807) ∧ base ≤ g ∧ g < w.heap.size ∧ KVsAt w (some ⟨g, 0, none⟩) l ∧ ∀ o, w.frozen? ⟨g, o, none⟩ = false := by
  have hlt := h.lt
  obtain ⟨a, cap, e, hn, _, hp, _⟩ := own_pairs h
  rw [kvCells_length] at e hn
  obtain ⟨_, ⟨rfl, h0⟩ | ⟨g, cap', cur, rfl, hb, hg, hnc, hm, _⟩⟩ := h
  · omega
  · injection e with e1 e2 e3
    subst e1 e3
    obtain ⟨hl1, hl2⟩ := hlt g rfl
    unfold maxLen at hm
    exact ⟨g, cap', by rw [hn], hn, ⟨by omega, by omega⟩, hb, hl2, hp.kvs, fun o => by unfold World.frozen?; simp [hg]⟩

theorem eq_str (a b : ByteArray) : (a.toList == b.toList) = decide (a = b) := by
  by_cases h : a = b
  · subst h
    simp
  · have : ¬ a.toList = b.toList := fun e => h (by
      apply bytes_ext
      simpa [ByteArray.toList_eq] using e)
    simp [this, h]

set_option maxRecDepth 100000 in
set_option maxHeartbeats 800000 in
theorem del1_any (k v key : ByteArray) (kb : Nat) (w : World) (h0 : w.cell? ⟨kb, 0, none⟩ = some (.string key)) : Calls Tryz.prog 61 #[.agg #[.string k, .string v], .pointer (some ⟨kb, 0, none⟩)] w fun e w' => e = .returned (.bool (decide (k = key))) ∧ Turn [] w w' := by
  have hkb := lt_of_cell h0
  have h0' : (w.alloc (.cells #[.string k, .string v] 42)).cell? ⟨kb, 0, none⟩ = some (.string key) := Lib.cell?_alloc_some _ h0
  go_enter Tryz.func61, Tryz.ntmps61
  go_wp2
  go_ret
  rw [← eq_str]
  exact ⟨rfl, (Turn.refl [] w).alloc _⟩

theorem clone_eq_some (T : TypeId) (hU : Tryz.prog.underlying T = some (.slice 42)) (x : Addr) (n c : Nat) (w : World) : Sem.run Tryz.prog (binOp .eql T (.slice (some x) n c) (.slice none 0 0)) w = .ok (.bool false) w := Lib.run_eql_slice_nil w T 42 (some x) n c 0 0 hU

set_option maxRecDepth 100000 in
set_option maxHeartbeats 1600000 in
theorem lclone_any (b off cap : Nat) (l : List (ByteArray × ByteArray)) (hne : 0 < l.length) (hlen : l.length ≤ 1000) (w : World) (hK : KVsAt w (some ⟨b, off, none⟩) l) :
    Calls Tryz.prog 60 #[.slice (some ⟨b, off, none⟩) l.length cap] w fun e w' => ∃ g c, e = .returned (.slice (some ⟨g, 0, none⟩) l.length c) ∧ (l.length ≤ c ∧ c ≤ 9223372036854775807) ∧ w.heap.size ≤ g ∧ g < w'.heap.size ∧ KVsAt w' (some ⟨g, 0, none⟩) l ∧ (∀ o, w'.frozen? ⟨g, o, none⟩ = false) ∧ Turn [] w w' := by
  have he2 := clone_eq_some 73 Tryz.underlying73
  have hown : (w.alloc (.cells #[] 42)).ownsRow w.heap.size 42 2 (.slice (some ⟨w.heap.size, 0, none⟩) 0 0) 0 (flat ([] : List (Value × Value))) := World.ownsRow_made w #[] 0 (Nat.le_refl _) (Nat.zero_le _) rfl
  have HOWN := hide hown
  have HK := hide (hK.turn0 ((Turn.refl [] w).alloc (.cells #[] 42))).pairs
  have HLen := hide (kvCells_length l)
  have HOne := hide (kv_one l)
  clear hown hK
  generalize hn : l.length = n at *
  have HN := hide hn
  clear hn
  go_enter Tryz.func60, Tryz.ntmps60
  go_wp2_with (at_builtin; refine append_pairsT 73 Tryz.underlying73 rfl _ _ rfl w.heap.size (.slice (some ⟨w.heap.size, 0, none⟩) 0 0) 0 [] rfl HOWN.out (some ⟨b, off, none⟩) n cap (kvCells l) rfl HLen.out (by simp) HK.out HOne.out (by omega) (by simp) ?_; intro v w3 hown3 hgrow3 _)
  have hT3 : Turn [] w w3 := ((Turn.refl [] w).alloc _).grown hgrow3 (by intro k hk; right; simp [Value.ownBlock] at hk; omega)
  obtain ⟨g, c, hv, _, hc, hg, hgl, hkv, hfz⟩ := own_kvs (l := l) (by simpa using hown3) (by rw [HN.out]; exact hne)
  rw [HN.out] at hv hc
  subst hv
  have HR := hide (And.intro hkv hfz)
  clear hown3 hgrow3 hkv hfz
  go_wp2_with fail
  go_ret
  exact ⟨g, c, rfl, hc, hg, hgl, HR.out.1, HR.out.2, hT3⟩

theorem rises_ne {l : List (ByteArray × ByteArray)} (hs : Rises (keysOf l)) {i j : Nat} (hj : j < l.length) (hi : i < l.length) (hij : i ≠ j) : l[i].1 ≠ l[j].1 := fun e => by
  rcases Nat.lt_or_gt_of_ne hij with h | h
  · have := hs.get h (by rw [keysOf_length]; exact hj)
    rw [keysOf_get hi, keysOf_get hj, e] at this
    exact klt_irrefl _ this
  · have := hs.get h (by rw [keysOf_length]; exact hi)
    rw [keysOf_get hi, keysOf_get hj, e] at this
    exact klt_irrefl _ this

set_option maxRecDepth 100000 in
set_option maxHeartbeats 1600000 in
theorem index_any (b off cap kb : Nat) (l : List (ByteArray × ByteArray)) (key : ByteArray) (i : Nat) (hi : i < l.length) (hik : l[i].1 = key) (hs : Rises (keysOf l)) (hlen : l.length ≤ 1000) (w : World) (hK : KVsAt w (some ⟨b, off, none⟩) l) (h0 : w.cell? ⟨kb, 0, none⟩ = some (.string key)) :
    Calls Tryz.prog 91 #[.slice (some ⟨b, off, none⟩) l.length cap, .func (.func 61) #[] #[.pointer (some ⟨kb, 0, none⟩)]] w fun e w' => e = .returned (.int .i64 (i : Nat)) ∧ Turn [] w w' := by
  have HK := hide hK
  have H0 := hide h0
  have HNE : Hid (∀ j (hj : j < l.length), decide (l[j].1 = key) = decide (j = i)) := fun j hj => by
    by_cases h : j = i
    · subst h
      simp [hik]
    · have := rises_ne hs hi hj h
      rw [hik] at this
      simp [this, h]
  have hkb := lt_of_cell h0
  clear hK hs hik h0
  obtain ⟨n, HN⟩ : ∃ n, Hid (l.length = n) := ⟨_, rfl⟩
  rw [HN.out] at hi hlen ⊢
  go_enter Tryz.func91, Tryz.ntmps91
  go_wp2_with fail
  go_loopw [5, 8] (fun _ x wr => ∃ j : Nat, j ≤ i ∧ x = .int .i64 (j : Nat) ∧ Turn [] w wr) (fun _ x _ => n - (intOf x).toNat)
  case atStart => exact ⟨0, Nat.zero_le _, rfl, Turn.refl _ _⟩
  case round =>
    obtain ⟨j, hj, rfl, hT⟩ := hrel
    have hjl : j < l.length := by rw [HN.out]; omega
    obtain ⟨b', off', e, hc0, hc1⟩ := (HK.out.turn0 hT).at hjl
    obtain ⟨rfl, rfl⟩ : b = b' ∧ off = off' := by injection e with e; injection e with e1 e2; exact ⟨e1, e2⟩
    have hlt : decide ((j : Int) < (n : Int)) = true := decide_eq_true (by omega)
    have HC := hide (del1_any l[j].1 l[j].2 key kb wr ((hT.cell (p := ⟨kb, 0, none⟩) hkb (by simp)).trans H0.out))
    rw [HNE.out j hjl] at HC
    have HT := hide hT
    generalize l[j].1 = jk at *
    generalize l[j].2 = jv at *
    clear hT hjl
    by_cases hji : j = i
    · subst hji
      rw [show decide (j = j) = true from by simp] at HC
      go_wp2_with fail
      refine HC.out.mono ?_
      rintro e w2 ⟨rfl, hT2⟩
      have HT2 := hide (HT.out.trans hT2)
      clear hT2
      go_wp2_with fail
      go_ret
      exact ⟨rfl, HT2.out⟩
    · rw [show decide (j = i) = false from by simp [hji]] at HC
      go_wp2_with fail
      refine HC.out.mono ?_
      rintro e w2 ⟨rfl, hT2⟩
      have HT2 := hide (HT.out.trans hT2)
      clear hT2
      go_wp2_with fail
      go_roundw
      case rel => exact ⟨j + 1, by omega, by go_num, HT2.out⟩
      case measure => simp [intOf]; omega

/-- A pair of a row, or nothing. -/
def pairAt (l : List (ByteArray × ByteArray)) (y : Nat) : ByteArray × ByteArray := l[y]?.getD (⟨#[]⟩, ⟨#[]⟩)
theorem pairAt_get {l : List (ByteArray × ByteArray)} {y : Nat} (h : y < l.length) : pairAt l y = l[y] := by simp [pairAt, h]

/-- Pairs in a block, by a function. -/
structure PairsF (w : World) (g n : Nat) (f : Nat → ByteArray × ByteArray) : Prop where
  cell : ∀ y, y < n → w.cell? ⟨g, y * 2, none⟩ = some (.string (f y).1) ∧ w.cell? ⟨g, y * 2 + 1, none⟩ = some (.string (f y).2)
  fz : ∀ o, w.frozen? ⟨g, o, none⟩ = false

theorem PairsF.turn0 {w w' : World} {g n : Nat} {f : Nat → ByteArray × ByteArray} (h : PairsF w g n f) (hT : Turn [] w w') (hg : g < w.heap.size) : PairsF w' g n f :=
  ⟨fun y hy => ⟨(hT.cell (p := ⟨g, y * 2, none⟩) hg (by simp)).trans (h.cell y hy).1, (hT.cell (p := ⟨g, y * 2 + 1, none⟩) hg (by simp)).trans (h.cell y hy).2⟩, fun o => (World.frozen?_of_block (a := ⟨g, o, none⟩) (hT.block g hg (by simp))).trans (h.fz o)⟩

theorem PairsF.of {w : World} {g : Nat} {l : List (ByteArray × ByteArray)} (h : KVsAt w (some ⟨g, 0, none⟩) l) (hf : ∀ o, w.frozen? ⟨g, o, none⟩ = false) : PairsF w g l.length (pairAt l) :=
  ⟨fun y hy => by
    obtain ⟨b, off, e, h0, h1⟩ := h.at hy
    injection e with e
    injection e with e1 e2
    subst e1 e2
    rw [pairAt_get hy]
    rw [Nat.zero_add] at h0 h1
    exact ⟨h0, h1⟩, hf⟩

theorem PairsF.kvs {w : World} {g n : Nat} {f : Nat → ByteArray × ByteArray} (h : PairsF w g n f) (l : List (ByteArray × ByteArray)) (hl : l.length ≤ n) (e : ∀ y (h : y < l.length), l[y] = f y) : KVsAt w (some ⟨g, 0, none⟩) l :=
  .inr ⟨g, 0, rfl, fun i hi => by rw [Nat.zero_add, e i hi]; exact h.cell i (by omega)⟩

/-- One pair is stored. -/
theorem PairsF.set {w : World} {g n : Nat} {f : Nat → ByteArray × ByteArray} (h : PairsF w g n f) (x : Nat) (hx : x < n) (k v : ByteArray) : PairsF ((w.setCell ⟨g, x * 2, none⟩ (.string k)).setCell ⟨g, x * 2 + 1, none⟩ (.string v)) g n (fun y => if y = x then (k, v) else f y) ∧ Turn [g] w ((w.setCell ⟨g, x * 2, none⟩ (.string k)).setCell ⟨g, x * 2 + 1, none⟩ (.string v)) := by
  have hT : Turn [g] w ((w.setCell ⟨g, x * 2, none⟩ (.string k)).setCell ⟨g, x * 2 + 1, none⟩ (.string v)) := ((Turn.refl [g] w).setCell (List.mem_singleton.2 rfl) _ _).setCell (List.mem_singleton.2 rfl) _ _
  refine ⟨⟨fun y hy => ?_, fun o => by rw [World.frozen?_setCell, World.frozen?_setCell]; exact h.fz o⟩, hT⟩
  by_cases hyx : y = x
  · subst hyx
    rw [if_pos rfl]
    have hs1 : (w.setCell ⟨g, y * 2, none⟩ (.string k)).cell? ⟨g, y * 2 + 1, none⟩ = _ := (World.cell?_setCell_other _ _ _ _ (off_ne (by omega))).trans (h.cell y hy).2
    exact ⟨by rw [World.cell?_setCell_other _ _ _ _ (off_ne (by omega)), World.cell?_setCell_same _ _ _ (h.cell y hy).1], World.cell?_setCell_same _ _ _ hs1⟩
  · rw [if_neg hyx]
    exact ⟨by rw [World.cell?_setCell_other _ _ _ _ (off_ne (by omega)), World.cell?_setCell_other _ _ _ _ (off_ne (by omega)), (h.cell y hy).1], by rw [World.cell?_setCell_other _ _ _ _ (off_ne (by omega)), World.cell?_setCell_other _ _ _ _ (off_ne (by omega)), (h.cell y hy).2]⟩

theorem zero55 (w : World) : Sem.run Tryz.prog (zeroValue 42) w = .ok (.agg #[.string ⟨#[]⟩, .string ⟨#[]⟩]) w := by kernel_rfl

theorem clear_one (g o c : Nat) (w : World) (ty : TypeId) (h0 : (w.cell? ⟨g, o, none⟩).isSome = true) (h1 : (w.cell? ⟨g, o + 1, none⟩).isSome = true) (hf : ∀ x, w.frozen? ⟨g, x, none⟩ = false) :
    (Builtin.clear_ #[73] ty #[.slice (some ⟨g, o, none⟩) 1 c]).run Tryz.prog w = .ok (.tuple #[]) ((w.setCell ⟨g, o, none⟩ (.string ⟨#[]⟩)).setCell ⟨g, o + 1, none⟩ (.string ⟨#[]⟩)) := by
  have hz : (Builtin.zeroCells (Value.agg #[.string ⟨#[]⟩, .string ⟨#[]⟩]).cells 1).toList = [.string ⟨#[]⟩, .string ⟨#[]⟩] := by simp [Builtin.zeroCells, Value.cells]; rfl
  have hsm : ∀ j, j < 2 → (w.cell? ⟨g, o + 0 + j, none⟩).isSome = true := fun j hj => by
    have : j = 0 ∨ j = 1 := by omega
    rcases this with rfl | rfl
    · exact h0
    · exact h1
  have hst := run_storeCells_cells (P := Tryz.prog) g o [.string ⟨#[]⟩, .string ⟨#[]⟩] 0 w hsm (fun j _ => hf _) (by intro v hv; simp at hv; subst hv; rfl)
  simp only [Nat.add_zero] at hst
  simp [Builtin.clear_, run_underlying Tryz.underlying73, hz, hst]
  rfl

theorem erase_get (l : List (ByteArray × ByteArray)) (i : Nat) (y : Nat) (h : y < (l.eraseIdx i).length) : (l.eraseIdx i)[y] = if i ≤ y then pairAt l (y + 1) else pairAt l y := by
  have hl := List.length_eraseIdx_le l i
  have hy : y < l.length := by omega
  rw [List.getElem_eraseIdx]
  by_cases hi : i ≤ y
  · rw [if_pos hi, dif_neg (by omega)]
    rw [pairAt_get]
  · rw [if_neg hi, dif_pos (by omega), pairAt_get hy]

set_option maxRecDepth 100000 in
set_option maxHeartbeats 3200000 in
theorem delete_any (g cap kb : Nat) (l : List (ByteArray × ByteArray)) (key : ByteArray) (i : Nat) (hi : i < l.length) (hik : l[i].1 = key) (hs : Rises (keysOf l)) (hlen : l.length ≤ 1000) (hcap : l.length ≤ cap ∧ cap ≤ 9223372036854775807) (w : World) (hK : KVsAt w (some ⟨g, 0, none⟩) l) (hf : ∀ o, w.frozen? ⟨g, o, none⟩ = false) (hgl : g < w.heap.size) (hne : kb ≠ g) (h0 : w.cell? ⟨kb, 0, none⟩ = some (.string key)) :
    Calls Tryz.prog 59 #[.slice (some ⟨g, 0, none⟩) l.length cap, .func (.func 61) #[] #[.pointer (some ⟨kb, 0, none⟩)]] w fun e w' => e = .returned (.slice (some ⟨g, 0, none⟩) (l.length - 1) cap) ∧ KVsAt w' (some ⟨g, 0, none⟩) (l.eraseIdx i) ∧ Turn [g] w w' := by
  have HI := hide (index_any g 0 cap kb l key i hi hik hs hlen w hK h0)
  have H0 := hide h0
  have HF := hide (PairsF.of hK hf)
  have HNE : Hid (∀ j, j < l.length → j ≠ i → decide ((pairAt l j).1 = key) = false) := fun j hj h => by
    have := rises_ne hs hi hj h
    rw [hik] at this
    rw [pairAt_get hj]
    simp [this]
  have HE : Hid (∀ (w' : World), PairsF w' g l.length (fun y => if i ≤ y ∧ y < l.length - 1 then pairAt l (y + 1) else if y = l.length - 1 then (⟨#[]⟩, ⟨#[]⟩) else pairAt l y) → KVsAt w' (some ⟨g, 0, none⟩) (l.eraseIdx i)) := fun w' h => by
    have hl : (l.eraseIdx i).length = l.length - 1 := by rw [List.length_eraseIdx_of_lt hi]
    refine h.kvs _ (by omega) fun y hy => ?_
    rw [erase_get l i y hy]
    rw [hl] at hy
    by_cases h : i ≤ y
    · simp [h, hy]
    · simp [h, show y ≠ l.length - 1 by omega]
  have hkb := lt_of_cell h0
  clear hK hs hik h0 hf
  obtain ⟨n, HN⟩ : ∃ n, Hid (l.length = n) := ⟨_, rfl⟩
  rw [HN.out] at hi hlen hcap HI HF HNE HE ⊢
  go_enter Tryz.func59, Tryz.ntmps59
  go_wp2_with fail
  refine HI.out.mono ?_
  rintro e w1 ⟨rfl, hT1⟩
  have HF1 := hide (HF.out.turn0 hT1 hgl)
  have HT1 := hide (hT1.mono (T := [g]) (by simp))
  have hl1 := hT1.size
  have hi1 : ((i : Int) == -1) = false := by simp
  clear hT1
  go_wp2_with fail
  go_loopw [5, 6, 7] (fun a b _ wr => ∃ x : Nat, i ≤ x ∧ x + 1 ≤ n ∧ a = .int .i64 (x : Nat) ∧ b = .int .i64 ((x + 1 : Nat) : Int) ∧ PairsF wr g n (fun y => if i ≤ y ∧ y < x then pairAt l (y + 1) else pairAt l y) ∧ Turn [g] w wr) (fun _ b _ _ => n - (intOf b).toNat)
  case atStart => exact ⟨i, Nat.le_refl _, by omega, rfl, by go_num, by simpa [show ∀ y, ¬ (i ≤ y ∧ y < i) by omega] using HF1.out, HT1.out⟩
  case round =>
    obtain ⟨x, hx, hxn, rfl, rfl, hP, hT⟩ := hrel
    have HT := hide hT
    have HP := hide hP
    have hgr : g < wr.heap.size := Nat.lt_of_lt_of_le hgl hT.size
    have hfr := hP.fz
    have hkr : wr.cell? ⟨kb, 0, none⟩ = some (.string key) := (hT.cell (p := ⟨kb, 0, none⟩) hkb (by simpa using hne)).trans H0.out
    have hkl := lt_of_cell hkr
    by_cases hlt : x + 1 < n
    · obtain ⟨hc0, hc1⟩ := hP.cell (x + 1) hlt
      have hne' : ¬ (i ≤ x + 1 ∧ x + 1 < x) := by omega
      simp only [hne', if_false] at hc0 hc1
      have hck : decide ((pairAt l (x + 1)).1 = key) = false := HNE.out (x + 1) hlt (by omega)
      have HC := hide (del1_any (pairAt l (x + 1)).1 (pairAt l (x + 1)).2 key kb (wr.alloc (.cells #[.string (pairAt l (x + 1)).1, .string (pairAt l (x + 1)).2] 42)) (Lib.cell?_alloc_some _ hkr))
      rw [hck] at HC
      have HEk : Hid (∃ k v, (k, v) = pairAt l (x + 1) ∧ k = (pairAt l (x + 1)).1 ∧ v = (pairAt l (x + 1)).2) := ⟨_, _, rfl, rfl, rfl⟩
      obtain ⟨k, v, ekv, ek, ev⟩ := HEk.out
      rw [← ek, ← ev] at HC
      rw [← ek] at hc0
      rw [← ev] at hc1
      have HEkv := hide ekv
      have HFz := hide hfr
      clear ek ev HEk ekv hck hT hP hfr hkr
      go_wp2_with fail
      refine HC.out.mono ?_
      rintro e w2 ⟨rfl, hT2⟩
      have hT2' : Turn [] wr w2 := ((Turn.refl [] wr).alloc _).trans hT2
      have HP2 := hide (HP.out.turn0 hT2' hgr)
      obtain ⟨z0, hx0⟩ : ∃ z, w2.cell? ⟨g, x * 2, none⟩ = some (.string z) := ⟨_, (HP2.out.cell x (by omega)).1⟩
      obtain ⟨z1, hx1⟩ : ∃ z, w2.cell? ⟨g, x * 2 + 1, none⟩ = some (.string z) := ⟨_, (HP2.out.cell x (by omega)).2⟩
      have hf0 := HP2.out.fz (x * 2)
      have hf1 := HP2.out.fz (x * 2 + 1)
      have hb0 : w2.cell? ⟨wr.heap.size, 0, none⟩ = some (.string k) := (hT2.cell (p := ⟨wr.heap.size, 0, none⟩) (by simp) (by simp)).trans (World.cell?_alloc_at _ _ _ _ rfl)
      have hb1 : w2.cell? ⟨wr.heap.size, 1, none⟩ = some (.string v) := (hT2.cell (p := ⟨wr.heap.size, 1, none⟩) (by simp) (by simp)).trans (World.cell?_alloc_at _ _ _ _ rfl)
      have HT2 := hide (HT.out.then hT2' (by simp))
      clear hT2 hT2'
      go_wp2_with fail
      go_roundw
      case rel =>
        obtain ⟨h1, h2⟩ := HP2.out.set x (by omega) k v
        refine ⟨x + 1, by omega, by omega, by go_num, by go_num, ?_, HT2.out.trans h2⟩
        have hfun : (fun y => if y = x then (k, v) else if i ≤ y ∧ y < x then pairAt l (y + 1) else pairAt l y) = fun y => if i ≤ y ∧ y < x + 1 then pairAt l (y + 1) else pairAt l y := by
          funext y
          by_cases h : y = x
          · subst h
            rw [if_pos rfl, if_pos ⟨hx, by omega⟩, HEkv.out]
          · rw [if_neg h]
            by_cases h' : i ≤ y ∧ y < x
            · rw [if_pos h', if_pos ⟨h'.1, by omega⟩]
            · rw [if_neg h', if_neg (by omega)]
        rw [← hfun]
        exact h1
      case measure => simp [intOf]; omega
    · have HXE : Hid (n - 1 = x) := by show n - 1 = x; omega
      have hx0 := (hP.cell x (by omega)).1
      have hx1 := (hP.cell x (by omega)).2
      have hcl : ∀ ty c, (Builtin.clear_ #[73] ty #[.slice (some ⟨g, x * 2, none⟩) 1 c]).run Tryz.prog wr = .ok (.tuple #[]) ((wr.setCell ⟨g, x * 2, none⟩ (.string ⟨#[]⟩)).setCell ⟨g, x * 2 + 1, none⟩ (.string ⟨#[]⟩)) := fun ty c => clear_one g (x * 2) c wr ty (by rw [hx0]; rfl) (by rw [hx1]; rfl) hfr
      have hcn : ¬ cap = x := by omega
      have hn1 : n - x = 1 := by omega
      have HX : Hid (x < n) := by show x < n; omega
      clear hT hP hx0 hx1 hkr
      go_wp2_with fail
      go_ret
      rw [HXE.out] at HE ⊢
      obtain ⟨h1, h2⟩ := HP.out.set x HX.out ⟨#[]⟩ ⟨#[]⟩
      refine ⟨rfl, HE.out _ ?_, HT.out.trans h2⟩
      have hfun : (fun y => if y = x then ((⟨#[]⟩, ⟨#[]⟩) : ByteArray × ByteArray) else if i ≤ y ∧ y < x then pairAt l (y + 1) else pairAt l y) = fun y => if i ≤ y ∧ y < x then pairAt l (y + 1) else if y = x then (⟨#[]⟩, ⟨#[]⟩) else pairAt l y := by
        funext y
        by_cases h : y = x
        · subst h
          simp
        · simp [h]
      rw [← hfun]
      exact h1

set_option maxRecDepth 100000 in
set_option maxHeartbeats 1600000 in
theorem ldel_any (b off cap : Nat) (l : List (ByteArray × ByteArray)) (key : ByteArray) (i : Nat) (hi : i < l.length) (hik : l[i].1 = key) (hs : Rises (keysOf l)) (hlen : l.length ≤ 1000) (w : World) (hK : KVsAt w (some ⟨b, off, none⟩) l) :
    Calls Tryz.prog 41 #[.slice (some ⟨b, off, none⟩) l.length cap, .string key] w fun e w' => ∃ g c, e = .returned (.slice (some ⟨g, 0, none⟩) (l.eraseIdx i).length c) ∧ ((l.eraseIdx i).length ≤ c ∧ c ≤ 9223372036854775807) ∧ w.heap.size ≤ g ∧ g < w'.heap.size ∧ KVsAt w' (some ⟨g, 0, none⟩) (l.eraseIdx i) ∧ Turn [] w w' := by
  have he : (l.eraseIdx i).length = l.length - 1 := List.length_eraseIdx_of_lt hi
  rw [he]
  have HC := hide (lclone_any b off cap l (by omega) hlen (w.alloc (.cells #[.string key] 9)) (hK.turn0 ((Turn.refl [] w).alloc _)))
  have HD : Hid (∀ (w1 : World) (g c : Nat), (l.length ≤ c ∧ c ≤ 9223372036854775807) → KVsAt w1 (some ⟨g, 0, none⟩) l → (∀ o, w1.frozen? ⟨g, o, none⟩ = false) → g < w1.heap.size → w.heap.size ≠ g → w1.cell? ⟨w.heap.size, 0, none⟩ = some (.string key) → Calls Tryz.prog 59 #[.slice (some ⟨g, 0, none⟩) l.length c, .func (.func 61) #[] #[.pointer (some ⟨w.heap.size, 0, none⟩)]] w1 fun e w' => e = .returned (.slice (some ⟨g, 0, none⟩) (l.length - 1) c) ∧ KVsAt w' (some ⟨g, 0, none⟩) (l.eraseIdx i) ∧ Turn [g] w1 w') := fun w1 g c h1 h2 h3 h4 h5 h6 => delete_any g c w.heap.size l key i hi hik hs hlen h1 w1 h2 h3 h4 h5 h6
  have hmf : ∀ (fn : Fn) (first cap : Array Value) (w : World), (Instr.makeFunc fn first cap).run Tryz.prog w = .ok (.func fn first cap) w := fun _ _ _ _ => rfl
  clear hK hs hik he
  obtain ⟨n, HN⟩ : ∃ n, Hid (l.length = n) := ⟨_, rfl⟩
  rw [HN.out] at hi hlen HC HD ⊢
  go_enter Tryz.func41, Tryz.ntmps41
  go_wp2_with fail
  refine HC.out.mono ?_
  rintro e w1 ⟨g, c, rfl, hc, hg, hgl, hkv, hfz, hT1⟩
  have h0 : w1.cell? ⟨w.heap.size, 0, none⟩ = some (.string key) := (hT1.cell (p := ⟨w.heap.size, 0, none⟩) (by simp) (by simp)).trans (World.cell?_alloc_at _ _ _ _ rfl)
  have hg' : w.heap.size + 1 ≤ g := by simpa using hg
  have HD1 := hide (HD.out w1 g c hc hkv hfz hgl (by omega) h0)
  have HT1 := hide (((Turn.refl [] w).alloc (.cells #[.string key] 9)).trans hT1)
  clear hkv hfz hT1 h0 hg HC HD
  go_wp2_with fail
  refine HD1.out.mono ?_
  rintro e w2 ⟨rfl, hkv, hT2⟩
  have HR := hide hkv
  have hl2 := hT2.size
  have HT2 : Hid (Turn [] w w2) := HT1.out.then hT2 (fun x hx => .inr (by simp at hx; omega))
  clear hkv hT2
  go_wp2_with fail
  go_ret
  exact ⟨g, c, rfl, by omega, by omega, by omega, HR.out, HT2.out⟩

set_option maxRecDepth 100000 in
set_option maxHeartbeats 800000 in
theorem tdel1_any (b off cap kb : Nat) (l : List (ByteArray × ByteArray)) (key : ByteArray) (i : Nat) (hi : i < l.length) (hik : l[i].1 = key) (hs : Rises (keysOf l)) (hlen : l.length ≤ 1000) (w : World) (hK : KVsAt w (some ⟨b, off, none⟩) l) (h0 : w.cell? ⟨kb, 0, none⟩ = some (.string key)) :
    Calls Tryz.prog 40 #[.slice (some ⟨b, off, none⟩) l.length cap, .pointer (some ⟨kb, 0, none⟩)] w fun e w' => ∃ g c, e = .returned (.slice (some ⟨g, 0, none⟩) (l.eraseIdx i).length c) ∧ ((l.eraseIdx i).length ≤ c ∧ c ≤ 9223372036854775807) ∧ w.heap.size ≤ g ∧ g < w'.heap.size ∧ KVsAt w' (some ⟨g, 0, none⟩) (l.eraseIdx i) ∧ Turn [] w w' := by
  have HC := hide (ldel_any b off cap l key i hi hik hs hlen w hK)
  clear hK hs hik hi
  generalize l.length = n at *
  generalize (l.eraseIdx i).length = m at *
  go_enter Tryz.func40, Tryz.ntmps40
  go_wp2_with fail
  refine HC.out.mono ?_
  rintro e w2 ⟨g, c, rfl, h1, h2, h3, h4, hT2⟩
  have HR := hide h4
  clear h4
  go_wp2_with fail
  go_ret
  exact ⟨g, c, rfl, h1, h2, h3, HR.out, hT2⟩

end Go.Proofs.YthehkckdecckhaaGreatDoor
