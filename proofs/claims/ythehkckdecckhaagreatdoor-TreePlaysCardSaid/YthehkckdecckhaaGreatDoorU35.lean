/-
  Scan of all of a tree of nothing or of one leaf, walked.
-/
import Derived.Test.YthehkckdecckhaaGreatDoorU21
import Derived.Test.YthehkckdecckhaaGreatDoorU33

namespace Go.Proofs.YthehkckdecckhaaGreatDoor
open Go.RowKit Go.Maps

theorem own_turn {S : List Nat} {w w' : World} {base e size n : Nat} {v : Value} {xs : List Value} (h : w.ownsRow base e size v n xs) (hT : Turn S w w') (hn : ∀ g, v.ownBlock = some g → g ∉ S) : w'.ownsRow base e size v n xs := by
  obtain ⟨hl, h | ⟨g, cap, cur, rfl, hb, hg, rest⟩⟩ := h
  · exact ⟨hl, .inl h⟩
  · refine ⟨hl, .inr ⟨g, cap, cur, rfl, hb, (hT.block g ?_ (hn g rfl)).trans hg, rest⟩⟩
    rcases Nat.lt_or_ge g w.heap.size with h | h
    · exact h
    · rw [Array.getElem?_eq_none h] at hg; cases hg

/-- What is found so far: the variable in block fb, and its row in the memory of the call that began at w0. -/
structure Found (w0 w : World) (S : List Nat) (fb hb lb : Nat) (xs : List (ByteArray × ByteArray)) (r : Value) : Prop where
  f0 : w.cell? ⟨fb, 0, none⟩ = some r
  fz : w.frozen? ⟨fb, 0, none⟩ = false
  h0 : w.cell? ⟨hb, 0, none⟩ = some (.string ⟨#[]⟩)
  l0 : w.cell? ⟨lb, 0, none⟩ = some (.int .i64 0)
  row : w.ownsRow w0.heap.size 42 2 r xs.length (flat (kvCells xs))
  ap : ∀ g, r.ownBlock = some g → g ≠ fb ∧ g ≠ hb ∧ g ≠ lb
  ne : fb ≠ hb ∧ fb ≠ lb
  new : w0.heap.size ≤ fb
  turn : Turn S w0 w

theorem Found.turn0 {w0 w w' : World} {S : List Nat} {fb hb lb : Nat} {xs : List (ByteArray × ByteArray)} {r : Value} (h : Found w0 w S fb hb lb xs r) (hT : Turn [] w w') : Found w0 w' S fb hb lb xs r :=
  ⟨(hT.cell (p := ⟨fb, 0, none⟩) (lt_of_cell h.f0) (by simp)).trans h.f0, (World.frozen?_of_block (a := ⟨fb, 0, none⟩) (hT.block fb (lt_of_cell h.f0) (by simp))).trans h.fz, (hT.cell (p := ⟨hb, 0, none⟩) (lt_of_cell h.h0) (by simp)).trans h.h0, (hT.cell (p := ⟨lb, 0, none⟩) (lt_of_cell h.l0) (by simp)).trans h.l0, own_turn h.row hT (by simp), h.ap, h.ne, h.new, h.turn.then hT (by simp)⟩

theorem own_slice {w : World} {base e size n : Nat} {v : Value} {xs : List Value} (h : w.ownsRow base e size v n xs) : ∃ a c, v = .slice a n c := own_form h

theorem found_step {w0 W w3 : World} {S : List Nat} {fb hb lb : Nat} {xs : List (ByteArray × ByteArray)} {r v' : Value} {k v : ByteArray} (hF : Found w0 W S fb hb lb xs r) (hown : w3.ownsRow w0.heap.size 42 2 v' (xs.length + 1) (flat (kvCells xs ++ kvCells [(k, v)]))) (hg : W.grownBy w3 r.ownBlock) (hb3 : v'.ownBlock = r.ownBlock ∨ v'.ownBlock = some W.heap.size) :
    ∃ a' c', v' = .slice a' (xs.length + 1) c' ∧ w3.cell? ⟨fb, 0, none⟩ = some r ∧ w3.frozen? ⟨fb, 0, none⟩ = false ∧ (w3.setCell ⟨fb, 0, none⟩ v').cell? ⟨lb, 0, none⟩ = some (.int .i64 0) ∧ Found w0 (w3.setCell ⟨fb, 0, none⟩ v') S fb hb lb (xs ++ [(k, v)]) v' ∧ ∀ x, x < w0.heap.size → (w3.setCell ⟨fb, 0, none⟩ v').heap[x]? = W.heap[x]? := by
  have hfl := lt_of_cell hF.f0
  have hhl := lt_of_cell hF.h0
  have hll := lt_of_cell hF.l0
  have hT3 : Turn S w0 w3 := hF.turn.grown hg (fun g h => .inr (hF.row.lt g h).1)
  have hgb : ∀ x, x < W.heap.size → (∀ g, r.ownBlock = some g → g ≠ x) → w3.heap[x]? = W.heap[x]? := fun x hx h => hg.block x hx (fun e => h x e.symm rfl)
  have f3 := (World.cell?_of_block (a := ⟨fb, 0, none⟩) (hgb fb hfl (fun g hg => (hF.ap g hg).1))).trans hF.f0
  have z3 := (World.frozen?_of_block (a := ⟨fb, 0, none⟩) (hgb fb hfl (fun g hg => (hF.ap g hg).1))).trans hF.fz
  have h3 := (World.cell?_of_block (a := ⟨hb, 0, none⟩) (hgb hb hhl (fun g hg => (hF.ap g hg).2.1))).trans hF.h0
  have l3 := (World.cell?_of_block (a := ⟨lb, 0, none⟩) (hgb lb hll (fun g hg => (hF.ap g hg).2.2))).trans hF.l0
  have hap : ∀ g, v'.ownBlock = some g → g ≠ fb ∧ g ≠ hb ∧ g ≠ lb := fun g hg => by
    rcases hb3 with e | e
    · exact hF.ap g (by rw [← e]; exact hg)
    · rw [hg] at e
      have := Option.some.inj e
      omega
  obtain ⟨a', c', rfl⟩ := own_slice hown
  have l3' : (w3.setCell ⟨fb, 0, none⟩ (.slice a' (xs.length + 1) c')).cell? ⟨lb, 0, none⟩ = some (.int .i64 0) := (World.cell?_setCell_other _ _ _ _ (fun e => hF.ne.2 (by injection e))).trans l3
  refine ⟨a', c', rfl, f3, z3, l3', ⟨World.cell?_setCell_same _ _ _ f3, by rw [World.frozen?_setCell]; exact z3, (World.cell?_setCell_other _ _ _ _ (fun e => hF.ne.1 (by injection e))).trans h3, l3', ?_, hap, hF.ne, hF.new, hT3.then ((Turn.refl [fb] w3).setCell (List.mem_singleton.2 rfl) _ _) (fun x hx => by simp at hx; subst hx; exact .inr hF.new)⟩, fun x hx => ?_⟩
  rotate_left
  · have hs := hF.turn.size
    have hn := hF.new
    have h1 := ((Turn.refl [fb] w3).setCell (List.mem_singleton.2 rfl) 0 (.slice a' (xs.length + 1) c')).block x (by have := hT3.size; omega) (by simp; omega)
    exact h1.trans (hgb x (by omega) (fun g hg => by have := (hF.row.lt g hg).1; omega))
  have := own_turn hown ((Turn.refl [fb] w3).setCell (List.mem_singleton.2 rfl) 0 (.slice a' (xs.length + 1) c')) (fun g hg => by simp; exact (hap g hg).1)
  rw [List.length_append, kv_append]
  exact this

set_option maxRecDepth 100000 in
set_option maxHeartbeats 3200000 in
theorem scan1_any (w0 : World) (S : List Nat) (fb hb lb : Nat) (xs : List (ByteArray × ByteArray)) (r : Value) (k v : ByteArray) (hx : xs.length ≤ 1000) (w : World) (hF : Found w0 w S fb hb lb xs r) :
    Calls Tryz.prog 45 #[.agg #[.string k, .string v], .pointer (some ⟨hb, 0, none⟩), .pointer (some ⟨fb, 0, none⟩), .pointer (some ⟨lb, 0, none⟩)] w fun e w' => e = .returned (.bool true) ∧ (∃ r', Found w0 w' S fb hb lb (xs ++ [(k, v)]) r') ∧ ∀ x, x < w0.heap.size → w'.heap[x]? = w.heap[x]? := by
  have hs0 : w0.heap.size ≤ w.heap.size := hF.turn.size
  have hF1 := hF.turn0 ((Turn.refl [] w).alloc (.cells #[.string k, .string v] 42))
  have hF2 := hF1.turn0 ((Turn.refl [] _).alloc (.cells #[.string k, .string v] 42))
  have h0 := hF1.h0
  have f0 := hF1.f0
  have hfl := lt_of_cell hF.f0
  have hhl := lt_of_cell hF.h0
  have hll := lt_of_cell hF.l0
  obtain ⟨ra, rc, rfl⟩ := own_slice hF.row
  have HF2 := hide hF2
  have HL := hide (kvCells_length [(k, v)])
  have HP : Hid (PairsAt ((w.alloc (.cells #[.string k, .string v] 42)).alloc (.cells #[.string k, .string v] 42)) (some ⟨w.heap.size + 1, 0, none⟩) (kvCells [(k, v)])) := by
    refine (KVsAt.pairs (l := [(k, v)]) (.inr ⟨w.heap.size + 1, 0, rfl, fun i hi => ?_⟩) :)
    have : i = 0 := by simpa using hi
    subst this
    have e : w.heap.size + 1 = (w.alloc (.cells #[.string k, .string v] 42)).heap.size := by simp
    rw [e]
    exact ⟨World.cell?_alloc_at _ _ _ _ rfl, World.cell?_alloc_at _ _ _ _ rfl⟩
  have he : ((⟨#[]⟩ : ByteArray).toList == (⟨#[]⟩ : ByteArray).toList) = true := by simp
  clear hF hF1 hF2
  obtain ⟨n, HN⟩ : ∃ n, Hid (xs.length = n) := ⟨_, rfl⟩
  rw [HN.out] at hx f0 HF2
  go_enter Tryz.func45, Tryz.ntmps45
  go_wp2_with (first | (at_builtin; refine append_pairsT 28 Tryz.underlying28 rfl _ _ rfl w0.heap.size (.slice ra n rc) n (kvCells xs) rfl (by have := HF2.out.row; rwa [HN.out] at this) (some ⟨w.heap.size + 1, 0, none⟩) 1 1 (kvCells [(k, v)]) rfl HL.out (by simp) HP.out (kv_one _) (by omega) (by simp; omega) ?_; intro v' w3 hown3 hgrow3 hb3; rw [← HN.out] at hown3; obtain ⟨a', c', rfl, f3, z3, l3, hFn, hst⟩ := found_step HF2.out hown3 hgrow3 hb3; have HFn := hide hFn; have HSt := hide hst; clear hown3 hgrow3 hb3 hFn hst) | fail)
  go_ret
  exact ⟨rfl, ⟨_, HFn.out⟩, fun x hx => (HSt.out x hx).trans (((Turn.refl [] w).alloc _).alloc _ |>.block x (by omega) (by simp))⟩

theorem Found.turnS {w0 w w' : World} {S T : List Nat} {fb hb lb : Nat} {xs : List (ByteArray × ByteArray)} {r : Value} (h : Found w0 w S fb hb lb xs r) (hT : Turn T w w') (hS : ∀ x ∈ T, x ∈ S ∧ x < w0.heap.size) (hh : w0.heap.size ≤ hb) (hl : w0.heap.size ≤ lb) : Found w0 w' S fb hb lb xs r := by
  have hno : ∀ x, w0.heap.size ≤ x → x ∉ T := fun x hx hm => by have := (hS x hm).2; omega
  exact ⟨(hT.cell (p := ⟨fb, 0, none⟩) (lt_of_cell h.f0) (hno _ h.new)).trans h.f0, (World.frozen?_of_block (a := ⟨fb, 0, none⟩) (hT.block fb (lt_of_cell h.f0) (hno _ h.new))).trans h.fz, (hT.cell (p := ⟨hb, 0, none⟩) (lt_of_cell h.h0) (hno _ hh)).trans h.h0, (hT.cell (p := ⟨lb, 0, none⟩) (lt_of_cell h.l0) (hno _ hl)).trans h.l0, own_turn h.row hT (fun g hg => hno _ (h.row.lt g hg).1), h.ap, h.ne, h.new, h.turn.then hT (fun x hx => .inl (hS x hx).1)⟩

theorem not_below (k : ByteArray) : ¬ klt k ⟨#[]⟩ := fun h => by
  unfold klt cmp at h
  cases e : k.data.toList with
  | nil => simp [e, Lib.compareBytes] at h
  | cons a r => simp [e, Lib.compareBytes] at h

theorem pos_empty {l : List ByteArray} {i : Nat} (h : IsPos l ⟨#[]⟩ i) : i = 0 := by
  by_cases hi : i = 0
  · exact hi
  · have h1 := h.1
    exact absurd (h.2.1 0 (by omega) (by omega)) (not_below _)

theorem LeafAt.same {w w' : World} {a pg : Nat} {d : Int} {bb off cap : Nat} {l : List (ByteArray × ByteArray)} (h : LeafAt w a pg d bb off cap l) (ha : w'.heap[a]? = w.heap[a]?) (hb : l ≠ [] → w'.heap[bb]? = w.heap[bb]?) : LeafAt w' a pg d bb off cap l := by
  have hc : ∀ o, w'.cell? ⟨a, o, none⟩ = w.cell? ⟨a, o, none⟩ := fun o => World.cell?_of_block (a := ⟨a, o, none⟩) ha
  refine ⟨⟨(hc _).trans h.place.c0, (hc _).trans h.place.c1, (hc _).trans h.place.c2, (hc _).trans h.place.c3, (hc _).trans h.place.c5, fun o => (World.frozen?_of_block (a := ⟨a, o, none⟩) ha).trans (h.place.fz o)⟩, h.d01, ?_, h.cap⟩
  rcases h.kv with h' | ⟨b, o, e, h'⟩
  · exact .inl h'
  · by_cases hl : l = []
    · exact .inl hl
    · injection e with e
      injection e with e1 e2
      subst e1 e2
      exact .inr ⟨bb, off, rfl, fun i hi => ⟨(World.cell?_of_block (a := ⟨bb, off + i * 2, none⟩) (hb hl)).trans (h' i hi).1, (World.cell?_of_block (a := ⟨bb, off + i * 2 + 1, none⟩) (hb hl)).trans (h' i hi).2⟩⟩

set_option maxRecDepth 100000 in
set_option maxHeartbeats 3200000 in
theorem walk_leaf (w0 : World) (t a pg : Nat) (d : Int) (bb off cap : Nat) (l : List (ByteArray × ByteArray)) (hs : Rises (keysOf l)) (hlen : l.length ≤ 1000) (hne : 0 < l.length) (hbb : bb ≠ a ∧ bb < w0.heap.size ∧ a < w0.heap.size) (fb hb lb : Nat) (hh : w0.heap.size ≤ hb) (hl : w0.heap.size ≤ lb) (r : Value) (w : World) (hL : LeafAt w a pg d bb off cap l) (hF : Found w0 w [a] fb hb lb [] r) :
    Calls Tryz.prog 44 #[.pointer (some ⟨t, 0, none⟩), .pointer (some ⟨a, 0, none⟩), .string ⟨#[]⟩, .func (.func 45) #[] #[.pointer (some ⟨hb, 0, none⟩), .pointer (some ⟨fb, 0, none⟩), .pointer (some ⟨lb, 0, none⟩)]] w fun e w' => e = .returned (.bool true) ∧ LeafAt w' a pg 1 bb off cap l ∧ ∃ r', Found w0 w' [a] fb hb lb l r' := by
  have hta := ta_ll
  have htb := ta_lb
  have HN := hide (nodeAt_some t a pg 1 d hL.d01 73 _ w hL.place)
  have HL := hide hL
  have HF := hide hF
  have HS := hide hs
  have hcap := hL.cap
  clear hL hF hs
  obtain ⟨n, HLn⟩ : ∃ n, Hid (l.length = n) := ⟨_, rfl⟩
  rw [HLn.out] at hlen hne hcap HN
  go_enter Tryz.func44, Tryz.ntmps44
  go_wp2_with fail
  refine HN.out.mono ?_
  rintro e w1 ⟨rfl, hP1, hT1⟩
  have HL1 : Hid (LeafAt w1 a pg 1 bb off cap l) := ⟨by rw [HLn.out]; exact hP1, .inr rfl, HL.out.kv.turn hT1 (fun x _ hx => by obtain rfl := Option.some.inj hx; simp; exact hbb.1), HL.out.cap⟩
  have HF1 := hide (HF.out.turnS hT1 (fun x hx => by simp at hx; subst hx; simp; omega) hh hl)
  have HFd := hide (lfind_any (some ⟨bb, off, none⟩) cap l ⟨#[]⟩ HS.out (by rw [HLn.out]; omega) w1 HL1.out.kv)
  rw [HLn.out] at HFd
  clear hP1 hT1
  go_wp2_with fail
  refine HFd.out.mono ?_
  rintro e w2 ⟨i, f, rfl, hpos, _, hT2⟩
  obtain rfl := pos_empty hpos
  have HL2 : Hid (LeafAt w2 a pg 1 bb off cap l) := ⟨HL1.out.place.turn hT2 (by simp), .inr rfl, HL1.out.kv.turn0 hT2, HL.out.cap⟩
  have HF2 := hide (HF1.out.turn0 hT2)
  have hc0 : ¬ cap = 0 := by omega
  clear hT2 hpos
  go_wp2_with fail
  go_loopw [16, 54] (fun _ x wr => ∃ j : Nat, j ≤ n ∧ x = .int .i64 (j : Nat) ∧ LeafAt wr a pg 1 bb off cap l ∧ ∃ r', Found w0 wr [a] fb hb lb (l.take j) r') (fun _ x _ => n - (intOf x).toNat)
  case atStart => exact ⟨0, Nat.zero_le _, rfl, HL2.out, _, by simpa using HF2.out⟩
  case round =>
    obtain ⟨j, hj, rfl, hLr, r', hFr⟩ := hrel
    have HLr := hide hLr
    have HFr := hide hFr
    by_cases hlt : j < n
    · have hjl : j < l.length := by rw [HLn.out]; exact hlt
      obtain ⟨b', off', e, hk0, hk1⟩ := hLr.kv.at hjl
      obtain ⟨rfl, rfl⟩ : bb = b' ∧ off = off' := by injection e with e; injection e with e1 e2; exact ⟨e1, e2⟩
      have hTa : Turn [] wr (wr.alloc (.cells #[.string l[j].1, .string l[j].2] 42)) := (Turn.refl [] wr).alloc _
      have HC := hide (scan1_any w0 [a] fb hb lb (l.take j) r' l[j].1 l[j].2 (by simp; omega) _ (hFr.turn0 hTa))
      have HTk : Hid (l.take j ++ [(l[j].1, l[j].2)] = l.take (j + 1)) := by
        show _ = _
        rw [List.take_succ_eq_append_getElem hjl]
      rw [HTk.out] at HC
      have hs0 := hFr.turn.size
      clear hLr hFr hTa e HTk
      generalize l[j].1 = jk at *
      generalize l[j].2 = jv at *
      clear hjl
      go_wp2_with fail
      refine HC.out.mono ?_
      rintro e w4 ⟨rfl, hF4, hst⟩
      have hst' : ∀ x, x < w0.heap.size → w4.heap[x]? = wr.heap[x]? := fun x hx => (hst x hx).trans (((Turn.refl [] wr).alloc _).block x (by omega) (by simp))
      have HL4 := hide (HLr.out.same (hst' a hbb.2.2) (fun _ => hst' bb hbb.2.1))
      have HF4 := hide hF4
      clear hF4 hst hst'
      go_wp2_with fail
      go_roundw
      case rel => exact ⟨j + 1, by omega, by go_num, HL4.out, HF4.out⟩
      case measure => simp [intOf]; omega
    · obtain rfl : j = n := by omega
      clear hLr hFr
      go_wp2_with fail
      go_ret
      refine ⟨rfl, HLr.out, r', ?_⟩
      have := HFr.out
      rwa [← HLn.out, List.take_length] at this

set_option maxRecDepth 100000 in
set_option maxHeartbeats 1600000 in
theorem walk_nil (w0 : World) (S : List Nat) (t : Nat) (fb hb lb : Nat) (r : Value) (w : World) (hF : Found w0 w S fb hb lb [] r) :
    Calls Tryz.prog 44 #[.pointer (some ⟨t, 0, none⟩), .pointer none, .string ⟨#[]⟩, .func (.func 45) #[] #[.pointer (some ⟨hb, 0, none⟩), .pointer (some ⟨fb, 0, none⟩), .pointer (some ⟨lb, 0, none⟩)]] w fun e w' => e = .returned (.bool true) ∧ Found w0 w' S fb hb lb [] r := by
  have hta := ta_ll
  have htb := ta_lb
  have HF := hide hF
  clear hF
  go_enter Tryz.func44, Tryz.ntmps44
  go_wp2_with fail
  refine (nodeAt_nil t w).mono ?_
  rintro e w1 ⟨b, rfl, hT1⟩
  have HF1 := hide (HF.out.turn0 hT1)
  clear hT1
  go_wp2_with fail
  refine (lfind_any (some ⟨b, 0, none⟩) 0 [] ⟨#[]⟩ (by simp [Rises, keysOf]) (by simp) w1 (.inl rfl)).mono ?_
  rintro e w2 ⟨i, f, rfl, hpos, _, hT2⟩
  obtain rfl := pos_empty hpos
  have HF2 := hide (HF1.out.turn0 hT2)
  clear hT2 hpos
  go_wp2_with fail
  go_loopw [16, 54] (fun _ x wr => x = .int .i64 0 ∧ Found w0 wr S fb hb lb [] r) (fun _ _ _ => 0)
  case atStart => exact ⟨rfl, HF2.out⟩
  case round =>
    obtain ⟨rfl, hFr⟩ := hrel
    have HFr := hide hFr
    clear hFr
    go_wp2_with fail
    go_ret
    exact ⟨rfl, HFr.out⟩

set_option maxRecDepth 100000 in
set_option maxHeartbeats 1600000 in
/-- Scan of all, where the walk is known. -/
theorem scan_gen (t p : Nat) (D S : Stt) (X : List Nat) (l : List (ByteArray × ByteArray)) (R : World → Prop) (_hX : t ∉ X) (w : World) (hT : TreeAt w t p D S)
    (hW : ∀ (W : World) (fb hb lb : Nat) (r : Value), Turn [] w W → Found w W X fb hb lb [] r → w.heap.size ≤ hb → w.heap.size ≤ lb → Calls Tryz.prog 44 #[.pointer (some ⟨t, 0, none⟩), rootV S.root, .string ⟨#[]⟩, .func (.func 45) #[] #[.pointer (some ⟨hb, 0, none⟩), .pointer (some ⟨fb, 0, none⟩), .pointer (some ⟨lb, 0, none⟩)]] W fun e w' => e = .returned (.bool true) ∧ R w' ∧ ∃ r', Found w w' X fb hb lb l r') :
    Calls Tryz.prog 21 #[.pointer (some ⟨t, 0, none⟩), .string ⟨#[]⟩, .string ⟨#[]⟩, .int .i64 0] w fun e w' => ∃ r, e = .returned r ∧ w'.ownsRow w.heap.size 42 2 r l.length (flat (kvCells l)) ∧ R w' ∧ Turn X w w' := by
  have hT3 : Turn [] w (((w.alloc (.cells #[.string ⟨#[]⟩] 9)).alloc (.cells #[.int .i64 0] 3)).alloc (.cells #[.slice none 0 0] 28)) := (((Turn.refl [] w).alloc _).alloc _).alloc _
  have hFd : Found w (((w.alloc (.cells #[.string ⟨#[]⟩] 9)).alloc (.cells #[.int .i64 0] 3)).alloc (.cells #[.slice none 0 0] 28)) X (w.heap.size + 2) w.heap.size (w.heap.size + 1) [] (.slice none 0 0) := by
    have e1 : w.heap.size + 1 = (w.alloc (.cells #[.string ⟨#[]⟩] 9)).heap.size := by simp
    have e2 : w.heap.size + 2 = ((w.alloc (.cells #[.string ⟨#[]⟩] 9)).alloc (.cells #[.int .i64 0] 3)).heap.size := by simp
    refine ⟨?_, ?_, ?_, ?_, World.ownsRow_nil _ _ _ _, by simp [Value.ownBlock], ⟨by omega, by omega⟩, by omega, hT3.mono (by simp)⟩
    · rw [e2]
      exact World.cell?_alloc_at _ _ _ _ rfl
    · rw [e2]
      exact World.frozen?_alloc_at _ _ _ _ rfl
    · exact Lib.cell?_alloc_some _ (Lib.cell?_alloc_some _ (World.cell?_alloc_at _ _ _ _ rfl))
    · rw [e1]
      exact Lib.cell?_alloc_some _ (World.cell?_alloc_at _ _ _ _ rfl)
  have HC := hide (hW _ (w.heap.size + 2) w.heap.size (w.heap.size + 1) _ hT3 hFd (Nat.le_refl _) (by omega))
  have h6 : (((w.alloc (.cells #[.string ⟨#[]⟩] 9)).alloc (.cells #[.int .i64 0] 3)).alloc (.cells #[.slice none 0 0] 28)).cell? ⟨t, 6, none⟩ = some (rootV S.root) := (hT.turn hT3 (by simp)).now.c0
  obtain ⟨ra, hrv⟩ : ∃ ra, Value.pointer ra = rootV S.root := ⟨_, rfl⟩
  rw [← hrv] at h6 HC
  have hmf : ∀ (fn : Fn) (first cap : Array Value) (w : World), (Instr.makeFunc fn first cap).run Tryz.prog w = .ok (.func fn first cap) w := fun _ _ _ _ => rfl
  have hz31 : ∀ w, Sem.run Tryz.prog (zeroValue 28) w = .ok (.slice none 0 0) w := fun w => by kernel_rfl
  clear hT hW hT3 hFd hrv
  go_enter Tryz.func21, Tryz.ntmps21
  go_wp2_with fail
  refine HC.out.mono ?_
  rintro e w4 ⟨rfl, hR, r', hF4⟩
  have HR := hide hR
  have HF4 := hide hF4
  have f4 := hF4.f0
  clear hR hF4
  go_wp2_with fail
  go_ret
  exact ⟨r', rfl, HF4.out.row, HR.out, HF4.out.turn⟩

end Go.Proofs.YthehkckdecckhaaGreatDoor
