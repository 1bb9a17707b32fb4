/-
  A writer's methods, walked.
-/
import Derived.Test.YtkbboingeacgjaaQCar
import Derived.Deep.AppendLies
import Derived.Deep.RegionLaw
import Derived.Lib.AppendStr
namespace Go.Proofs.Ytkbboingeacgjaa
open Go.RowKit

theorem strCells_nat (s : ByteArray) : Lib.strCells s = (natBytes s).map byteCell := by
  unfold Lib.strCells natBytes
  rw [List.map_map]
  rfl

/-- Bytes were put behind a writer's row. -/
theorem wr_put {w w1 w2 : World} {O : Nat → Prop} {b : Nat} {l m : List Nat} {v : Value} {g cap n : Nat} (h : WrAt w O b l) (hv : w.cell? ⟨b, 0, none⟩ = some v) (h1 : Keep (fun x => x < w.heap.size) w w1)
    (hO : w2.ownsRow 0 5 1 (.slice (some ⟨g, 0, none⟩) n cap) n ((l ++ m).map byteCell)) (hg : w1.grownBy w2 v.ownBlock) (hl : v.ownBlock = some g ∨ w.heap.size ≤ g) :
    WrAt (w2.setCell ⟨b, 0, none⟩ (.slice (some ⟨g, 0, none⟩) n cap)) O b (l ++ m) ∧ Keep O w (w2.setCell ⟨b, 0, none⟩ (.slice (some ⟨g, 0, none⟩) n cap)) := by
  obtain ⟨⟨v', hv', hown, hno⟩, hc1, hfz, hob, hlt⟩ := h
  obtain rfl : v = v' := Option.some.inj (hv.symm.trans hv')
  have hbl := lt_of_cell hc1
  have hK2 : Keep (fun x => x < w.heap.size ∧ v.ownBlock ≠ some x) w w2 := (h1.less (fun _ _ h => h.1)).grown hg (fun k hk => .inl (fun h => h.2 hk))
  have hbv : v.ownBlock ≠ some b := fun e => (hno b e).2 rfl
  have hgn : ¬ O g ∧ g ≠ b := by
    rcases hl with e | e
    · exact hno g e
    · exact ⟨fun h => by have := hlt g h; omega, by omega⟩
  have hn : n = (l ++ m).length := by have := hO.1; rw [List.length_map] at this; omega
  refine ⟨⟨⟨_, World.cell?_setCell_same _ _ _ ((hK2.cell hbl ⟨hbl, hbv⟩).trans hv), ?_, fun g' e => ?_⟩, ?_, fun o => ?_, hob, fun x hx => ?_⟩, ?_⟩
  · rw [← hn]
    obtain ⟨k1, k2 | ⟨g', c', cur, e, k3, k4, k5⟩⟩ := hO
    · exact ⟨k1, .inl k2⟩
    · have e' : g = g' := by injection e with e; exact congrArg Addr.block (Option.some.inj e)
      subst e'
      exact ⟨k1, .inr ⟨g, c', cur, e, k3, (Below.heap_setCell w2 ⟨b, 0, none⟩ _ g (fun e => hgn.2 e)).trans k4, k5⟩⟩
  · have : g = g' := Option.some.inj e
    subst this
    exact hgn
  · rw [World.cell?_setCell_other _ _ _ _ (off_ne (by omega))]
    exact (hK2.cell hbl ⟨hbl, hbv⟩).trans hc1
  · rw [World.frozen?_setCell]
    exact (hK2.fz hbl ⟨hbl, hbv⟩).trans (hfz o)
  · rw [World.size_setCell]
    exact Nat.lt_of_lt_of_le (hlt x hx) hK2.size
  · exact (hK2.less (fun x hx ho => ⟨hx, fun e => (hno x e).1 ho⟩)).setCell (.inl hob) _ _

/-- A row of one's own is a slice. -/
theorem own_form {w : World} {base e size : Nat} {v : Value} {n : Nat} {xs : List Value} (h : w.ownsRow base e size v n xs) : ∃ a c, v = .slice a n c := by
  obtain ⟨_, ⟨rfl, rfl⟩ | ⟨g, cap, cur, rfl, _⟩⟩ := h
  · exact ⟨none, 0, rfl⟩
  · exact ⟨_, cap, rfl⟩

/-- What is behind an append to a writer's row: the store can be done, and it is well then. -/
structure Putting (w w2 : World) (O : Nat → Prop) (b : Nat) (l : List Nat) (v : Value) : Prop where
  c0 : ∃ u, w2.cell? ⟨b, 0, none⟩ = some u
  fz : w2.frozen? ⟨b, 0, none⟩ = false
  fin : WrAt (w2.setCell ⟨b, 0, none⟩ v) O b l ∧ Keep O w (w2.setCell ⟨b, 0, none⟩ v)

theorem putting {w w1 w2 : World} {O : Nat → Prop} {b : Nat} {l m : List Nat} {v : Value} {g cap n : Nat} (h : WrAt w O b l) (hv : w.cell? ⟨b, 0, none⟩ = some v) (h1 : Keep (fun x => x < w.heap.size) w w1)
    (hO : w2.ownsRow 0 5 1 (.slice (some ⟨g, 0, none⟩) n cap) n ((l ++ m).map byteCell)) (hg : w1.grownBy w2 v.ownBlock) (hl : v.ownBlock = some g ∨ g = w1.heap.size) : Putting w w2 O b (l ++ m) (.slice (some ⟨g, 0, none⟩) n cap) := by
  have hbl := lt_of_cell h.c1
  obtain ⟨v', hv', hown, hno⟩ := h.row
  obtain rfl : v = v' := Option.some.inj (hv.symm.trans hv')
  have hb : w2.heap[b]? = w.heap[b]? := (hg.block b (Nat.lt_of_lt_of_le hbl h1.size) (fun e => (hno b e.symm).2 rfl)).trans (h1.block b hbl hbl)
  exact ⟨⟨v, (World.cell?_of_block (a := ⟨b, 0, none⟩) hb).trans hv⟩, (World.frozen?_of_block (a := ⟨b, 0, none⟩) hb).trans (h.fz 0), wr_put h hv h1 hO hg (by
    have := h1.size
    rcases hl with h | h
    · exact .inl h
    · exact .inr (by omega))⟩

theorem own_kept {w w1 : World} {v : Value} {n : Nat} {xs : List Value} (h : w.ownsRow 0 5 1 v n xs) (h1 : Keep (fun x => x < w.heap.size) w w1) : w1.ownsRow 0 5 1 v n xs := by
  obtain ⟨k1, k2 | ⟨g', c', cur, e, k3, k4, k5⟩⟩ := h
  · exact ⟨k1, .inl k2⟩
  · have hlt : g' < w.heap.size := (Array.getElem?_eq_some_iff.1 k4).1
    exact ⟨k1, .inr ⟨g', c', cur, e, k3, (h1.block g' hlt hlt).trans k4, k5⟩⟩

theorem wr_append_wp {o : Oper} {a : Act} {K : Act → World → Prop} {Q : Exit → Act → World → Prop} {w w1 : World} {O : Nat → Prop} {b : Nat} {l : List Nat} {v : Value} (s x : Operand)
    (ho : o.op = .call { callee := .builtin .append, args := #[s, x], argTypes := #[26, 26] }) (h : WrAt w O b l) (hv : w.cell? ⟨b, 0, none⟩ = some v) (hs : a.eval s = v)
    (sb n c : Nat) (m : List Nat) (hx : a.eval x = .slice (some ⟨sb, 0, none⟩) n c) (hm : m.length = n) (hn : 0 < n) (hB : BytesAt w1 (some ⟨sb, 0, none⟩) m) (hl : l.length + n ≤ 2000000000) (h1 : Keep (fun x => x < w.heap.size) w w1)
    (hK : ∀ g cap w2, Putting w w2 O b (l ++ m) (.slice (some ⟨g, 0, none⟩) (l.length + n) cap) → K (a.put o.dst (.slice (some ⟨g, 0, none⟩) (l.length + n) cap)) w2) : o.wp Try.prog a w1 K Q := by
  obtain ⟨v', hv', hown, hno⟩ := h.row
  obtain rfl : v = v' := Option.some.inj (hv.symm.trans hv')
  obtain ⟨i0, hi, hz0, hz1, hz2⟩ := info_parts info5
  refine wp_append_lies w1 s x 26 ho 0 5 i0 (.int .u8 0) 1 1 Try.underlying26 hi hz0 hz1 hz2 rfl (by decide) v l.length (l.map byteCell) hs (own_kept hown h1) ⟨sb, 0, none⟩ n c (m.map byteCell) hx (by simp [hm]) (src_bytes hB) (src_one _) hn (by unfold maxLen; omega) (by omega) (Nat.zero_le _) _ rfl ?_
  intro g cap w2 k1 k2 k3 _
  rw [← List.map_append] at k1
  exact hK g cap w2 (putting h hv h1 k1 k2 k3)

theorem wpList_wr_append {ops : Array Oper} {rest : List Oper} {o : Oper} {a : Act} {Q : Exit → Act → World → Prop} {w w1 : World} {O : Nat → Prop} {b : Nat} {l : List Nat} {v : Value} (hgd : o.guard = none) (s x : Operand)
    (ho : o.op = .call { callee := .builtin .append, args := #[s, x], argTypes := #[26, 26] }) (h : WrAt w O b l) (hv : w.cell? ⟨b, 0, none⟩ = some v) (hs : a.eval s = v)
    (sb n c : Nat) (m : List Nat) (hx : a.eval x = .slice (some ⟨sb, 0, none⟩) n c) (hm : m.length = n) (hn : 0 < n) (hB : BytesAt w1 (some ⟨sb, 0, none⟩) m) (hl : l.length + n ≤ 2000000000) (h1 : Keep (fun x => x < w.heap.size) w w1)
    (hK : ∀ g cap w2, Putting w w2 O b (l ++ m) (.slice (some ⟨g, 0, none⟩) (l.length + n) cap) → wpList Try.prog ops Q rest (a.put o.dst (.slice (some ⟨g, 0, none⟩) (l.length + n) cap)) w2) : wpList Try.prog ops Q (o :: rest) a w1 :=
  wpList_plain hgd fun _ k => wr_append_wp s x ho h hv hs sb n c m hx hm hn hB hl h1 fun g cap w2 h => k _ _ (hK g cap w2 h)

theorem step_wr_append {ops : Array Oper} {o : Oper} {a : Act} {K : Act → World → Prop} {Q : Exit → Act → World → Prop} {E : Prop} {w w1 : World} {O : Nat → Prop} {b : Nat} {l : List Nat} {v : Value} (hgd : o.guard = none) (s x : Operand)
    (ho : o.op = .call { callee := .builtin .append, args := #[s, x], argTypes := #[26, 26] }) (h : WrAt w O b l) (hv : w.cell? ⟨b, 0, none⟩ = some v) (hs : a.eval s = v)
    (sb n c : Nat) (m : List Nat) (hx : a.eval x = .slice (some ⟨sb, 0, none⟩) n c) (hm : m.length = n) (hn : 0 < n) (hB : BytesAt w1 (some ⟨sb, 0, none⟩) m) (hl : l.length + n ≤ 2000000000) (h1 : Keep (fun x => x < w.heap.size) w w1)
    (hK : ∀ g cap w2, Putting w w2 O b (l ++ m) (.slice (some ⟨g, 0, none⟩) (l.length + n) cap) → K (a.put o.dst (.slice (some ⟨g, 0, none⟩) (l.length + n) cap)) w2) :
    if Region.wanted o (yielded ops a.tmps) = true then Oper.wp Try.prog o a w1 K Q else E := by
  have hw : Region.wanted o (yielded ops a.tmps) = true := by simp [Region.wanted, hgd]
  rw [if_pos hw]
  exact wr_append_wp s x ho h hv hs sb n c m hx hm hn hB hl h1 hK

set_option maxRecDepth 100000 in
set_option maxHeartbeats 1000000 in
theorem wcount {w : World} {O : Nat → Prop} {b : Nat} {l : List Nat} (n : Nat) (hn : n ≤ 255) (hl : l.length ≤ 1000000000) (h : WrAt w O b l) :
    Calls Try.prog 96 #[.pointer (some ⟨b, 0, none⟩), .int .i64 (n : Nat)] w fun e w' => e = .returned (.int .i64 (n : Nat)) ∧ WrAt w' O b (l ++ [n]) ∧ Keep O w w' := by
  obtain ⟨v, hv, hown, _⟩ := h.row
  obtain ⟨va, vc, rfl⟩ := own_form hown
  have fz := h.fz 0
  have hmod : (n : Int) % 256 = (n : Int) := by omega
  have H := hide h
  have HB := hide (show BytesAt (w.alloc (.cells #[.int .u8 (n : Nat)] 5)) (some ⟨w.heap.size, 0, none⟩) [n] from bytes_new w [n] 5)
  clear hown h
  go_enter Try.func96, Try.ntmps96
  go_wp2_with (at_builtin; refine wpList_wr_append rfl _ _ rfl H.out hv rfl w.heap.size 1 1 [n] rfl rfl (by omega) HB.out (by omega) ((Keep.refl _ w).alloc _) ?_; intro g cap w2 hP; obtain ⟨u, hc2⟩ := hP.c0; have fz2 := hP.fz; have HF := hide hP.fin; clear hP)
  go_ret
  exact ⟨rfl, HF.out⟩

/-- A string behind a row that is there. -/
theorem wr_string_wp {o : Oper} {a : Act} {K : Act → World → Prop} {Q : Exit → Act → World → Prop} {w w1 : World} {O : Nat → Prop} {b : Nat} {l : List Nat} {v : Value} (sl x : Operand)
    (ho : o.op = .call { callee := .builtin .append, args := #[sl, x], argTypes := #[26, 9] }) (h : WrAt w O b l) (hv : w.cell? ⟨b, 0, none⟩ = some v) (hs : a.eval sl = v) (hne : 0 < l.length)
    (s : ByteArray) (hx : a.eval x = .string s) (hl : l.length + s.size ≤ 2000000000) (h1 : Keep (fun x => x < w.heap.size) w w1)
    (hK : ∀ g cap w2, Putting w w2 O b (l ++ natBytes s) (.slice (some ⟨g, 0, none⟩) (l.length + s.size) cap) → K (a.put o.dst (.slice (some ⟨g, 0, none⟩) (l.length + s.size) cap)) w2) : o.wp Try.prog a w1 K Q := by
  obtain ⟨v', hv', hown, hno⟩ := h.row
  obtain rfl : v = v' := Option.some.inj (hv.symm.trans hv')
  obtain ⟨i0, hi, hz0, hz1, hz2⟩ := info_parts info5
  have hown1 := own_kept hown h1
  obtain ⟨v2, w2, hr, k1, k2, _⟩ := Lib.run_append_own_string (P := Try.prog) w1 0 26 9 o.type 5 i0 Try.underlying26 Try.underlying9 hi hz0 hz1 hz2 v l.length (l.map byteCell) hown1 s (by unfold maxLen; omega) (by omega) (Nat.zero_le _)
  have hloc : ∃ g cap, v2 = .slice (some ⟨g, 0, none⟩) (l.length + s.size) cap ∧ (v.ownBlock = some g ∨ g = w1.heap.size) := by
    rcases hown1.2 with ⟨_, e⟩ | ⟨g, cap, cur, rfl, hbg, hg, hnc, hcm, hcs, htake⟩
    · omega
    · by_cases hroom : l.length + s.size ≤ cap
      · have hr' := Lib.run_append_room_string (P := Try.prog) w1 26 9 o.type 5 i0 Try.underlying26 Try.underlying9 hi hz1 g l.length cap cur hg s hroom (by omega)
        rw [hr'] at hr
        injection hr with e1 e2
        exact ⟨g, cap, e1.symm, .inl rfl⟩
      · have holds : ∀ j u, (l.map byteCell)[j]? = some u → w1.cell? ((⟨g, 0, none⟩ : Addr).add j) = some u := hown1.cells (g := g) rfl
        have hr' := Lib.run_append_grow_string (P := Try.prog) w1 26 9 o.type 5 i0 (.int .u8 0) Try.underlying26 Try.underlying9 hi hz0 ⟨g, 0, none⟩ l.length cap (l.map byteCell) (by rw [hz1]; simp) holds s (by omega) (by omega) (by rw [hz2]; exact growslice_fits (by omega) (by omega))
        rw [hr'] at hr
        injection hr with e1 e2
        exact ⟨w1.heap.size, _, e1.symm, .inr rfl⟩
  obtain ⟨g, cap, rfl, hl2⟩ := hloc
  rw [strCells_nat, ← List.map_append] at k1
  unfold Oper.wp execOp
  simp only [ho, resolve, invoke, builtin, Sem.run_bind, Sem.run_pure, Result.andThen_ok, List.map_toArray, List.map_cons, List.map_nil, hs, hx, hr]
  exact hK g cap w2 (putting h hv h1 k1 k2 hl2)

theorem step_wr_string {ops : Array Oper} {o : Oper} {a : Act} {K : Act → World → Prop} {Q : Exit → Act → World → Prop} {E : Prop} {w w1 : World} {O : Nat → Prop} {b : Nat} {l : List Nat} {v : Value} (hgd : o.guard = none) (sl x : Operand)
    (ho : o.op = .call { callee := .builtin .append, args := #[sl, x], argTypes := #[26, 9] }) (h : WrAt w O b l) (hv : w.cell? ⟨b, 0, none⟩ = some v) (hs : a.eval sl = v) (hne : 0 < l.length)
    (s : ByteArray) (hx : a.eval x = .string s) (hl : l.length + s.size ≤ 2000000000) (h1 : Keep (fun x => x < w.heap.size) w w1)
    (hK : ∀ g cap w2, Putting w w2 O b (l ++ natBytes s) (.slice (some ⟨g, 0, none⟩) (l.length + s.size) cap) → K (a.put o.dst (.slice (some ⟨g, 0, none⟩) (l.length + s.size) cap)) w2) :
    if Region.wanted o (yielded ops a.tmps) = true then Oper.wp Try.prog o a w1 K Q else E := by
  have hw : Region.wanted o (yielded ops a.tmps) = true := by simp [Region.wanted, hgd]
  rw [if_pos hw]
  exact wr_string_wp sl x ho h hv hs hne s hx hl h1 hK

theorem be8_take (x : Int) (j : Nat) (h : j < 8) : (be8 x).take (j + 1) = (be8 x).take j ++ [(x / 2 ^ (8 * (7 - j)) % 256).toNat] := by
  have hl : j < (be8 x).length := by rw [be8_length]; exact h
  rw [List.take_succ_eq_append_getElem hl]
  congr 2
  have e : (be8 x)[j]? = some (x / 2 ^ (8 * (7 - j)) % 256).toNat := by unfold be8; simp [h]
  rw [List.getElem?_eq_getElem hl] at e
  exact Option.some.inj e

set_option maxRecDepth 100000 in
set_option maxHeartbeats 1600000 in
theorem wnum {w : World} {O : Nat → Prop} {b : Nat} {l : List Nat} (rb o : Nat) (x : Int) (hl : l.length ≤ 1000000000) (h : WrAt w O b l) (hc : w.cell? ⟨rb, o, none⟩ = some (.int .i64 x)) (hr : O rb) :
    Calls Try.prog 99 #[.pointer (some ⟨b, 0, none⟩), .pointer (some ⟨rb, o, none⟩)] w fun e w' => e = .returned (.tuple #[]) ∧ WrAt w' O b (l ++ be8 x) ∧ Keep O w w' := by
  have H := hide h
  have hrl := lt_of_cell hc
  have HC := hide hc
  clear h hc
  go_enter Try.func99, Try.ntmps99
  go_wp2_with fail
  go_loopw [4] (fun i wr => ∃ j : Nat, j ≤ 8 ∧ i = .int .i64 (56 - 8 * (j : Int)) ∧ WrAt wr O b (l ++ (be8 x).take j) ∧ Keep O w wr) (fun i _ => (intOf i + 8).toNat)
  case atStart => exact ⟨0, by omega, rfl, by simpa using H.out, Keep.refl _ _⟩
  case round =>
    obtain ⟨j, hj, rfl, hW, hK⟩ := hrel
    by_cases hlt : j < 8
    · obtain ⟨L, hL⟩ : ∃ L, l ++ (be8 x).take j = L := ⟨_, rfl⟩
      have hln : L.length = l.length + j := by rw [← hL, List.length_append, List.length_take, be8_length]; omega
      have hlm : L.length ≤ 1000000010 := by omega
      have ht := be8_take x j hlt
      have hs : x / 2 ^ (56 - 8 * (j : Int)).toNat = x / 2 ^ (8 * (7 - j)) := by congr 2; omega
      generalize x / 2 ^ (8 * (7 - j)) = q at *
      obtain ⟨y, hy, hy2⟩ : ∃ y : Nat, q % 256 = (y : Int) ∧ y < 256 := ⟨(q % 256).toNat, by omega, by omega⟩
      have hwr : IntKind.u8.wrap q = (y : Int) := by rw [IntKind.wrap_u8]; exact hy
      rw [hy, Int.toNat_natCast] at ht
      have HF2 : Hid (l ++ (be8 x).take (j + 1) = L ++ [y]) := by show _ = _; rw [ht, ← hL, List.append_assoc]
      rw [hL] at hW
      obtain ⟨v, hv, hown, _⟩ := hW.row
      obtain ⟨va, vc, rfl⟩ := own_form hown
      have fz := hW.fz 0
      have hc := (hK.cell hrl hr).trans HC.out
      have hbl := lt_of_cell hv
      have hrl2 : rb < wr.heap.size := Nat.lt_of_lt_of_le hrl hK.size
      have HW := hide hW
      have HK := hide hK
      clear hW hK hown hln ht hL
      go_wp2_with fail
      go_region_law (refine step_wr_append rfl (.tmp 13) (.tmp 20) rfl HW.out hv (by simp [Act.eval]) wr.heap.size 1 1 [y] (by simp [Act.eval]) rfl (by omega) (by exact bytes_new wr [y] 5) (by omega) (by exact ((Keep.refl _ wr).alloc _).drew) ?_; intro g cap w2 hP; obtain ⟨u, hc2⟩ := hP.c0; have fz2 := hP.fz; have HF := hide hP.fin; clear hP)
      all_goals
        go_wp2_with fail
        go_roundw
        case rel => exact ⟨j + 1, by omega, by go_num, by rw [HF2.out]; exact HF.out.1, HK.out.trans HF.out.2⟩
        case measure => simp [intOf]; omega
    · obtain rfl : j = 8 := by omega
      rw [List.take_of_length_le (by rw [be8_length]; omega)] at hW
      have HW := hide hW
      have HK := hide hK
      clear hW hK
      go_wp2_with fail
      go_end0
      exact ⟨rfl, HW.out, HK.out⟩

set_option maxRecDepth 100000 in
set_option maxHeartbeats 1600000 in
theorem wtext {w : World} {O : Nat → Prop} {b : Nat} {l : List Nat} (rb o : Nat) (x : ByteArray) (hx : x.size ≤ 255) (hl : l.length ≤ 1000000000) (h : WrAt w O b l) (hc : w.cell? ⟨rb, o, none⟩ = some (.string x)) (hr : O rb) :
    Calls Try.prog 101 #[.pointer (some ⟨b, 0, none⟩), .pointer (some ⟨rb, o, none⟩)] w fun e w' => e = .returned (.tuple #[]) ∧ WrAt w' O b (l ++ [x.size] ++ natBytes x) ∧ Keep O w w' := by
  have H := hide h
  have hrl := lt_of_cell hc
  have HC := hide hc
  clear h
  go_enter Try.func101, Try.ntmps101
  go_wp2_with fail
  refine (wcount x.size hx hl H.out).mono ?_
  rintro e w1 ⟨rfl, hW, hK⟩
  have hc1 := (hK.cell hrl hr).trans HC.out
  obtain ⟨L, hL⟩ : ∃ L, l ++ [x.size] = L := ⟨_, rfl⟩
  have hln : L.length = l.length + 1 := by rw [← hL, List.length_append]; rfl
  have hlm : L.length ≤ 1000000010 := by omega
  have hl0 : 0 < L.length := by omega
  rw [hL] at hW
  have HL := hide hL
  obtain ⟨v, hv, hown, _⟩ := hW.row
  obtain ⟨va, vc, rfl⟩ := own_form hown
  have fz := hW.fz 0
  have hbl := lt_of_cell hv
  have hrl2 : rb < w1.heap.size := Nat.lt_of_lt_of_le hrl hK.size
  have HW := hide hW
  have HK := hide hK
  have hex : x.extract 0 x.size = x := by simp
  clear hW hK hown hln hL hc
  go_wp2_with fail
  go_region_law (refine step_wr_string rfl (.tmp 15) (.tmp 20) rfl HW.out hv (by simp [Act.eval, Act.put]) hl0 x (by simp [Act.eval, Act.put]) (by omega) (by exact (Keep.refl _ w1).drew) ?_; intro g cap w2 hP; obtain ⟨u, hc2⟩ := hP.c0; have fz2 := hP.fz; have HF := hide hP.fin; clear hP)
  all_goals
    go_wp2_with fail
    go_end0
    exact ⟨rfl, by rw [HL.out]; exact HF.out.1, HK.out.trans HF.out.2⟩

set_option maxRecDepth 100000 in
theorem wbytes {w : World} {O : Nat → Prop} {b : Nat} {l : List Nat} (h : WrAt w O b l) :
    Calls Try.prog 59 #[.pointer (some ⟨b, 0, none⟩)] w fun e w' => ∃ v, e = .returned v ∧ w.ownsRow 0 5 1 v l.length (l.map byteCell) ∧ (∀ g, v.ownBlock = some g → ¬ O g) ∧ w' = w := by
  obtain ⟨v, hv, hown, hno⟩ := h.row
  obtain ⟨va, vc, rfl⟩ := own_form hown
  have h1 := h.c1
  have HO := hide hown
  have HN := hide hno
  clear hown hno h
  go_enter Try.func59, Try.ntmps59
  go_wp2_with fail
  go_ret
  exact ⟨_, rfl, HO.out, fun g e => (HN.out g e).1, rfl⟩
end Go.Proofs.Ytkbboingeacgjaa
