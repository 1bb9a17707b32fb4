/-
  The reference's Int, Text, Plan, Statement, walked.
-/
import Derived.Test.YtkbboingeacgjaaQWr
namespace Go.Proofs.Ytkbboingeacgjaa
open Go.RowKit

/-- A row of the call's own was made longer. -/
structure Gr (w w' : World) (v v' : Value) (l : List Nat) : Prop where
  own : w'.ownsRow 0 5 1 v' l.length (l.map byteCell)
  grown : w.grownBy w' v.ownBlock
  loc : ∀ g, v'.ownBlock = some g → v.ownBlock = some g ∨ w.heap.size ≤ g

theorem Gr.refl {w : World} {v : Value} {l : List Nat} (h : w.ownsRow 0 5 1 v l.length (l.map byteCell)) : Gr w w v v l := ⟨h, grownBy_refl _ _, fun _ h => .inl h⟩
theorem Gr.trans {u v w : World} {x y z : Value} {l m : List Nat} (h : Gr u v x y l) (k : Gr v w y z m) : Gr u w x z m :=
  ⟨k.own, ⟨k.grown.os.trans h.grown.os, k.grown.tape.trans h.grown.tape, k.grown.output.trans h.grown.output, Nat.le_trans h.grown.size k.grown.size, fun i hi hne => (k.grown.block i (Nat.lt_of_lt_of_le hi h.grown.size) (fun e => by
    rcases h.loc i e.symm with h1 | h1
    · exact hne h1.symm
    · omega)).trans (h.grown.block i hi hne)⟩, fun g e => by
    rcases k.loc g e with h1 | h1
    · exact h.loc g h1
    · exact .inr (Nat.le_trans h.grown.size h1)⟩
theorem Gr.after {u w w' : World} {x y : Value} {l : List Nat} (hK : Keep (fun _ => True) u w) (h : Gr w w' x y l) (_hx : ∀ g, x.ownBlock = some g → g < u.heap.size) : Gr u w' x y l :=
  ⟨h.own, ⟨h.grown.os.trans hK.os, h.grown.tape.trans hK.tape, h.grown.output.trans hK.output, Nat.le_trans hK.size h.grown.size, fun i hi hne => (h.grown.block i (Nat.lt_of_lt_of_le hi hK.size) hne).trans (hK.block i hi trivial)⟩, fun g e => by
    rcases h.loc g e with h1 | h1
    · exact .inl h1
    · exact .inr (Nat.le_trans hK.size h1)⟩

/-- One append of bytes to a row. -/
theorem gr_append_wp {o : Oper} {a : Act} {K : Act → World → Prop} {Q : Exit → Act → World → Prop} {w w1 : World} {l : List Nat} {v : Value} (s x : Operand)
    (ho : o.op = .call { callee := .builtin .append, args := #[s, x], argTypes := #[26, 26] }) (hown : w.ownsRow 0 5 1 v l.length (l.map byteCell)) (hs : a.eval s = v)
    (sb n c : Nat) (m : List Nat) (hx : a.eval x = .slice (some ⟨sb, 0, none⟩) n c) (hm : m.length = n) (hn : 0 < n) (hB : BytesAt w1 (some ⟨sb, 0, none⟩) m) (hl : l.length + n ≤ 2000000000) (h1 : Keep (fun _ => True) w w1)
    (hK : ∀ g cap w2, Gr w w2 v (.slice (some ⟨g, 0, none⟩) (l.length + n) cap) (l ++ m) → K (a.put o.dst (.slice (some ⟨g, 0, none⟩) (l.length + n) cap)) w2) : o.wp Try.prog a w1 K Q := by
  obtain ⟨i0, hi, hz0, hz1, hz2⟩ := info_parts info5
  refine wp_append_lies w1 s x 26 ho 0 5 i0 (.int .u8 0) 1 1 Try.underlying26 hi hz0 hz1 hz2 rfl (by decide) v l.length (l.map byteCell) hs (own_kept hown (h1.less (fun _ _ _ => trivial))) ⟨sb, 0, none⟩ n c (m.map byteCell) hx (by simp [hm]) (src_bytes hB) (src_one _) hn (by unfold maxLen; omega) (by omega) (Nat.zero_le _) _ rfl ?_
  intro g cap w2 k1 k2 k3 _
  rw [← List.map_append] at k1
  refine hK g cap w2 (Gr.after h1 ⟨?_, k2, fun g' e => ?_⟩ (fun g e => (hown.lt g e).2))
  · have : (l ++ m).length = l.length + n := by rw [List.length_append, hm]
    rw [this]
    exact k1
  · have : g = g' := Option.some.inj e
    subst this
    rcases k3 with h | h
    · exact .inl h
    · exact .inr (by omega)

theorem wpList_gr_append {ops : Array Oper} {rest : List Oper} {o : Oper} {a : Act} {Q : Exit → Act → World → Prop} {w w1 : World} {l : List Nat} {v : Value} (hgd : o.guard = none) (s x : Operand)
    (ho : o.op = .call { callee := .builtin .append, args := #[s, x], argTypes := #[26, 26] }) (hown : w.ownsRow 0 5 1 v l.length (l.map byteCell)) (hs : a.eval s = v)
    (sb n c : Nat) (m : List Nat) (hx : a.eval x = .slice (some ⟨sb, 0, none⟩) n c) (hm : m.length = n) (hn : 0 < n) (hB : BytesAt w1 (some ⟨sb, 0, none⟩) m) (hl : l.length + n ≤ 2000000000) (h1 : Keep (fun _ => True) w w1)
    (hK : ∀ g cap w2, Gr w w2 v (.slice (some ⟨g, 0, none⟩) (l.length + n) cap) (l ++ m) → wpList Try.prog ops Q rest (a.put o.dst (.slice (some ⟨g, 0, none⟩) (l.length + n) cap)) w2) : wpList Try.prog ops Q (o :: rest) a w1 :=
  wpList_plain hgd fun _ k => gr_append_wp s x ho hown hs sb n c m hx hm hn hB hl h1 fun g cap w2 h => k _ _ (hK g cap w2 h)

theorem gr_string_wp {o : Oper} {a : Act} {K : Act → World → Prop} {Q : Exit → Act → World → Prop} {w : World} {l : List Nat} {v : Value} (sl x : Operand)
    (ho : o.op = .call { callee := .builtin .append, args := #[sl, x], argTypes := #[26, 9] }) (hown : w.ownsRow 0 5 1 v l.length (l.map byteCell)) (hs : a.eval sl = v) (hne : 0 < l.length)
    (s : ByteArray) (hx : a.eval x = .string s) (hl : l.length + s.size ≤ 2000000000)
    (hK : ∀ g cap w2, Gr w w2 v (.slice (some ⟨g, 0, none⟩) (l.length + s.size) cap) (l ++ natBytes s) → K (a.put o.dst (.slice (some ⟨g, 0, none⟩) (l.length + s.size) cap)) w2) : o.wp Try.prog a w K Q := by
  obtain ⟨i0, hi, hz0, hz1, hz2⟩ := info_parts info5
  obtain ⟨v2, w2, hr, k1, k2, _⟩ := Lib.run_append_own_string (P := Try.prog) w 0 26 9 o.type 5 i0 Try.underlying26 Try.underlying9 hi hz0 hz1 hz2 v l.length (l.map byteCell) hown s (by unfold maxLen; omega) (by omega) (Nat.zero_le _)
  have hloc : ∃ g cap, v2 = .slice (some ⟨g, 0, none⟩) (l.length + s.size) cap ∧ (v.ownBlock = some g ∨ g = w.heap.size) := by
    rcases hown.2 with ⟨_, e⟩ | ⟨g, cap, cur, rfl, hbg, hg, hnc, hcm, hcs, htake⟩
    · omega
    · by_cases hroom : l.length + s.size ≤ cap
      · have hr' := Lib.run_append_room_string (P := Try.prog) w 26 9 o.type 5 i0 Try.underlying26 Try.underlying9 hi hz1 g l.length cap cur hg s hroom (by omega)
        rw [hr'] at hr
        injection hr with e1 e2
        exact ⟨g, cap, e1.symm, .inl rfl⟩
      · have holds : ∀ j u, (l.map byteCell)[j]? = some u → w.cell? ((⟨g, 0, none⟩ : Addr).add j) = some u := hown.cells (g := g) rfl
        have hr' := Lib.run_append_grow_string (P := Try.prog) w 26 9 o.type 5 i0 (.int .u8 0) Try.underlying26 Try.underlying9 hi hz0 ⟨g, 0, none⟩ l.length cap (l.map byteCell) (by rw [hz1]; simp) holds s (by omega) (by omega) (by rw [hz2]; exact growslice_fits (by omega) (by omega))
        rw [hr'] at hr
        injection hr with e1 e2
        exact ⟨w.heap.size, _, e1.symm, .inr rfl⟩
  obtain ⟨g, cap, rfl, hl2⟩ := hloc
  rw [strCells_nat, ← List.map_append] at k1
  unfold Oper.wp execOp
  simp only [ho, resolve, invoke, builtin, Sem.run_bind, Sem.run_pure, Result.andThen_ok, List.map_toArray, List.map_cons, List.map_nil, hs, hx, hr]
  refine hK g cap w2 ⟨?_, k2, fun g' e => ?_⟩
  · have : (l ++ natBytes s).length = l.length + s.size := by rw [List.length_append, natBytes_length]
    rw [this]
    exact k1
  · have : g = g' := Option.some.inj e
    subst this
    rcases hl2 with h | h
    · exact .inl h
    · exact .inr (by omega)

theorem wpList_gr_string {ops : Array Oper} {rest : List Oper} {o : Oper} {a : Act} {Q : Exit → Act → World → Prop} {w : World} {l : List Nat} {v : Value} (hgd : o.guard = none) (sl x : Operand)
    (ho : o.op = .call { callee := .builtin .append, args := #[sl, x], argTypes := #[26, 9] }) (hown : w.ownsRow 0 5 1 v l.length (l.map byteCell)) (hs : a.eval sl = v) (hne : 0 < l.length)
    (s : ByteArray) (hx : a.eval x = .string s) (hl : l.length + s.size ≤ 2000000000)
    (hK : ∀ g cap w2, Gr w w2 v (.slice (some ⟨g, 0, none⟩) (l.length + s.size) cap) (l ++ natBytes s) → wpList Try.prog ops Q rest (a.put o.dst (.slice (some ⟨g, 0, none⟩) (l.length + s.size) cap)) w2) : wpList Try.prog ops Q (o :: rest) a w :=
  wpList_plain hgd fun _ k => gr_string_wp sl x ho hown hs hne s hx hl fun g cap w2 h => k _ _ (hK g cap w2 h)

theorem shr_byte (x : Int) (i : Nat) (hi : i ≤ 7) : x % 18446744073709551616 / 2 ^ (8 * i) % 256 = x / 2 ^ (8 * i) % 256 := by
  rcases i with _ | _ | _ | _ | _ | _ | _ | _ | i
  · rw [show (2 : Int) ^ (8 * 0) = 1 by decide]; omega
  · rw [show (2 : Int) ^ (8 * (0 + 1)) = 256 by decide]; omega
  · rw [show (2 : Int) ^ (8 * (0 + 1 + 1)) = 65536 by decide]; omega
  · rw [show (2 : Int) ^ (8 * (0 + 1 + 1 + 1)) = 16777216 by decide]; omega
  · rw [show (2 : Int) ^ (8 * (0 + 1 + 1 + 1 + 1)) = 4294967296 by decide]; omega
  · rw [show (2 : Int) ^ (8 * (0 + 1 + 1 + 1 + 1 + 1)) = 1099511627776 by decide]; omega
  · rw [show (2 : Int) ^ (8 * (0 + 1 + 1 + 1 + 1 + 1 + 1)) = 281474976710656 by decide]; omega
  · rw [show (2 : Int) ^ (8 * (0 + 1 + 1 + 1 + 1 + 1 + 1 + 1)) = 72057594037927936 by decide]; omega
  · omega

set_option maxRecDepth 100000 in
set_option maxHeartbeats 1000000 in
theorem rint {w : World} (v : Value) (l : List Nat) (x : Int) (hl : l.length ≤ 1000000000) (h : w.ownsRow 0 5 1 v l.length (l.map byteCell)) :
    Calls Try.prog 28 #[v, .int .i64 x] w fun e w' => ∃ v', e = .returned v' ∧ Gr w w' v v' (l ++ be8 x) := by
  have H := hide h
  clear h
  go_enter Try.func28, Try.ntmps28
  go_wp2_with fail
  go_loopw [0, 5] (fun u i wr => ∃ j : Nat, j ≤ 8 ∧ i = .int .i64 (7 - (j : Int)) ∧ Gr w wr v u (l ++ (be8 x).take j)) (fun _ i _ => (intOf i + 1).toNat)
  case atStart => exact ⟨0, by omega, rfl, by simpa using Gr.refl H.out⟩
  case round =>
    obtain ⟨j, hj, rfl, hG⟩ := hrel
    by_cases hlt : j < 8
    · obtain ⟨L, hL⟩ : ∃ L, l ++ (be8 x).take j = L := ⟨_, rfl⟩
      have hln : L.length = l.length + j := by rw [← hL, List.length_append, List.length_take, be8_length]; omega
      have hlm : L.length ≤ 1000000010 := by omega
      have ht := be8_take x j hlt
      have hsb := shr_byte x (7 - j) (by omega)
      generalize x / 2 ^ (8 * (7 - j)) = q at *
      obtain ⟨y, hy, hy2⟩ : ∃ y : Nat, q % 256 = (y : Int) ∧ y < 256 := ⟨(q % 256).toNat, by omega, by omega⟩
      rw [hy, Int.toNat_natCast] at ht
      rw [hy] at hsb
      have hsw : IntKind.u64.wrap x / 2 ^ (8 * (7 - j)) % 256 = (y : Int) := by rw [IntKind.wrap_u64]; exact hsb
      clear hsb
      have HF2 : Hid (l ++ (be8 x).take (j + 1) = L ++ [y]) := by show _ = _; rw [ht, ← hL, List.append_assoc]
      rw [hL] at hG
      obtain ⟨va, vc, rfl⟩ := own_form hG.own
      have HG := hide hG
      clear hG hln ht hL
      go_wp2_with (at_builtin; refine wpList_gr_append rfl _ _ rfl HG.out.own rfl wr.heap.size 1 1 [y] rfl rfl (by omega) (bytes_new wr [y] 5) (by omega) ((Keep.refl _ wr).alloc _) ?_; intro g cap w2 hP; have HP := hide hP; clear hP)
      go_roundw
      case rel => exact ⟨j + 1, by omega, by go_num, by rw [HF2.out]; exact HG.out.trans HP.out⟩
      case measure => simp [intOf]; omega
    · obtain rfl : j = 8 := by omega
      rw [List.take_of_length_le (by rw [be8_length]; omega)] at hG
      have HG := hide hG
      clear hG
      go_wp2_with fail
      go_ret
      exact ⟨_, rfl, HG.out⟩

set_option maxRecDepth 100000 in
set_option maxHeartbeats 1000000 in
theorem rtext {w : World} (v : Value) (l : List Nat) (s : ByteArray) (hs : s.size ≤ 255) (hl : l.length ≤ 1000000000) (h : w.ownsRow 0 5 1 v l.length (l.map byteCell)) :
    Calls Try.prog 27 #[v, .string s] w fun e w' => ∃ v', e = .returned v' ∧ Gr w w' v v' (l ++ [s.size] ++ natBytes s) := by
  obtain ⟨va, vc, rfl⟩ := own_form h
  have H := hide h
  have hmod : (s.size : Int) % 256 = (s.size : Int) := by omega
  obtain ⟨L, hL⟩ : ∃ L, l ++ [s.size] = L := ⟨_, rfl⟩
  have hln : L.length = l.length + 1 := by rw [← hL, List.length_append]; rfl
  have hlm : L.length ≤ 1000000010 := by omega
  have hl0 : 0 < L.length := by omega
  rw [hL]
  have HL := hide hL
  clear h hln hL
  go_enter Try.func27, Try.ntmps27
  go_wp2_with (first
    | (at_builtin; refine wpList_gr_append rfl _ _ rfl H.out rfl w.heap.size 1 1 [s.size] rfl rfl (by omega) (bytes_new w [s.size] 5) (by omega) ((Keep.refl _ w).alloc _) ?_; intro g cap w2 hP; rw [HL.out] at hP; have HP := hide hP; clear hP)
    | (at_builtin; refine wpList_gr_string rfl _ _ rfl HP.out.own rfl hl0 s rfl (by omega) ?_; intro g2 cap2 w3 hP; have HP2 := hide hP; clear hP))
  go_ret
  exact ⟨_, rfl, HP.out.trans HP2.out⟩
end Go.Proofs.Ytkbboingeacgjaa
