/-
  A leaf as bytes: appendText, entries, encode; appendNumber, the root's bytes.
-/
import Derived.Test.YthgpjkcgccdldaaGreatDoorV31
import Derived.Lib.AppendStr

namespace Go.Proofs.YthgpjkcgccdldaaGreatDoor
open Go.RowKit Go.Maps

def natBytes (s : ByteArray) : List Nat := s.data.toList.map UInt8.toNat
theorem natBytes_length (s : ByteArray) : (natBytes s).length = s.size := by
  unfold natBytes
  rw [List.length_map, Array.length_toList]
  rfl
theorem natBytes_lt (s : ByteArray) : ∀ x ∈ natBytes s, x < 256 := by
  intro x hx
  obtain ⟨b, _, rfl⟩ := List.mem_map.1 hx
  exact UInt8.toNat_lt b
theorem strCells_nat (s : ByteArray) : Lib.strCells s = (natBytes s).map byteCell := by
  unfold Lib.strCells natBytes
  rw [List.map_map]
  rfl

/-- Bytes in a row of the call's own. -/
def OwnB (w : World) (base : Nat) (v : Value) (l : List Nat) : Prop := w.ownsRow base 5 1 v l.length (l.map byteCell)
/-- What was there ahead of 'base' stays. -/
def Grew (base : Nat) (w w' : World) : Prop := ∀ w0 : World, w0.heap.size ≤ base → Turn [] w0 w → Turn [] w0 w'
theorem Grew.refl (base : Nat) (w : World) : Grew base w w := fun _ _ h => h
theorem Grew.trans {base : Nat} {u v w : World} (h : Grew base u v) (k : Grew base v w) : Grew base u w := fun w0 h0 hT => k w0 h0 (h w0 h0 hT)
theorem Grew.of {base : Nat} {w w' : World} {v : Value} {n : Nat} {xs : List Value} (hO : w.ownsRow base 5 1 v n xs) (hg : w.grownBy w' v.ownBlock) : Grew base w w' := fun w0 h0 hT => hT.grown hg (fun k hk => by
  right
  have := (hO.lt k hk).1
  omega)
theorem Grew.alloc (base : Nat) (w : World) (o : Obj) : Grew base w (w.alloc o) := fun _ _ h => h.alloc o
theorem Grew.size {base : Nat} {w w' : World} (h : Grew base w w') (hb : w.heap.size ≤ base) : w.heap.size ≤ w'.heap.size := (h w hb (Turn.refl [] w)).size

theorem OwnB.alloc {w : World} {base : Nat} {v : Value} {l : List Nat} (h : OwnB w base v l) (o : Obj) : OwnB (w.alloc o) base v l := by
  obtain ⟨h1, h2 | ⟨g, cap, cur, e, hb, hg, rest⟩⟩ := h
  · exact ⟨h1, .inl h2⟩
  · exact ⟨h1, .inr ⟨g, cap, cur, e, hb, (((Turn.refl [] w).alloc o).block g (by
      rcases Nat.lt_or_ge g w.heap.size with h | h
      · exact h
      · rw [Array.getElem?_eq_none h] at hg; cases hg) (by simp)).trans hg, rest⟩⟩

theorem OwnB.turn {w w' : World} {base : Nat} {v : Value} {l : List Nat} (h : OwnB w base v l) (hT : Turn [] w w') : OwnB w' base v l := by
  obtain ⟨h1, h2 | ⟨g, cap, cur, e, hb, hg, rest⟩⟩ := h
  · exact ⟨h1, .inl h2⟩
  · exact ⟨h1, .inr ⟨g, cap, cur, e, hb, (hT.block g (by
      rcases Nat.lt_or_ge g w.heap.size with h | h
      · exact h
      · rw [Array.getElem?_eq_none h] at hg; cases hg) (by simp)).trans hg, rest⟩⟩

theorem OwnB.cast {w : World} {base n : Nat} {v : Value} {l : List Nat} (h : w.ownsRow base 5 1 v n (l.map byteCell)) : OwnB w base v l := by
  have : n = l.length := by have := h.1; rw [List.length_map] at this; omega
  rw [this] at h
  exact h

theorem append_bytes2 {ops : Array Oper} {rest : List Oper} {o : Oper} {a : Act} {Q : Exit → Act → World → Prop} {w : World} (hgd : o.guard = none) (s x : Operand)
    (ho : o.op = .call { callee := .builtin .append, args := #[s, x], argTypes := #[68, 68] }) (base : Nat) (v : Value) (l : List Nat) (hs : a.eval s = v) (hown : OwnB w base v l)
    (b off m c : Nat) (l' : List Nat) (hx : a.eval x = .slice (some ⟨b, off, none⟩) m c) (hm : l'.length = m) (hb : BytesAt w (some ⟨b, off, none⟩) l') (hbound : l.length + m ≤ 1000000) (hbase : base ≤ w.heap.size)
    (h : ∀ v' w', OwnB w' base v' (l ++ l') → w.grownBy w' v.ownBlock → (v'.ownBlock = v.ownBlock ∨ v'.ownBlock = some w.heap.size) → wpList Tryz.prog ops Q rest (a.put o.dst v') w') :
    wpList Tryz.prog ops Q (o :: rest) a w := by
  obtain ⟨i0, hi, hz0, hz1, hz2⟩ := info_parts info5
  refine wpList_append_own_at w hgd s x 68 ho base 5 i0 (.int .u8 0) 1 1 Tryz.underlying68 hi hz0 hz1 hz2 rfl (by decide) v l.length (l.map byteCell) hs hown ⟨b, off, none⟩ m c (l'.map byteCell) hx (by simp [hm]) (src_bytes hb) (src_one l') (by unfold maxLen; omega) (by omega) hbase ?_
  intro v' w' h1 h2 _ h4
  rw [← List.map_append] at h1
  exact h v' w' (OwnB.cast h1) h2 h4

/-- All but the row's own block stays. -/
def Kept (v : Value) (w w' : World) : Prop := ∀ x, x < w.heap.size → v.ownBlock ≠ some x → w'.heap[x]? = w.heap[x]?

set_option maxRecDepth 100000 in
set_option maxHeartbeats 3200000 in
theorem appendText_any (base : Nat) (v : Value) (l : List Nat) (s : ByteArray) (hs : s.size ≤ 255) (hl : l.length ≤ 100000) (w : World) (hbase : base ≤ w.heap.size) (hO : OwnB w base v l) :
    Calls Tryz.prog 235 #[v, .string s] w fun e w' => ∃ v', e = .returned v' ∧ OwnB w' base v' (l ++ [s.size] ++ natBytes s) ∧ Grew base w w' ∧ w.heap.size ≤ w'.heap.size ∧ Kept v w w' := by
  have HO := hide (hO.alloc (.cells #[.int .u8 (s.size : Nat)] 5))
  have HB := hide (show BytesAt (w.alloc (.cells #[.int .u8 (s.size : Nat)] 5)) (some ⟨w.heap.size, 0, none⟩) [s.size] from bytes_new w [s.size] 5)
  have hmod : (s.size : Int) % 256 = (s.size : Int) := by omega
  obtain ⟨i0, hi, hz0, hz1, hz2⟩ := info_parts info5
  have HS := hide (strCells_nat s)
  have HNl := hide (natBytes_length s)
  have hsz : (w.alloc (.cells #[.int .u8 (s.size : Nat)] 5)).heap.size = w.heap.size + 1 := by simp
  clear hO
  go_enter Tryz.func235, Tryz.ntmps235
  go_wp2_with (first
    | (at_builtin; refine append_bytes2 rfl _ _ rfl base v l rfl HO.out w.heap.size 0 1 1 [s.size] rfl rfl HB.out (by omega) (by omega) ?_; intro v1 w1 h1 h2 h3; have H1 := hide h1; have H2 := hide h2; have H3 := hide h3; have hs1 := h2.size; clear h1 h2 h3)
    | (at_builtin; refine Lib.wpList_append_own_string _ rfl _ _ 68 9 rfl base 5 i0 Tryz.underlying68 Tryz.underlying9 hi hz0 hz1 hz2 v1 (l ++ [s.size]).length _ rfl H1.out s rfl (by unfold maxLen; simp; omega) (by simp; omega) (by omega) ?_; intro v2 w2 h1 h2 _; have H4 := hide h1; have H5 := hide h2; have hs2 := h2.size; clear h1 h2))
  go_ret
  refine ⟨_, rfl, ?_, ((Grew.alloc base w _).trans (Grew.of HO.out H2.out)).trans (Grew.of H1.out H5.out), by omega, fun x hx hn => ?_⟩
  · have h := H4.out
    rw [HS.out, ← List.map_append] at h
    exact OwnB.cast h
  · have e1 : v1.ownBlock ≠ some x := by
      rcases H3.out with e | e
      · rw [e]; exact hn
      · rw [e]
        intro e2
        have := Option.some.inj e2
        omega
    rw [H5.out.block x (by omega) (fun e => e1 e.symm), H2.out.block x (by omega) (fun e => hn e.symm)]
    exact ((Turn.refl [] w).alloc _ : Turn [] w (w.alloc (.cells #[.int .u8 (s.size : Nat)] 5))).block x hx (by simp)

/-- An entry's bytes; a leaf's. -/
def kvBytes (x : ByteArray × ByteArray) : List Nat := [x.1.size] ++ natBytes x.1 ++ [x.2.size] ++ natBytes x.2
def lbytes (l : List (ByteArray × ByteArray)) : List Nat := l.flatMap kvBytes
theorem kvBytes_length (x : ByteArray × ByteArray) : (kvBytes x).length = kvSize x := by
  unfold kvBytes kvSize
  simp [natBytes_length]
  omega
theorem lbytes_length (l : List (ByteArray × ByteArray)) : (lbytes l).length = lsize l := by
  unfold lbytes lsize lsizes
  induction l with
  | nil => rfl
  | cons x l ih =>
    rw [List.flatMap_cons, List.length_append, ih, List.map_cons, kvBytes_length]
    show _ = (kvSize x :: l.map kvSize).foldl (· + ·) 0
    rw [List.foldl_cons, foldl_add]
    omega
theorem lbytes_take (l : List (ByteArray × ByteArray)) (i : Nat) (h : i < l.length) : lbytes (l.take (i + 1)) = lbytes (l.take i) ++ kvBytes l[i] := by
  unfold lbytes
  rw [List.take_succ_eq_append_getElem h, List.flatMap_append]
  simp
theorem lsize_take (l : List (ByteArray × ByteArray)) (i : Nat) : (lbytes (l.take i)).length ≤ lsize l := by
  have h : lsize l = (lbytes (l.take i)).length + (lbytes (l.drop i)).length := by
    rw [← lbytes_length, ← List.length_append]
    unfold lbytes
    rw [← List.flatMap_append, List.take_append_drop]
  omega
theorem lbytes_lt {l : List (ByteArray × ByteArray)} (h : Short l) : ∀ x ∈ lbytes l, x < 256 := by
  intro x hx
  obtain ⟨y, hy, hm⟩ := List.mem_flatMap.1 hx
  have := h y hy
  unfold kvBytes at hm
  simp at hm
  rcases hm with rfl | hm | rfl | hm
  · omega
  · exact natBytes_lt _ _ hm
  · omega
  · exact natBytes_lt _ _ hm

set_option maxRecDepth 100000 in
set_option maxHeartbeats 3200000 in
theorem entries_any (a : Option Addr) (cap : Nat) (l : List (ByteArray × ByteArray)) (hlen : l.length ≤ 1000) (hsh : Short l) (hsz : lsize l ≤ 10000) (base : Nat) (v : Value) (pre : List Nat) (hpre : pre.length ≤ 1000) (w : World) (hbase : base ≤ w.heap.size) (w0 : World) (hw0 : w0.heap.size = base) (hT0 : Turn [] w0 w) (hK : KVsAt w0 a l) (hO : OwnB w base v pre) :
    Calls Tryz.prog 232 #[.slice a l.length cap, v] w fun e w' => ∃ v', e = .returned v' ∧ OwnB w' base v' (pre ++ lbytes l) ∧ Grew base w w' := by
  have HK := hide hK
  have HO := hide hO
  have HT0 := hide hT0
  have HSh := hide hsh
  clear hK hO hT0 hsh
  go_enter Tryz.func232, Tryz.ntmps232
  go_wp2_with fail
  go_loopw [1, 6, 9] (fun b _ i wr => ∃ j : Nat, j ≤ l.length ∧ i = .int .i64 j ∧ OwnB wr base b (pre ++ lbytes (l.take j)) ∧ Grew base w wr ∧ w.heap.size ≤ wr.heap.size) (fun _ _ i _ => l.length - (intOf i).toNat)
  case atStart => exact ⟨0, Nat.zero_le _, rfl, by simpa [lbytes] using HO.out, Grew.refl _ _, Nat.le_refl _⟩
  case round =>
    obtain ⟨j, hj, rfl, hO2, hG2, hs2⟩ := hrel
    have HO2 := hide hO2
    have HG2 := hide hG2
    clear hO2 hG2
    by_cases hjl : j < l.length
    · have hT2 := HG2.out w0 (by omega) HT0.out
      obtain ⟨b, off, rfl, hc, hd⟩ := (HK.out.turn0 hT2).at hjl
      obtain ⟨hb1, hb2⟩ := HSh.out l[j] (List.getElem_mem hjl)
      have hbl := lt_of_cell hc
      have hpl := lsize_take l j
      have hpl1 := lsize_take l (j + 1)
      have HLt := hide (lbytes_take l j hjl)
      rw [HLt.out, List.length_append, kvBytes_length] at hpl1
      unfold kvSize at hpl1
      have hpr : (pre ++ lbytes (l.take j)).length ≤ 20000 := by rw [List.length_append]; omega
      have HO3 := hide (HO2.out.alloc (.cells #[.string l[j].1, .string l[j].2] 55))
      clear hT2
      go_wp2_with fail
      refine (appendText_any base u1 (pre ++ lbytes (l.take j)) l[j].1 (by omega) (by omega) _ (by simp; omega) HO3.out).mono ?_
      rintro e w3 ⟨v3, rfl, hO3, hG3, hs3, hK3⟩
      have HO4 := hide hO3
      have HG3 := hide hG3
      have hown := HO2.out.lt
      have hkb : w3.cell? ⟨wr.heap.size, 1, none⟩ = some (.string l[j].2) := by
        refine (World.cell?_of_block (a := ⟨wr.heap.size, 1, none⟩) (hK3 wr.heap.size (by simp) (fun e => ?_))).trans (World.cell?_alloc_at _ _ _ _ rfl)
        have := (hown _ e).2
        omega
      have hpr2 : (pre ++ lbytes (l.take j) ++ [l[j].1.size] ++ natBytes l[j].1).length ≤ 50000 := by
        rw [List.length_append, List.length_append, natBytes_length]
        show _ + 1 + _ ≤ _
        omega
      have HFin : Hid (pre ++ lbytes (l.take (j + 1)) = pre ++ lbytes (l.take j) ++ [l[j].1.size] ++ natBytes l[j].1 ++ [l[j].2.size] ++ natBytes l[j].2) := by
        show _ = _
        rw [HLt.out]
        unfold kvBytes
        simp only [List.append_assoc]
      clear hO3 hG3 hK3 hc hd
      simp at hs3
      go_wp2_with fail
      refine (appendText_any base v3 _ l[j].2 (by omega) (by omega) w3 (by omega) HO4.out).mono ?_
      rintro e w4 ⟨v4, rfl, hO4, hG4, hs4, _⟩
      rw [← HFin.out] at hO4
      have HO5 := hide hO4
      have HG5 := hide (((HG2.out.trans (Grew.alloc base wr _)).trans HG3.out).trans hG4)
      clear hO4 hG4
      go_wp2_with fail
      go_roundw
      case rel => exact ⟨j + 1, by omega, by go_num, HO5.out, HG5.out, by omega⟩
      case measure => simp [intOf]; omega
    · obtain rfl : j = l.length := by omega
      go_wp2_with fail
      go_ret
      have h := HO2.out
      rw [List.take_length] at h
      exact ⟨_, rfl, h, HG2.out⟩
end Go.Proofs.YthgpjkcgccdldaaGreatDoor

/-
  encode of a leaf; appendNumber; the root's bytes.
-/
namespace Go.Proofs.YthgpjkcgccdldaaGreatDoor
open Go.RowKit Go.Maps

theorem Turn.cb {X : List Nat} {w w' : World} (hT : Turn X w w') {b o : Nat} (hb : b < w.heap.size) (hn : b ∉ X) : w'.cell? ⟨b, o, none⟩ = w.cell? ⟨b, o, none⟩ := hT.cell (p := ⟨b, o, none⟩) hb hn

theorem OwnB.new (w : World) (l : List Nat) (n : Nat) (hn : l.length = n) (hm : n ≤ 1000) : OwnB (w.alloc (.cells (l.map byteCell).toArray 5)) w.heap.size (.slice (some ⟨w.heap.size, 0, none⟩) n n) l := by
  subst hn
  refine ⟨by simp, .inr ⟨w.heap.size, l.length, (l.map byteCell).toArray, rfl, Nat.le_refl _, heap_alloc_new w _, Nat.le_refl _, by unfold maxLen; omega, by simp, ?_⟩⟩
  rw [List.toList_toArray, List.take_of_length_le (by simp)]

theorem OwnB.nil (w : World) (base : Nat) : OwnB w base (.slice none 0 0) [] := World.ownsRow_nil _ _ _ _

set_option maxRecDepth 100000 in
set_option maxHeartbeats 1600000 in
theorem encode_leaf (bb off cap : Nat) (l : List (ByteArray × ByteArray)) (lvl : Nat) (hl : lvl ≤ 255) (hlen : l.length ≤ 1000) (hsh : Short l) (hsz : lsize l ≤ 10000) (w : World) (hK : KVsAt w (some ⟨bb, off, none⟩) l) :
    Calls Tryz.prog 136 #[.iface 137 (.slice (some ⟨bb, off, none⟩) l.length cap), .int .i64 (lvl : Nat)] w fun e w' => ∃ v, e = .returned v ∧ OwnB w' w.heap.size v ([lvl] ++ lbytes l) ∧ Turn [] w w' := by
  have hmod : (lvl : Int) % 256 = (lvl : Int) := by omega
  have hO : OwnB (w.alloc (.cells #[.int .u8 (lvl : Nat)] 5)) w.heap.size (.slice (some ⟨w.heap.size, 0, none⟩) 1 1) [lvl] := OwnB.new w [lvl] 1 rfl (by omega)
  have hT0 : Turn [] w (w.alloc (.cells #[.int .u8 (lvl : Nat)] 5)) := (Turn.refl [] w).alloc _
  have HC := hide (entries_any (some ⟨bb, off, none⟩) cap l hlen hsh hsz w.heap.size _ [lvl] (by simp) _ (by simp) w rfl hT0 hK hO)
  have HT0 := hide hT0
  clear hO hT0 hK hsh
  go_enter Tryz.func136, Tryz.ntmps136
  go_wp2_with fail
  refine HC.out.mono ?_
  rintro e w1 ⟨v, rfl, hO1, hG1⟩
  have HO1 := hide hO1
  have HG1 := hide hG1
  clear hO1 hG1
  go_wp2_with fail
  go_ret
  exact ⟨v, rfl, HO1.out, HG1.out w (Nat.le_refl _) HT0.out⟩

/-- A number in four bytes, the highest first. -/
def be4 (n : Nat) : List Nat := [n / 16777216, n / 65536 % 256, n / 256 % 256, n % 256]
theorem be4_lt (n : Nat) (hn : n ≤ 4294967295) : ∀ x ∈ be4 n, x < 256 := by
  intro x hx
  simp [be4] at hx
  omega

set_option maxRecDepth 100000 in
set_option maxHeartbeats 1600000 in
theorem appendNumber_any (base : Nat) (v : Value) (l : List Nat) (n : Nat) (hn : n ≤ 4294967295) (hl : l.length ≤ 1000) (w : World) (hbase : base ≤ w.heap.size) (hO : OwnB w base v l) :
    Calls Tryz.prog 139 #[v, .int .i64 (n : Nat)] w fun e w' => ∃ v', e = .returned v' ∧ OwnB w' base v' (l ++ be4 n) ∧ Grew base w w' ∧ w.heap.size ≤ w'.heap.size ∧ Kept v w w' := by
  have h1 : (n : Int) / 16777216 = ((n / 16777216 : Nat) : Int) := by omega
  have h2 : (n : Int) / 65536 % 256 = ((n / 65536 % 256 : Nat) : Int) := by omega
  have h3 : (n : Int) / 256 % 256 = ((n / 256 % 256 : Nat) : Int) := by omega
  have h4 : (n : Int) % 256 = ((n % 256 : Nat) : Int) := by omega
  have HO := hide (hO.alloc (.cells #[.int .u8 (n / 16777216 : Nat), .int .u8 (n / 65536 % 256 : Nat), .int .u8 (n / 256 % 256 : Nat), .int .u8 (n % 256 : Nat)] 5))
  have HB := hide (show BytesAt (w.alloc (.cells #[.int .u8 (n / 16777216 : Nat), .int .u8 (n / 65536 % 256 : Nat), .int .u8 (n / 256 % 256 : Nat), .int .u8 (n % 256 : Nat)] 5)) (some ⟨w.heap.size, 0, none⟩) (be4 n) from bytes_new w (be4 n) 5)
  have hsz : (w.alloc (.cells #[.int .u8 (n / 16777216 : Nat), .int .u8 (n / 65536 % 256 : Nat), .int .u8 (n / 256 % 256 : Nat), .int .u8 (n % 256 : Nat)] 5)).heap.size = w.heap.size + 1 := by simp
  have HTw := hide (show Turn [] w (w.alloc (.cells #[.int .u8 (n / 16777216 : Nat), .int .u8 (n / 65536 % 256 : Nat), .int .u8 (n / 256 % 256 : Nat), .int .u8 (n % 256 : Nat)] 5)) from (Turn.refl [] w).alloc _)
  have HGw := hide (Grew.alloc base w (.cells #[.int .u8 (n / 16777216 : Nat), .int .u8 (n / 65536 % 256 : Nat), .int .u8 (n / 256 % 256 : Nat), .int .u8 (n % 256 : Nat)] 5))
  clear hO
  go_enter Tryz.func139, Tryz.ntmps139
  generalize n / 16777216 = b1 at *
  generalize n / 65536 % 256 = b2 at *
  generalize n / 256 % 256 = b3 at *
  generalize n % 256 = b4 at *
  go_wp2_with (at_builtin; refine append_bytes2 rfl _ _ rfl base v l rfl HO.out w.heap.size 0 4 4 (be4 n) rfl rfl HB.out (by omega) (by omega) ?_; intro v1 w1 g1 g2 g3; have H1 := hide g1; have H2 := hide g2; have hs1 := g2.size; clear g1 g2 g3)
  go_ret
  refine ⟨_, rfl, H1.out, HGw.out.trans (Grew.of HO.out H2.out), by omega, fun x hx hne => ?_⟩
  rw [H2.out.block x (by omega) (fun e => hne e.symm)]
  exact HTw.out.block x hx (by simp)

/-- The root's bytes. -/
def rootBytes (pg lvl keys : Nat) : List Nat := be4 pg ++ [lvl] ++ be4 keys

set_option maxRecDepth 100000 in
set_option maxHeartbeats 1600000 in
theorem bytes_some (a pg lvl keys : Nat) (x2 x3 x4 : Value) (_hx2 : x2.oneCell' = true) (_hx3 : x3.oneCell' = true) (_hx4 : x4.oneCell' = true) (hpg : pg ≤ 16384) (hl : lvl ≤ 255) (hk : keys ≤ 1000000) (w : World) (h0 : w.cell? ⟨a, 0, none⟩ = some (.int .i64 (pg : Nat))) (h1 : w.cell? ⟨a, 1, none⟩ = some (.int .i64 (lvl : Nat))) :
    Calls Tryz.prog 104 #[.agg #[.pointer (some ⟨a, 0, none⟩), .int .i64 (keys : Nat), x2, x3, x4]] w fun e w' => ∃ v, e = .returned v ∧ OwnB w' w.heap.size v (rootBytes pg lvl keys) ∧ Turn [] w w' := by
  have hmod : (lvl : Int) % 256 = (lvl : Int) := by omega
  have hal := lt_of_cell h0
  obtain ⟨sb, hsb⟩ : ∃ sb, sb = w.heap.size := ⟨_, rfl⟩
  have hT0 : Turn [] w (w.alloc (.cells #[.pointer (some ⟨a, 0, none⟩), .int .i64 (keys : Nat), x2, x3, x4] 124)) := (Turn.refl [] w).alloc _
  have hr0 : (w.alloc (.cells #[.pointer (some ⟨a, 0, none⟩), .int .i64 (keys : Nat), x2, x3, x4] 124)).cell? ⟨w.heap.size, 0, none⟩ = some (.pointer (some ⟨a, 0, none⟩)) := World.cell?_alloc_at _ _ _ _ rfl
  have hr1 : (w.alloc (.cells #[.pointer (some ⟨a, 0, none⟩), .int .i64 (keys : Nat), x2, x3, x4] 124)).cell? ⟨w.heap.size, 1, none⟩ = some (.int .i64 (keys : Nat)) := World.cell?_alloc_at _ _ _ _ rfl
  have hs0 : (w.alloc (.cells #[.pointer (some ⟨a, 0, none⟩), .int .i64 (keys : Nat), x2, x3, x4] 124)).heap.size = w.heap.size + 1 := by simp
  have HT0 := hide hT0
  go_enter Tryz.func104, Tryz.ntmps104
  go_wp2_with fail
  generalize w.alloc (.cells #[.pointer (some ⟨a, 0, none⟩), .int .i64 (keys : Nat), x2, x3, x4] 124) = w1 at *
  refine (appendNumber_any (w.heap.size + 1) (.slice none 0 0) [] pg (by omega) (by simp) w1 (by omega) (OwnB.nil _ _)).mono ?_
  rintro e w2 ⟨v2, rfl, hO2, hG2, hs2, hK2⟩
  have hT2 : Turn [] w1 w2 := hG2 w1 (by omega) (Turn.refl [] w1)
  have h02 := (hT2.cb (by omega) (by simp)).trans ((hT0.cb hal (by simp)).trans h0)
  have h12 := (hT2.cb (by omega) (by simp)).trans ((hT0.cb hal (by simp)).trans h1)
  have hr02 := (hT2.cb (by omega) (by simp)).trans hr0
  have hr12 := (hT2.cb (by omega) (by simp)).trans hr1
  have HO2 := hide hO2
  have HO2a := hide (hO2.alloc (.cells #[.int .u8 (lvl : Nat)] 5))
  have HB := hide (show BytesAt (w2.alloc (.cells #[.int .u8 (lvl : Nat)] 5)) (some ⟨w2.heap.size, 0, none⟩) [lvl] from bytes_new w2 [lvl] 5)
  have HT2 := hide (HT0.out.then hT2 (by simp))
  clear hO2 hG2 hK2 hT2 hT0 hr0 hr1 h0 h1
  go_wp2_with (first | (at_builtin; refine append_bytes2 rfl _ _ rfl (w.heap.size + 1) v2 ([] ++ be4 pg) rfl HO2a.out w2.heap.size 0 1 1 [lvl] rfl rfl HB.out (by simp [be4]) (by simp; omega) ?_; intro v3 w3 g1 g2 g3; have H3 := hide g1; have hG3 := Grew.of HO2a.out g2; have hT3 : Turn [] w w3 := hG3 w (by omega) (HT2.out.alloc _); have hr13 : w3.cell? ⟨w.heap.size, 1, none⟩ = some (.int .i64 (keys : Nat)) := (World.cell?_of_block (a := ⟨w.heap.size, 1, none⟩) (g2.block w.heap.size (by simp; omega) (fun e => by have := (HO2.out.lt _ e.symm).1; omega))).trans ((((Turn.refl [] w2).alloc (.cells #[.int .u8 (lvl : Nat)] 5)).cb (by omega) (by simp)).trans hr12); have HT3 := hide hT3; have hs3 := g2.size; clear g1 g2 g3 hG3 hT3) | fail)
  refine (appendNumber_any (w.heap.size + 1) v3 ([] ++ be4 pg ++ [lvl]) keys (by omega) (by simp [be4]) w3 (by simp at hs3; omega) H3.out).mono ?_
  rintro e w4 ⟨v4, rfl, hO4, hG4, hs4, _⟩
  have HO4 := hide hO4
  have HT4 := hide (hG4 w (by omega) HT3.out)
  clear hO4 hG4
  go_wp2_with fail
  go_ret
  refine ⟨v4, rfl, ?_, HT4.out⟩
  have h := HO4.out
  rw [List.nil_append] at h
  obtain ⟨k1, k2 | ⟨g', c', cur, k3, k4, k5⟩⟩ := h
  · exact ⟨k1, .inl k2⟩
  · exact ⟨k1, .inr ⟨g', c', cur, k3, by omega, k5⟩⟩
end Go.Proofs.YthgpjkcgccdldaaGreatDoor
