/-
  The frame's writer: its fault and its bytes in memory; its methods, walked.
-/
import Derived.Test.YtkbboingeacgjaaQStm
import Derived.Deep.AppendLies
import Derived.Deep.RegionLaw
import Derived.Deep.QuietTactic
import Derived.Lib.AppendStr
namespace Go.Proofs.Ytkbboingeacgjaa
open Go.RowKit

/-- A writer in memory: its fault, its bytes. -/
structure FwAt (w : World) (O : Nat → Prop) (b : Nat) (l : List Nat) (e : Nat) : Prop where
  row : ∃ v, w.cell? ⟨b, 1, none⟩ = some v ∧ w.ownsRow 0 5 1 v l.length (l.map byteCell) ∧ ∀ g, v.ownBlock = some g → ¬ O g ∧ g ≠ b
  c0 : w.cell? ⟨b, 0, none⟩ = some (.int .i64 (e : Nat))
  fz : ∀ o, w.frozen? ⟨b, o, none⟩ = false
  ob : ¬ O b
  lt : ∀ x, O x → x < w.heap.size

/-- Bytes were put behind a writer's row. -/
theorem fwr_put {w w1 w2 : World} {O : Nat → Prop} {b : Nat} {l m : List Nat} {e0 : Nat} {v : Value} {g cap n : Nat} (h : FwAt w O b l e0) (hv : w.cell? ⟨b, 1, none⟩ = some v) (h1 : Keep (fun x => x < w.heap.size) w w1)
    (hO : w2.ownsRow 0 5 1 (.slice (some ⟨g, 0, none⟩) n cap) n ((l ++ m).map byteCell)) (hg : w1.grownBy w2 v.ownBlock) (hl : v.ownBlock = some g ∨ w.heap.size ≤ g) :
    FwAt (w2.setCell ⟨b, 1, none⟩ (.slice (some ⟨g, 0, none⟩) n cap)) O b (l ++ m) e0 ∧ Keep O w (w2.setCell ⟨b, 1, none⟩ (.slice (some ⟨g, 0, none⟩) n cap)) := by
  obtain ⟨⟨v', hv', hown, hno⟩, hc1, hfz, hob, hlt⟩ := h
  obtain rfl : v = v' := Option.some.inj (hv.symm.trans hv')
  have hbl := lt_of_cell hc1
  have hK2 : Keep (fun x => x < w.heap.size ∧ v.ownBlock ≠ some x) w w2 := (h1.less (fun _ _ h => h.1)).grown hg (fun k hk => .inl (fun h => h.2 hk))
  have hbv : v.ownBlock ≠ some b := fun e => (hno b e).2 rfl
  have hgn : ¬ O g ∧ g ≠ b := by
    rcases hl with e | e
    · exact hno g e
    · exact ⟨fun h => by have := hlt g h; omega, by omega⟩
  have hn : n = (l ++ m).length := by have := hO.1; rw [List.length_map] at this; omega
  refine ⟨⟨⟨_, World.cell?_setCell_same _ _ _ ((hK2.cell hbl ⟨hbl, hbv⟩).trans hv), ?_, fun g' e => ?_⟩, ?_, fun o => ?_, hob, fun x hx => ?_⟩, ?_⟩
  · rw [← hn]
    obtain ⟨k1, k2 | ⟨g', c', cur, e, k3, k4, k5⟩⟩ := hO
    · exact ⟨k1, .inl k2⟩
    · have e' : g = g' := by injection e with e; exact congrArg Addr.block (Option.some.inj e)
      subst e'
      exact ⟨k1, .inr ⟨g, c', cur, e, k3, (Below.heap_setCell w2 ⟨b, 1, none⟩ _ g (fun e => hgn.2 e)).trans k4, k5⟩⟩
  · have : g = g' := Option.some.inj e
    subst this
    exact hgn
  · rw [World.cell?_setCell_other _ _ _ _ (off_ne (by omega))]
    exact (hK2.cell hbl ⟨hbl, hbv⟩).trans hc1
  · rw [World.frozen?_setCell]
    exact (hK2.fz hbl ⟨hbl, hbv⟩).trans (hfz o)
  · rw [World.size_setCell]
    exact Nat.lt_of_lt_of_le (hlt x hx) hK2.size
  · exact (hK2.less (fun x hx ho => ⟨hx, fun e => (hno x e).1 ho⟩)).setCell (.inl hob) _ _

/-- What is behind an append to a writer's row: the store can be done, and it is well then. -/
structure FPutting (w w2 : World) (O : Nat → Prop) (b : Nat) (l : List Nat) (e0 : Nat) (v : Value) : Prop where
  c1 : ∃ u, w2.cell? ⟨b, 1, none⟩ = some u
  fz : w2.frozen? ⟨b, 1, none⟩ = false
  fin : FwAt (w2.setCell ⟨b, 1, none⟩ v) O b l e0 ∧ Keep O w (w2.setCell ⟨b, 1, none⟩ v)
  kb : w2.heap[b]? = w.heap[b]?
  ko : ∀ x, O x → w2.heap[x]? = w.heap[x]?

theorem fputting {w w1 w2 : World} {O : Nat → Prop} {b : Nat} {l m : List Nat} {e0 : Nat} {v : Value} {g cap n : Nat} (h : FwAt w O b l e0) (hv : w.cell? ⟨b, 1, none⟩ = some v) (h1 : Keep (fun x => x < w.heap.size) w w1)
    (hO : w2.ownsRow 0 5 1 (.slice (some ⟨g, 0, none⟩) n cap) n ((l ++ m).map byteCell)) (hg : w1.grownBy w2 v.ownBlock) (hl : v.ownBlock = some g ∨ g = w1.heap.size) : FPutting w w2 O b (l ++ m) e0 (.slice (some ⟨g, 0, none⟩) n cap) := by
  have hbl := lt_of_cell h.c0
  obtain ⟨v', hv', hown, hno⟩ := h.row
  obtain rfl : v = v' := Option.some.inj (hv.symm.trans hv')
  have hb : w2.heap[b]? = w.heap[b]? := (hg.block b (Nat.lt_of_lt_of_le hbl h1.size) (fun e => (hno b e.symm).2 rfl)).trans (h1.block b hbl hbl)
  exact ⟨⟨v, (World.cell?_of_block (a := ⟨b, 1, none⟩) hb).trans hv⟩, (World.frozen?_of_block (a := ⟨b, 1, none⟩) hb).trans (h.fz 1), fwr_put h hv h1 hO hg (by
    have := h1.size
    rcases hl with h | h
    · exact .inl h
    · exact .inr (by omega)), hb, fun x hx => (hg.block x (Nat.lt_of_lt_of_le (h.lt x hx) h1.size) (fun e => (hno x e.symm).1 hx)).trans (h1.block x (h.lt x hx) (h.lt x hx))⟩

theorem fwr_append_wp {o : Oper} {a : Act} {K : Act → World → Prop} {Q : Exit → Act → World → Prop} {w w1 : World} {O : Nat → Prop} {b : Nat} {l : List Nat} {e0 : Nat} {v : Value} (s x : Operand)
    (ho : o.op = .call { callee := .builtin .append, args := #[s, x], argTypes := #[26, 26] }) (h : FwAt w O b l e0) (hv : w.cell? ⟨b, 1, none⟩ = some v) (hs : a.eval s = v)
    (sb n c : Nat) (m : List Nat) (hx : a.eval x = .slice (some ⟨sb, 0, none⟩) n c) (hm : m.length = n) (hn : 0 < n) (hB : BytesAt w1 (some ⟨sb, 0, none⟩) m) (hl : l.length + n ≤ 2000000000) (h1 : Keep (fun x => x < w.heap.size) w w1)
    (hK : ∀ g cap w2, FPutting w w2 O b (l ++ m) e0 (.slice (some ⟨g, 0, none⟩) (l.length + n) cap) → K (a.put o.dst (.slice (some ⟨g, 0, none⟩) (l.length + n) cap)) w2) : o.wp Try.prog a w1 K Q := by
  obtain ⟨v', hv', hown, hno⟩ := h.row
  obtain rfl : v = v' := Option.some.inj (hv.symm.trans hv')
  obtain ⟨i0, hi, hz0, hz1, hz2⟩ := info_parts info5
  refine wp_append_lies w1 s x 26 ho 0 5 i0 (.int .u8 0) 1 1 Try.underlying26 hi hz0 hz1 hz2 rfl (by decide) v l.length (l.map byteCell) hs (own_kept hown h1) ⟨sb, 0, none⟩ n c (m.map byteCell) hx (by simp [hm]) (src_bytes hB) (src_one _) hn (by unfold maxLen; omega) (by omega) (Nat.zero_le _) _ rfl ?_
  intro g cap w2 k1 k2 k3 _
  rw [← List.map_append] at k1
  exact hK g cap w2 (fputting h hv h1 k1 k2 k3)

theorem fwpList_wr_append {ops : Array Oper} {rest : List Oper} {o : Oper} {a : Act} {Q : Exit → Act → World → Prop} {w w1 : World} {O : Nat → Prop} {b : Nat} {l : List Nat} {e0 : Nat} {v : Value} (hgd : o.guard = none) (s x : Operand)
    (ho : o.op = .call { callee := .builtin .append, args := #[s, x], argTypes := #[26, 26] }) (h : FwAt w O b l e0) (hv : w.cell? ⟨b, 1, none⟩ = some v) (hs : a.eval s = v)
    (sb n c : Nat) (m : List Nat) (hx : a.eval x = .slice (some ⟨sb, 0, none⟩) n c) (hm : m.length = n) (hn : 0 < n) (hB : BytesAt w1 (some ⟨sb, 0, none⟩) m) (hl : l.length + n ≤ 2000000000) (h1 : Keep (fun x => x < w.heap.size) w w1)
    (hK : ∀ g cap w2, FPutting w w2 O b (l ++ m) e0 (.slice (some ⟨g, 0, none⟩) (l.length + n) cap) → wpList Try.prog ops Q rest (a.put o.dst (.slice (some ⟨g, 0, none⟩) (l.length + n) cap)) w2) : wpList Try.prog ops Q (o :: rest) a w1 :=
  wpList_plain hgd fun _ k => fwr_append_wp s x ho h hv hs sb n c m hx hm hn hB hl h1 fun g cap w2 h => k _ _ (hK g cap w2 h)

theorem fstep_wr_append {ops : Array Oper} {o : Oper} {a : Act} {K : Act → World → Prop} {Q : Exit → Act → World → Prop} {E : Prop} {w w1 : World} {O : Nat → Prop} {b : Nat} {l : List Nat} {e0 : Nat} {v : Value} (hgd : o.guard = none) (s x : Operand)
    (ho : o.op = .call { callee := .builtin .append, args := #[s, x], argTypes := #[26, 26] }) (h : FwAt w O b l e0) (hv : w.cell? ⟨b, 1, none⟩ = some v) (hs : a.eval s = v)
    (sb n c : Nat) (m : List Nat) (hx : a.eval x = .slice (some ⟨sb, 0, none⟩) n c) (hm : m.length = n) (hn : 0 < n) (hB : BytesAt w1 (some ⟨sb, 0, none⟩) m) (hl : l.length + n ≤ 2000000000) (h1 : Keep (fun x => x < w.heap.size) w w1)
    (hK : ∀ g cap w2, FPutting w w2 O b (l ++ m) e0 (.slice (some ⟨g, 0, none⟩) (l.length + n) cap) → K (a.put o.dst (.slice (some ⟨g, 0, none⟩) (l.length + n) cap)) w2) :
    if Region.wanted o (yielded ops a.tmps) = true then Oper.wp Try.prog o a w1 K Q else E := by
  have hw : Region.wanted o (yielded ops a.tmps) = true := by simp [Region.wanted, hgd]
  rw [if_pos hw]
  exact fwr_append_wp s x ho h hv hs sb n c m hx hm hn hB hl h1 hK

/-- A string behind a row that is there. -/
theorem fwr_string_wp {o : Oper} {a : Act} {K : Act → World → Prop} {Q : Exit → Act → World → Prop} {w w1 : World} {O : Nat → Prop} {b : Nat} {l : List Nat} {e0 : Nat} {v : Value} (sl x : Operand)
    (ho : o.op = .call { callee := .builtin .append, args := #[sl, x], argTypes := #[26, 9] }) (h : FwAt w O b l e0) (hv : w.cell? ⟨b, 1, none⟩ = some v) (hs : a.eval sl = v) (hne : 0 < l.length)
    (s : ByteArray) (hx : a.eval x = .string s) (hl : l.length + s.size ≤ 2000000000) (h1 : Keep (fun x => x < w.heap.size) w w1)
    (hK : ∀ g cap w2, FPutting w w2 O b (l ++ natBytes s) e0 (.slice (some ⟨g, 0, none⟩) (l.length + s.size) cap) → K (a.put o.dst (.slice (some ⟨g, 0, none⟩) (l.length + s.size) cap)) w2) : o.wp Try.prog a w1 K Q := by
  obtain ⟨v', hv', hown, hno⟩ := h.row
  obtain rfl : v = v' := Option.some.inj (hv.symm.trans hv')
  obtain ⟨i0, hi, hz0, hz1, hz2⟩ := info_parts info5
  have hown1 := own_kept hown h1
  obtain ⟨v2, w2, hr, k1, k2, _⟩ := Lib.run_append_own_string (P := Try.prog) w1 0 26 9 o.type 5 i0 Try.underlying26 Try.underlying9 hi hz0 hz1 hz2 v l.length (l.map byteCell) hown1 s (by unfold maxLen; omega) (by omega) (Nat.zero_le _)
  have hloc : ∃ g cap, v2 = .slice (some ⟨g, 0, none⟩) (l.length + s.size) cap ∧ (v.ownBlock = some g ∨ g = w1.heap.size) := by
    rcases hown1.2 with ⟨_, e⟩ | ⟨g, cap, cur, rfl, hbg, hg, hnc, hcm, hcs, htake⟩
    · omega
    · by_cases hroom : l.length + s.size ≤ cap
      · have hr' := Lib.run_append_room_string (P := Try.prog) w1 26 9 o.type 5 i0 Try.underlying26 Try.underlying9 hi hz1 g l.length cap cur hg s hroom (by omega)
        rw [hr'] at hr
        injection hr with e1 e2
        exact ⟨g, cap, e1.symm, .inl rfl⟩
      · have holds : ∀ j u, (l.map byteCell)[j]? = some u → w1.cell? ((⟨g, 0, none⟩ : Addr).add j) = some u := hown1.cells (g := g) rfl
        have hr' := Lib.run_append_grow_string (P := Try.prog) w1 26 9 o.type 5 i0 (.int .u8 0) Try.underlying26 Try.underlying9 hi hz0 ⟨g, 0, none⟩ l.length cap (l.map byteCell) (by rw [hz1]; simp) holds s (by omega) (by omega) (by rw [hz2]; exact growslice_fits (by omega) (by omega))
        rw [hr'] at hr
        injection hr with e1 e2
        exact ⟨w1.heap.size, _, e1.symm, .inr rfl⟩
  obtain ⟨g, cap, rfl, hl2⟩ := hloc
  rw [strCells_nat, ← List.map_append] at k1
  unfold Oper.wp execOp
  simp only [ho, resolve, invoke, builtin, Sem.run_bind, Sem.run_pure, Result.andThen_ok, List.map_toArray, List.map_cons, List.map_nil, hs, hx, hr]
  exact hK g cap w2 (fputting h hv h1 k1 k2 hl2)

/-- The first fault stays. -/
def orE (e x : Nat) : Nat := if e = 0 then x else e

theorem FwAt.fault {w : World} {O : Nat → Prop} {b : Nat} {l : List Nat} {e : Nat} (h : FwAt w O b l e) (x : Nat) : FwAt (w.setCell ⟨b, 0, none⟩ (.int .i64 (x : Nat))) O b l x ∧ Keep O w (w.setCell ⟨b, 0, none⟩ (.int .i64 (x : Nat))) := by
  obtain ⟨⟨v, hv, hown, hno⟩, hc0, hfz, hob, hlt⟩ := h
  refine ⟨⟨⟨v, ?_, ?_, hno⟩, World.cell?_setCell_same _ _ _ hc0, fun o => by rw [World.frozen?_setCell]; exact hfz o, hob, fun y hy => by rw [World.size_setCell]; exact hlt y hy⟩, (Keep.refl _ w).setCell (.inl hob) _ _⟩
  · rw [World.cell?_setCell_other _ _ _ _ (off_ne (by omega))]; exact hv
  · obtain ⟨k1, k2 | ⟨g', c', cur, e', k3, k4, k5⟩⟩ := hown
    · exact ⟨k1, .inl k2⟩
    · exact ⟨k1, .inr ⟨g', c', cur, e', k3, (Below.heap_setCell w ⟨b, 0, none⟩ _ g' (fun k => (hno g' (by rw [e']; rfl)).2 k)).trans k4, k5⟩⟩

set_option maxRecDepth 100000 in
theorem fwrefuse {w : World} {O : Nat → Prop} {b : Nat} {l : List Nat} {e : Nat} (x : Nat) (h : FwAt w O b l e) :
    Calls Try.prog 41 #[.pointer (some ⟨b, 0, none⟩), .int .i64 (x : Nat)] w fun r w' => r = .returned (.tuple #[]) ∧ FwAt w' O b l (orE e x) ∧ Keep O w w' := by
  have h1 := h.c0
  have f1 := h.fz 0
  have H := hide h
  clear h
  by_cases he : e = 0
  · rw [he] at h1
    have HR : Hid (orE e x = x) := by show _ = _; unfold orE; rw [if_pos he]
    clear he
    go_enter Try.func41, Try.ntmps41
    go_wp2_with fail
    go_end0
    exact ⟨rfl, by rw [HR.out]; exact (H.out.fault x).1, (H.out.fault x).2⟩
  · have HR : Hid (orE e x = e) := by show _ = _; unfold orE; rw [if_neg he]
    have hne : ¬ ((e : Int) = 0) := by omega
    go_enter Try.func41, Try.ntmps41
    go_wp2_with fail
    go_end0
    exact ⟨rfl, by rw [HR.out]; exact H.out, Keep.refl _ w⟩

set_option maxRecDepth 100000 in
theorem fwfits {w : World} {O : Nat → Prop} {b : Nat} {l : List Nat} {e : Nat} (n : Nat) (hn : n ≤ 9223372036854775807) (h : FwAt w O b l e) :
    Calls Try.prog 50 #[.pointer (some ⟨b, 0, none⟩), .int .i64 (n : Nat)] w fun r w' => r = .returned (.bool (decide (n ≤ 255))) ∧ FwAt w' O b l (if n ≤ 255 then e else orE e 5) ∧ Keep O w w' := by
  have H := hide h
  have h0 := h.c0
  clear h
  by_cases hs : n ≤ 255
  · have hd : decide (n ≤ 255) = true := by simp [hs]
    rw [if_pos hs, hd]
    have hd2 : decide (255 < (n : Int)) = false := by simp; omega
    clear hd
    go_enter Try.func50, Try.ntmps50
    go_wp2_with fail
    go_ret
    exact ⟨rfl, H.out, Keep.refl _ w⟩
  · have hd : decide (n ≤ 255) = false := by simp; omega
    rw [if_neg hs, hd]
    have hd2 : decide (255 < (n : Int)) = true := by simp; omega
    clear hd
    go_enter Try.func50, Try.ntmps50
    go_wp2_with fail
    refine (fwrefuse 5 H.out).mono ?_
    rintro r w1 ⟨rfl, hW, hK⟩
    have HW := hide hW
    have HK := hide hK
    clear hW hK
    go_wp2_with fail
    go_ret
    exact ⟨rfl, HW.out, HK.out⟩

set_option maxRecDepth 100000 in
set_option maxHeartbeats 1000000 in
theorem fwoctet {w : World} {O : Nat → Prop} {b : Nat} {l : List Nat} {e : Nat} (n : Nat) (hn : n ≤ 255) (hl : l.length ≤ 1000000000) (h : FwAt w O b l e) :
    Calls Try.prog 42 #[.pointer (some ⟨b, 0, none⟩), .int .i64 (n : Nat)] w fun r w' => r = .returned (.tuple #[]) ∧ FwAt w' O b (l ++ [n]) e ∧ Keep O w w' := by
  have hF := fwfits n (by omega) h
  rw [if_pos hn, show decide (n ≤ 255) = true by simp [hn]] at hF
  have HC := hide hF
  clear h hF
  have hmod : (n : Int) % 256 = (n : Int) := by omega
  go_enter Try.func42, Try.ntmps42
  go_wp2_with fail
  refine HC.out.mono ?_
  rintro r w1 ⟨rfl, hW, hK⟩
  obtain ⟨v, hv, hown, _⟩ := hW.row
  obtain ⟨va, vc, rfl⟩ := own_form hown
  have fz := hW.fz 1
  have H := hide hW
  have HK := hide hK
  have HB := hide (show BytesAt (w1.alloc (.cells #[.int .u8 (n : Nat)] 5)) (some ⟨w1.heap.size, 0, none⟩) [n] from bytes_new w1 [n] 5)
  clear hown hW hK
  go_wp2_with (at_builtin; refine fwpList_wr_append rfl _ _ rfl H.out hv rfl w1.heap.size 1 1 [n] rfl rfl (by omega) HB.out (by omega) ((Keep.refl _ w1).alloc _) ?_; intro g cap w2 hP; obtain ⟨u, hc2⟩ := hP.c1; have fz2 := hP.fz; have HF := hide hP.fin; clear hP)
  go_end0
  exact ⟨rfl, HF.out.1, HK.out.trans HF.out.2⟩

set_option maxRecDepth 100000 in
set_option maxHeartbeats 1000000 in
theorem fwkind {w : World} {O : Nat → Prop} {b : Nat} {l : List Nat} {e : Nat} (k : Int) (hl : l.length ≤ 1000000000) (h : FwAt w O b l e) :
    Calls Try.prog 80 #[.pointer (some ⟨b, 0, none⟩), .int .i64 k] w fun r w' => r = .returned (.int .i64 k) ∧ FwAt w' O b (l ++ [(k % 256).toNat]) e ∧ Keep O w w' := by
  obtain ⟨v, hv, hown, _⟩ := h.row
  obtain ⟨va, vc, rfl⟩ := own_form hown
  have fz := h.fz 1
  obtain ⟨n, hn, hn2⟩ : ∃ n : Nat, k % 256 = (n : Int) ∧ n < 256 := ⟨(k % 256).toNat, by omega, by omega⟩
  have hwr : IntKind.u8.wrap k = (n : Int) := by rw [IntKind.wrap_u8]; exact hn
  rw [show (k % 256).toNat = n by omega]
  have H := hide h
  have HB := hide (show BytesAt (w.alloc (.cells #[.int .u8 (n : Nat)] 5)) (some ⟨w.heap.size, 0, none⟩) [n] from bytes_new w [n] 5)
  clear hown h
  go_enter Try.func80, Try.ntmps80
  go_wp2_with (at_builtin; refine fwpList_wr_append rfl _ _ rfl H.out hv rfl w.heap.size 1 1 [n] rfl rfl (by omega) HB.out (by omega) ((Keep.refl _ w).alloc _) ?_; intro g cap w2 hP; obtain ⟨u, hc2⟩ := hP.c1; have fz2 := hP.fz; have HF := hide hP.fin; clear hP)
  go_ret
  exact ⟨rfl, HF.out⟩

set_option maxRecDepth 100000 in
set_option maxHeartbeats 1600000 in
theorem fwnum {w : World} {O : Nat → Prop} {b : Nat} {l : List Nat} {e : Nat} (x : Int) (hl : l.length ≤ 1000000000) (h : FwAt w O b l e) :
    Calls Try.prog 51 #[.pointer (some ⟨b, 0, none⟩), .int .i64 x] w fun r w' => r = .returned (.int .i64 x) ∧ FwAt w' O b (l ++ be8 x) e ∧ Keep O w w' := by
  have H := hide h
  clear h
  go_enter Try.func51, Try.ntmps51
  go_wp2_with fail
  go_loopw [5] (fun i wr => ∃ j : Nat, j ≤ 8 ∧ i = .int .i64 (56 - 8 * (j : Int)) ∧ FwAt wr O b (l ++ (be8 x).take j) e ∧ Keep O w wr) (fun i _ => (intOf i + 8).toNat)
  case atStart => exact ⟨0, by omega, rfl, by simpa using H.out, Keep.refl _ _⟩
  case round =>
    obtain ⟨j, hj, rfl, hW, hK⟩ := hrel
    by_cases hlt : j < 8
    · obtain ⟨L, hL⟩ : ∃ L, l ++ (be8 x).take j = L := ⟨_, rfl⟩
      have hln : L.length = l.length + j := by rw [← hL, List.length_append, List.length_take, be8_length]; omega
      have hlm : L.length ≤ 1000000010 := by omega
      have ht := be8_take x j hlt
      have hs : x / 2 ^ (56 - 8 * (j : Int)).toNat = x / 2 ^ (8 * (7 - j)) := by congr 2; omega
      generalize x / 2 ^ (8 * (7 - j)) = q at *
      obtain ⟨y, hy, hy2⟩ : ∃ y : Nat, q % 256 = (y : Int) ∧ y < 256 := ⟨(q % 256).toNat, by omega, by omega⟩
      have hwr : IntKind.u8.wrap q = (y : Int) := by rw [IntKind.wrap_u8]; exact hy
      rw [hy, Int.toNat_natCast] at ht
      have HF2 : Hid (l ++ (be8 x).take (j + 1) = L ++ [y]) := by show _ = _; rw [ht, ← hL, List.append_assoc]
      rw [hL] at hW
      obtain ⟨v, hv, hown, _⟩ := hW.row
      obtain ⟨va, vc, rfl⟩ := own_form hown
      have fz := hW.fz 1
      have hbl := lt_of_cell hv
      have HW := hide hW
      have HK := hide hK
      clear hW hK hown hln ht hL
      go_wp2_with fail
      go_region_law (refine fstep_wr_append rfl (.tmp 14) (.tmp 19) rfl HW.out hv (by simp [Act.eval]) wr.heap.size 1 1 [y] (by simp [Act.eval]) rfl (by omega) (by exact bytes_new wr [y] 5) (by omega) (by exact ((Keep.refl _ wr).alloc _).drew) ?_; intro g cap w2 hP; obtain ⟨u, hc2⟩ := hP.c1; have fz2 := hP.fz; have HF := hide hP.fin; clear hP)
      all_goals
        go_wp2_with fail
        go_roundw
        case rel => exact ⟨j + 1, by omega, by go_num, by rw [HF2.out]; exact HF.out.1, HK.out.trans HF.out.2⟩
        case measure => simp [intOf]; omega
    · obtain rfl : j = 8 := by omega
      rw [List.take_of_length_le (by rw [be8_length]; omega)] at hW
      have HW := hide hW
      have HK := hide hK
      clear hW hK
      go_wp2_with fail
      go_ret
      exact ⟨rfl, HW.out, HK.out⟩

/-- What a writer makes of a text. -/
def txtW (l : List Nat) (e : Nat) (t : ByteArray) : Sx := if t.size ≤ 255 then ⟨l ++ [t.size] ++ natBytes t, e⟩ else ⟨l, orE e 5⟩

set_option maxRecDepth 100000 in
set_option maxHeartbeats 1600000 in
theorem fwtext {w : World} {O : Nat → Prop} {b : Nat} {l : List Nat} {e : Nat} (x : ByteArray) (hx : x.size ≤ 9223372036854775807) (hl : l.length ≤ 1000000000) (h : FwAt w O b l e) :
    Calls Try.prog 82 #[.pointer (some ⟨b, 0, none⟩), .string x] w fun r w' => r = .returned (.string x) ∧ FwAt w' O b (txtW l e x).l (txtW l e x).e ∧ Keep O w w' := by
  have hF := fwfits x.size (by omega) h
  clear h
  by_cases hs : x.size ≤ 255
  · rw [if_pos hs, show decide (x.size ≤ 255) = true by simp [hs]] at hF
    have HC := hide hF
    have HT : Hid (txtW l e x = ⟨l ++ [x.size] ++ natBytes x, e⟩) := by show _ = _; unfold txtW; rw [if_pos hs]
    rw [HT.out]
    clear hF
    go_enter Try.func82, Try.ntmps82
    go_wp2_with fail
    refine HC.out.mono ?_
    rintro r w1 ⟨rfl, hW, hK⟩
    have HW := hide hW
    have HK := hide hK
    clear hW hK
    go_wp2_with fail
    refine (fwoctet x.size hs hl HW.out).mono ?_
    rintro r w2 ⟨rfl, hW, hK⟩
    obtain ⟨L, hL⟩ : ∃ L, l ++ [x.size] = L := ⟨_, rfl⟩
    have hln : L.length = l.length + 1 := by rw [← hL, List.length_append]; rfl
    have hlm : L.length ≤ 1000000010 := by omega
    have hl0 : 0 < L.length := by omega
    rw [hL] at hW
    have HL := hide hL
    obtain ⟨v, hv, hown, _⟩ := hW.row
    obtain ⟨va, vc, rfl⟩ := own_form hown
    have fz := hW.fz 1
    have HW2 := hide hW
    have HK2 := hide (HK.out.trans hK)
    clear hW hK hown hln hL
    go_wp2_with (at_builtin; refine wpList_plain rfl fun _ k => fwr_string_wp _ _ rfl HW2.out hv rfl hl0 x rfl (by omega) (Keep.refl _ w2) fun g cap w3 hP => k _ _ ?_; obtain ⟨u, hc2⟩ := hP.c1; have fz2 := hP.fz; have HF := hide hP.fin; clear hP k)
    go_ret
    exact ⟨rfl, by rw [HL.out]; exact HF.out.1, HK2.out.trans HF.out.2⟩
  · rw [if_neg hs, show decide (x.size ≤ 255) = false by simp; omega] at hF
    have HC := hide hF
    have HT : Hid (txtW l e x = ⟨l, orE e 5⟩) := by show _ = _; unfold txtW; rw [if_neg hs]
    rw [HT.out]
    clear hF
    go_enter Try.func82, Try.ntmps82
    go_wp2_with fail
    refine HC.out.mono ?_
    rintro r w1 ⟨rfl, hW, hK⟩
    have HW := hide hW
    have HK := hide hK
    clear hW hK
    go_wp2_with fail
    go_ret
    exact ⟨rfl, HW.out, HK.out⟩

set_option maxRecDepth 100000 in
theorem fwend {w : World} {O : Nat → Prop} {b : Nat} {l : List Nat} {e : Nat} (h : FwAt w O b l e) :
    Calls Try.prog 25 #[.pointer (some ⟨b, 0, none⟩)] w fun r w' => (∃ v, r = .returned (.tuple #[v, .int .i64 (e : Nat)]) ∧ (e = 0 → w'.ownsRow 0 5 1 v l.length (l.map byteCell) ∧ ∀ g, v.ownBlock = some g → ¬ O g) ∧ (e ≠ 0 → v = .slice none 0 0)) ∧ ∃ n, w' = w.drewN n := by
  obtain ⟨v, hv, hown, hno⟩ := h.row
  obtain ⟨va, vc, rfl⟩ := own_form hown
  have h0 := h.c0
  have HO := hide hown
  have HN := hide hno
  clear hown hno h
  by_cases he : e = 0
  · subst he
    go_enter Try.func25, Try.ntmps25
    go_wp2_with fail
    go_ret2
    exact ⟨⟨_, rfl, fun _ => ⟨HO.out, fun g e => (HN.out g e).1⟩, fun k => absurd rfl k⟩, 0, rfl⟩
  · have hne : ¬ ((e : Int) = 0) := by omega
    go_enter Try.func25, Try.ntmps25
    go_wp2_with fail
    go_quiet (fail)
    go_wp2_with fail
    go_ret2
    exact ⟨⟨_, rfl, fun k => absurd k he, fun _ => rfl⟩, nq, rfl⟩

end Go.Proofs.Ytkbboingeacgjaa
