/-
  The reference's reader: structs that are made field by field; plans and statements.
-/
import Derived.Test.YtkbboingeacgjaaQTB
import Derived.Test.YtkbboingeacgjaaQSz
import Derived.Deep.MidRow
namespace Go.Proofs.Ytkbboingeacgjaa
open Go.RowKit

/-- A reader, and a struct that is made in a block of the call's own. -/
structure Rs (w0 w : World) (r : Nat) (a : Option Addr) (cap : Nat) (B : List Nat) (t : Sx) (q : Nat) (cs : List Value) : Prop where
  rd : Rdr w r a cap B t
  fl : w.rangeAt q 0 cs
  th : w.there q 0 cs.length
  tn : Turn [r] w0 w
  q0 : w0.heap.size ≤ q
  ql : q < w.heap.size
  rl : r < w0.heap.size
  ab : ∀ x, B ≠ [] → a = some x → x.block < w0.heap.size

theorem Rs.call {w0 w w' : World} {r : Nat} {a : Option Addr} {cap : Nat} {B : List Nat} {t t' : Sx} {q : Nat} {cs : List Value} (h : Rs w0 w r a cap B t q cs) (hT : Turn [r] w w') (hR : Rdr w' r a cap B t') : Rs w0 w' r a cap B t' q cs :=
  have hq : q ≠ r := by have := h.q0; have := h.rl; omega
  have hb := hT.block q h.ql (by simp [hq])
  ⟨hR, fun j v hj => (World.cell?_of_block (a := ⟨q, 0 + j, none⟩) hb).trans (h.fl j v hj), fun j hj => by
    rw [World.cell?_of_block (a := ⟨q, 0 + j, none⟩) hb, World.frozen?_of_block (a := ⟨q, 0 + j, none⟩) hb]
    exact h.th j hj, h.tn.trans hT, h.q0, Nat.lt_of_lt_of_le h.ql hT.size, h.rl, h.ab⟩

theorem rdr_far {w w' : World} {r : Nat} {a : Option Addr} {cap : Nat} {B : List Nat} {t : Sx} (h : Rdr w r a cap B t) (hr : w'.heap[r]? = w.heap[r]?) (hB : ∀ x, B ≠ [] → a = some x → w'.heap[x.block]? = w.heap[x.block]?) : Rdr w' r a cap B t :=
  have hc : ∀ o, w'.cell? ⟨r, o, none⟩ = w.cell? ⟨r, o, none⟩ := fun o => World.cell?_of_block (a := ⟨r, o, none⟩) hr
  have hf : ∀ o, w'.frozen? ⟨r, o, none⟩ = w.frozen? ⟨r, o, none⟩ := fun o => World.frozen?_of_block (a := ⟨r, o, none⟩) hr
  ⟨(hc 0).trans h.c0, by obtain ⟨p, h1, h2⟩ := h.p; exact ⟨p, (hc 1).trans h1, h2⟩, (hc 2).trans h.c2, (hf 1).trans h.f1, (hf 2).trans h.f2, h.hB.keep hB, h.ne, h.hl, h.cap, h.lt⟩

theorem Rs.puts {w0 w : World} {r : Nat} {a : Option Addr} {cap : Nat} {B : List Nat} {t : Sx} {q : Nat} {cs : List Value} (h : Rs w0 w r a cap B t q cs) (o : Nat) (vs : List Value) (hl : o + vs.length ≤ cs.length) : Rs w0 (w.setCells q o vs) r a cap B t q (cs.take o ++ vs ++ cs.drop (o + vs.length)) := by
  have hq : q ≠ r := by have := h.q0; have := h.rl; omega
  have hn : (cs.take o ++ vs ++ cs.drop (o + vs.length)).length = cs.length := by
    rw [List.length_append, List.length_append, List.length_take, List.length_drop]
    omega
  refine ⟨rdr_far h.rd (heap_setCellsN q r (fun e => hq e.symm) vs o w) (fun x hx e => heap_setCellsN q x.block (by have := h.ab x hx e; have := h.q0; omega) vs o w), range_puts h.fl h.th hl, by rw [hn]; exact World.there_setCells h.th _ _ _, ?_, h.q0, by rw [size_setCellsN]; exact h.ql, h.rl, h.ab⟩
  have e := rest_setCellsN q vs o w
  exact ⟨e.1.trans h.tn.os, e.2.1.trans h.tn.tape, e.2.2.trans h.tn.output, by rw [size_setCellsN]; exact h.tn.size, fun k hk hS => (heap_setCellsN q k (by have := h.q0; omega) vs o w).trans (h.tn.block k hk hS)⟩

theorem Rs.put {w0 w : World} {r : Nat} {a : Option Addr} {cap : Nat} {B : List Nat} {t : Sx} {q : Nat} {cs : List Value} (h : Rs w0 w r a cap B t q cs) (i : Nat) (v : Value) (hi : i < cs.length) : Rs w0 (w.setCell ⟨q, i, none⟩ v) r a cap B t q (cs.set i v) := by
  have := h.puts i [v] (by rw [List.length_singleton]; omega)
  rw [List.length_singleton, ← set_split cs i v hi] at this
  exact this

theorem Rs.cell {w0 w : World} {r : Nat} {a : Option Addr} {cap : Nat} {B : List Nat} {t : Sx} {q : Nat} {cs : List Value} (h : Rs w0 w r a cap B t q cs) {i : Nat} {v : Value} (hi : cs[i]? = some v) : w.cell? ⟨q, i, none⟩ = some v := by
  have := h.fl i v hi
  rw [Nat.zero_add] at this
  exact this

theorem Rs.fz {w0 w : World} {r : Nat} {a : Option Addr} {cap : Nat} {B : List Nat} {t : Sx} {q : Nat} {cs : List Value} (h : Rs w0 w r a cap B t q cs) {i : Nat} (hi : i < cs.length) : w.frozen? ⟨q, i, none⟩ = false := by
  have := (h.th i hi).2
  rw [Nat.zero_add] at this
  exact this

/-- A struct was begun. -/
theorem Rs.new {w0 w : World} {r : Nat} {a : Option Addr} {cap : Nat} {B : List Nat} {t : Sx} (hR : Rdr w r a cap B t) (hT : Turn [r] w0 w) (rl : r < w0.heap.size) (ab : ∀ x, B ≠ [] → a = some x → x.block < w0.heap.size) (Z : Array Value) (ty : TypeId) : Rs w0 (w.alloc (.cells Z ty)) r a cap B t w.heap.size Z.toList := by
  have hb : (w.alloc (.cells Z ty)).heap[w.heap.size]? = some (.cells Z ty (0, 0)) := Array.getElem?_push_size
  refine ⟨hR.keep (fun x hx => Below.heap_alloc w _ x hx), fun j v hj => ?_, fun j hj => ⟨?_, frozen_of_row _ _ _ _ _ hb⟩, hT.alloc _, hT.size, by simp, rl, ab⟩
  · rw [cell_of_row _ _ _ _ _ _ hb, Nat.zero_add, ← Array.getElem?_toList]
    exact hj
  · have hj' : j < Z.size := by rw [Array.length_toList] at hj; exact hj
    rw [cell_of_row _ _ _ _ _ _ hb, Nat.zero_add, Array.getElem?_eq_getElem hj']
    rfl

theorem Rdr.base {w : World} {r : Nat} {a : Option Addr} {cap : Nat} {B : List Nat} {t : Sx} (h : Rdr w r a cap B t) (o : Obj) : Rdr (w.alloc o) r a cap B t ∧ r < (w.alloc o).heap.size ∧ ∀ x, B ≠ [] → a = some x → x.block < (w.alloc o).heap.size :=
  ⟨h.keep (fun x hx => Below.heap_alloc w _ x hx), by have := h.at; simp; omega, fun x hx e => by have := h.hB.lt x hx e; simp; omega⟩

theorem Turn.from_alloc {r : Nat} {w w' : World} {o : Obj} (h : Turn [r] (w.alloc o) w') : Turn [r] w w' :=
  ⟨h.os, h.tape, h.output, by have := h.size; simp at this; omega, fun k hk hS => (h.block k (by simp; omega) hS).trans (Below.heap_alloc w _ k hk)⟩

/-- What rdPlan answers. -/
def rdPlanP (w : World) (r : Nat) (a : Option Addr) (cap : Nat) (B : List Nat) (t : Sx) (e : Ending) (w' : World) : Prop := ∃ (nm : ByteArray), e = .returned (.agg (Value.string nm :: intC (tiS .pr t ByteArray.empty (List.replicate 9 0)).2.2).toArray) ∧ Rdr w' r a cap B (tiS .pr t ByteArray.empty (List.replicate 9 0)).1 ∧ ((textS .pr t ByteArray.empty).1.e = 0 → nm = (tiS .pr t ByteArray.empty (List.replicate 9 0)).2.1) ∧ Turn [r] w w'

set_option maxRecDepth 100000 in
set_option maxHeartbeats 6400000 in
theorem rdPlan {w : World} {r : Nat} {a : Option Addr} {cap : Nat} {B : List Nat} {t : Sx} (h : Rdr w r a cap B t) : Calls Try.prog 34 #[.pointer (some ⟨r, 0, none⟩)] w fun e w' => rdPlanP w r a cap B t e w' := by
  obtain ⟨hR0, hrl, hab⟩ := h.base (.cells #[.string { data := #[] }, .int .i64 0, .int .i64 0, .int .i64 0, .int .i64 0, .int .i64 0, .int .i64 0, .int .i64 0, .int .i64 0, .int .i64 0] 23)
  have HTh := hide (there_new2 w #[.string { data := #[] }, .int .i64 0, .int .i64 0, .int .i64 0, .int .i64 0, .int .i64 0, .int .i64 0, .int .i64 0, .int .i64 0, .int .i64 0] 23)
  have hs0 : (w.alloc (.cells #[.string { data := #[] }, .int .i64 0, .int .i64 0, .int .i64 0, .int .i64 0, .int .i64 0, .int .i64 0, .int .i64 0, .int .i64 0, .int .i64 0] 23)).heap.size = w.heap.size + 1 := by simp
  have HS0 := hide hs0
  have HAb := hide hab
  have HAb2 := hide (fun x hx e => h.hB.lt x hx e)
  have HC0 := hide (rtxt hR0)
  have HR0 := hide hR0
  have HFin : Hid (∀ w', Turn [r] (w.alloc (.cells #[.string { data := #[] }, .int .i64 0, .int .i64 0, .int .i64 0, .int .i64 0, .int .i64 0, .int .i64 0, .int .i64 0, .int .i64 0, .int .i64 0] 23)) w' → Turn [r] w w') := fun w' hT => hT.from_alloc
  have hrw : w.heap.size ≠ r := by have := h.at; omega
  unfold TxtP at HC0
  obtain ⟨T0, hT0⟩ : ∃ T, textS .pr t ByteArray.empty = T := ⟨_, rfl⟩
  obtain ⟨t0, nm0⟩ := T0
  rw [hT0] at HC0
  obtain ⟨⟨t1, x1⟩, hT1⟩ : ∃ T, numS .pr t0 0 = T := ⟨_, rfl⟩
  obtain ⟨⟨t2, x2⟩, hT2⟩ : ∃ T, numS .pr t1 0 = T := ⟨_, rfl⟩
  obtain ⟨⟨t3, x3⟩, hT3⟩ : ∃ T, numS .pr t2 0 = T := ⟨_, rfl⟩
  obtain ⟨⟨t4, x4⟩, hT4⟩ : ∃ T, numS .pr t3 0 = T := ⟨_, rfl⟩
  obtain ⟨⟨t5, x5⟩, hT5⟩ : ∃ T, numS .pr t4 0 = T := ⟨_, rfl⟩
  obtain ⟨⟨t6, x6⟩, hT6⟩ : ∃ T, numS .pr t5 0 = T := ⟨_, rfl⟩
  obtain ⟨⟨t7, x7⟩, hT7⟩ : ∃ T, numS .pr t6 0 = T := ⟨_, rfl⟩
  obtain ⟨⟨t8, x8⟩, hT8⟩ : ∃ T, numS .pr t7 0 = T := ⟨_, rfl⟩
  obtain ⟨⟨t9, x9⟩, hT9⟩ : ∃ T, numS .pr t8 0 = T := ⟨_, rfl⟩
  have hti : tiS .pr t ByteArray.empty (List.replicate 9 0) = (t9, nm0, [x1, x2, x3, x4, x5, x6, x7, x8, x9]) := by
    unfold tiS
    rw [hT0]
    show ((numsS .pr t0 [0, 0, 0, 0, 0, 0, 0, 0, 0]).1, nm0, (numsS .pr t0 [0, 0, 0, 0, 0, 0, 0, 0, 0]).2) = _
    simp only [numsS, hT1, hT2, hT3, hT4, hT5, hT6, hT7, hT8, hT9]
  unfold rdPlanP
  rw [hti, hT0]
  clear hti hab h hs0 hR0 hT0
  dsimp only at HC0 ⊢
  have HT1 := hide hT1
  have HT2 := hide hT2
  have HT3 := hide hT3
  have HT4 := hide hT4
  have HT5 := hide hT5
  have HT6 := hide hT6
  have HT7 := hide hT7
  have HT8 := hide hT8
  have HT9 := hide hT9
  clear hT1 hT2 hT3 hT4 hT5 hT6 hT7 hT8 hT9
  generalize hq2 : w.heap.size = q2 at *
  have HQ2 := hide hq2
  go_enter Try.func34, Try.ntmps34
  go_wp2_with fail
  clear hq2
  generalize w.alloc (.cells #[.string { data := #[] }, .int .i64 0, .int .i64 0, .int .i64 0, .int .i64 0, .int .i64 0, .int .i64 0, .int .i64 0, .int .i64 0, .int .i64 0] 23) = w0 at *
  refine HC0.out.mono ?_
  rintro e w1 ⟨nm, rfl, hR, hnm, hT⟩
  have HNm := hide hnm
  have HS1 := hide (Rs.new hR hT hrl HAb.out #[Value.string nm, Value.int .i64 0, Value.int .i64 0, Value.int .i64 0, Value.int .i64 0, Value.int .i64 0, Value.int .i64 0, Value.int .i64 0, Value.int .i64 0, Value.int .i64 0] 23)
  clear hR hnm hT
  go_wp2_with fail
  generalize hq : w1.heap.size = q at *
  generalize w1.alloc (.cells #[Value.string nm, Value.int .i64 0, Value.int .i64 0, Value.int .i64 0, Value.int .i64 0, Value.int .i64 0, Value.int .i64 0, Value.int .i64 0, Value.int .i64 0, Value.int .i64 0] 23) = v1 at *
  clear hq
  refine (ri64 HS1.out.rd).mono ?_
  rintro e u1 ⟨rfl, hR, hT⟩
  rw [HT1.out] at hR ⊢
  have hK1 := HS1.out.call hT hR
  have c1 := hK1.cell (i := 1) rfl
  have f1 := hK1.fz (i := 1) (by simp)
  have HS2 := hide (hK1.put 1 (.int .i64 x1) (by simp))
  clear hR hT hK1
  dsimp only
  go_wp2_with fail
  generalize u1.setCell ⟨q, 1, none⟩ (.int .i64 x1) = v2 at *
  clear c1 f1 HS1
  refine (ri64 HS2.out.rd).mono ?_
  rintro e u2 ⟨rfl, hR, hT⟩
  rw [HT2.out] at hR ⊢
  have hK2 := HS2.out.call hT hR
  have c2 := hK2.cell (i := 2) rfl
  have f2 := hK2.fz (i := 2) (by simp)
  have HS3 := hide (hK2.put 2 (.int .i64 x2) (by simp))
  clear hR hT hK2
  dsimp only
  go_wp2_with fail
  generalize u2.setCell ⟨q, 2, none⟩ (.int .i64 x2) = v3 at *
  clear c2 f2 HS2
  refine (ri64 HS3.out.rd).mono ?_
  rintro e u3 ⟨rfl, hR, hT⟩
  rw [HT3.out] at hR ⊢
  have hK3 := HS3.out.call hT hR
  have c3 := hK3.cell (i := 3) rfl
  have f3 := hK3.fz (i := 3) (by simp)
  have HS4 := hide (hK3.put 3 (.int .i64 x3) (by simp))
  clear hR hT hK3
  dsimp only
  go_wp2_with fail
  generalize u3.setCell ⟨q, 3, none⟩ (.int .i64 x3) = v4 at *
  clear c3 f3 HS3
  refine (ri64 HS4.out.rd).mono ?_
  rintro e u4 ⟨rfl, hR, hT⟩
  rw [HT4.out] at hR ⊢
  have hK4 := HS4.out.call hT hR
  have c4 := hK4.cell (i := 4) rfl
  have f4 := hK4.fz (i := 4) (by simp)
  have HS5 := hide (hK4.put 4 (.int .i64 x4) (by simp))
  clear hR hT hK4
  dsimp only
  go_wp2_with fail
  generalize u4.setCell ⟨q, 4, none⟩ (.int .i64 x4) = v5 at *
  clear c4 f4 HS4
  refine (ri64 HS5.out.rd).mono ?_
  rintro e u5 ⟨rfl, hR, hT⟩
  rw [HT5.out] at hR ⊢
  have hK5 := HS5.out.call hT hR
  have c5 := hK5.cell (i := 5) rfl
  have f5 := hK5.fz (i := 5) (by simp)
  have HS6 := hide (hK5.put 5 (.int .i64 x5) (by simp))
  clear hR hT hK5
  dsimp only
  go_wp2_with fail
  generalize u5.setCell ⟨q, 5, none⟩ (.int .i64 x5) = v6 at *
  clear c5 f5 HS5
  refine (ri64 HS6.out.rd).mono ?_
  rintro e u6 ⟨rfl, hR, hT⟩
  rw [HT6.out] at hR ⊢
  have hK6 := HS6.out.call hT hR
  have c6 := hK6.cell (i := 6) rfl
  have f6 := hK6.fz (i := 6) (by simp)
  have HS7 := hide (hK6.put 6 (.int .i64 x6) (by simp))
  clear hR hT hK6
  dsimp only
  go_wp2_with fail
  generalize u6.setCell ⟨q, 6, none⟩ (.int .i64 x6) = v7 at *
  clear c6 f6 HS6
  refine (ri64 HS7.out.rd).mono ?_
  rintro e u7 ⟨rfl, hR, hT⟩
  rw [HT7.out] at hR ⊢
  have hK7 := HS7.out.call hT hR
  have c7 := hK7.cell (i := 7) rfl
  have f7 := hK7.fz (i := 7) (by simp)
  have HS8 := hide (hK7.put 7 (.int .i64 x7) (by simp))
  clear hR hT hK7
  dsimp only
  go_wp2_with fail
  generalize u7.setCell ⟨q, 7, none⟩ (.int .i64 x7) = v8 at *
  clear c7 f7 HS7
  refine (ri64 HS8.out.rd).mono ?_
  rintro e u8 ⟨rfl, hR, hT⟩
  rw [HT8.out] at hR ⊢
  have hK8 := HS8.out.call hT hR
  have c8 := hK8.cell (i := 8) rfl
  have f8 := hK8.fz (i := 8) (by simp)
  have HS9 := hide (hK8.put 8 (.int .i64 x8) (by simp))
  clear hR hT hK8
  dsimp only
  go_wp2_with fail
  generalize u8.setCell ⟨q, 8, none⟩ (.int .i64 x8) = v9 at *
  clear c8 f8 HS8
  refine (ri64 HS9.out.rd).mono ?_
  rintro e u9 ⟨rfl, hR, hT⟩
  rw [HT9.out] at hR ⊢
  have hK9 := HS9.out.call hT hR
  have c9 := hK9.cell (i := 9) rfl
  have f9 := hK9.fz (i := 9) (by simp)
  have HS10 := hide (hK9.put 9 (.int .i64 x9) (by simp))
  clear hR hT hK9
  dsimp only
  go_upto_region 11 with fail
  generalize u9.setCell ⟨q, 9, none⟩ (.int .i64 x9) = v10 at *
  clear c9 f9 HS9
  have hl : (Value.string nm :: intC [x1, x2, x3, x4, x5, x6, x7, x8, x9]).length = 10 := rfl
  have HF : Hid (v10.rangeAt q 0 (Value.string nm :: intC [x1, x2, x3, x4, x5, x6, x7, x8, x9])) := HS10.out.fl
  have HTq : Hid (v10.there q2 0 10) := fun j hj => by
    have hb := HS10.out.tn.block q2 (by rw [HS0.out]; omega) (by simp [hrw])
    rw [World.cell?_of_block (a := ⟨q2, 0 + j, none⟩) hb, World.frozen?_of_block (a := ⟨q2, 0 + j, none⟩) hb]
    exact HTh.out j hj
  have HOne : Hid (∀ v ∈ (Value.string nm :: intC [x1, x2, x3, x4, x5, x6, x7, x8, x9]), v.oneCell' = true) := fun v hv => by
    rcases List.mem_cons.1 hv with rfl | hv
    · rfl
    · obtain ⟨x, _, rfl⟩ := List.mem_map.1 hv
      rfl
  have HR6 := hide (World.rangeAt_setCells_same v10 q2 0 (Value.string nm :: intC [x1, x2, x3, x4, x5, x6, x7, x8, x9]) (by rw [hl]; exact HTq.out))
  have HRd : Hid (Rdr (v10.setCells q2 0 (Value.string nm :: intC [x1, x2, x3, x4, x5, x6, x7, x8, x9])) r a cap B t9) := rdr_far HS10.out.rd (heap_setCellsN q2 r (fun e => hrw e.symm) _ _ _) (fun x hx e => heap_setCellsN q2 x.block (fun k => by have := HAb2.out x hx e; omega) _ _ _)
  have HTn : Hid (Turn [r] w (v10.setCells q2 0 (Value.string nm :: intC [x1, x2, x3, x4, x5, x6, x7, x8, x9]))) := by
    have h1 := HFin.out _ HS10.out.tn
    have e := rest_setCellsN q2 (Value.string nm :: intC [x1, x2, x3, x4, x5, x6, x7, x8, x9]) 0 v10
    exact ⟨e.1.trans h1.os, e.2.1.trans h1.tape, e.2.2.trans h1.output, by rw [size_setCellsN]; exact h1.size, fun k hk hS => (heap_setCellsN q2 k (by have := HQ2.out; omega) _ _ _).trans (h1.block k hk hS)⟩
  generalize hcs : (Value.string nm :: intC [x1, x2, x3, x4, x5, x6, x7, x8, x9]) = cs at HF hl HOne HR6 HRd HTn
  have HCs := hide hcs
  clear hcs
  go_wp2_with (first | ((with_reducible refine load_sz 23 10 sz23 _ q 0 cs hl ?_ HF.out ?_); rfl) | ((with_reducible refine store_sz 23 10 sz23 _ _ q2 0 cs hl HOne.out ?_ ?_ HTq.out ?_); rfl; rfl) | fail)
  refine bodyPost_ret (v := .agg cs.toArray) (results_sz sz23 Try.results34 hl rfl HR6.out) rfl ⟨nm, ?_, HRd.out, HNm.out, HTn.out⟩
  rw [HCs.out]

end Go.Proofs.Ytkbboingeacgjaa
