/-
  Structs in memory as one range of cells: how they are loaded, stored, handed out.
-/
import Derived.Test.YtkbboingeacgjaaQRef
import Derived.Deep.MidRow
namespace Go.Proofs.Ytkbboingeacgjaa
open Go.RowKit

def intC (l : List Int) : List Value := l.map (Value.int .i64)

theorem rangeAt_right {w : World} {q o : Nat} {xs ys : List Value} (h : w.rangeAt q o (xs ++ ys)) : w.rangeAt q (o + xs.length) ys := fun j v hj => by
  rw [Nat.add_assoc]
  exact h (xs.length + j) v (by rw [List.getElem?_append_right (by omega), Nat.add_sub_cancel_left]; exact hj)

theorem rangeAt_left {w : World} {q o : Nat} {xs ys : List Value} (h : w.rangeAt q o (xs ++ ys)) : w.rangeAt q o xs := fun j v hj => by
  have hlt : j < xs.length := (List.getElem?_eq_some_iff.1 hj).1
  exact h j v (by rw [List.getElem?_append_left hlt]; exact hj)

theorem app_rangeAt {w : World} {q o : Nat} {xs ys : List Value} (h : w.rangeAt q o xs) (k : w.rangeAt q (o + xs.length) ys) : w.rangeAt q o (xs ++ ys) := fun j u hj => by
  by_cases hlt : j < xs.length
  · rw [List.getElem?_append_left hlt] at hj
    exact h j u hj
  · rw [List.getElem?_append_right (by omega)] at hj
    have := k _ u hj
    rw [show o + xs.length + (j - xs.length) = o + j by omega] at this
    exact this

theorem rng_new (w : World) (cs : List Value) (Z : Array Value) (t : TypeId) (h : Z.toList = cs) : (w.alloc (.cells Z t)).rangeAt w.heap.size 0 cs := fun j v hj => by
  rw [Nat.zero_add, World.cell?_alloc_at _ _ _ _ rfl, ← Array.getElem?_toList, h]
  exact hj

theorem fz_new (w : World) (Z : Array Value) (t : TypeId) (o : Nat) : (w.alloc (.cells Z t)).frozen? ⟨w.heap.size, o, none⟩ = false := by
  unfold World.frozen?
  rw [show (w.alloc _).heap[(⟨w.heap.size, o, none⟩ : Addr).block]? = _ from heap_alloc_new w _]
  simp

theorem size_setCellsN (b : Nat) (vs : List Value) : ∀ (o : Nat) (w : World), (w.setCells b o vs).heap.size = w.heap.size := by
  induction vs with
  | nil => intro o w; rfl
  | cons v vs ih => intro o w; rw [World.setCells, ih, World.size_setCell]

theorem heap_setCellsN (b x : Nat) (hx : x ≠ b) (vs : List Value) : ∀ (o : Nat) (w : World), (w.setCells b o vs).heap[x]? = w.heap[x]? := by
  induction vs with
  | nil => intro o w; rfl
  | cons v vs ih => intro o w; rw [World.setCells, ih]; exact Below.heap_setCell w ⟨b, o, none⟩ v x (fun e => hx e)

theorem rest_setCellsN (b : Nat) (vs : List Value) : ∀ (o : Nat) (w : World), (w.setCells b o vs).os = w.os ∧ (w.setCells b o vs).tape = w.tape ∧ (w.setCells b o vs).output = w.output := by
  induction vs with
  | nil => intro o w; exact ⟨rfl, rfl, rfl⟩
  | cons v vs ih => intro o w; rw [World.setCells]; exact ih (o + 1) (w.setCell ⟨b, o, none⟩ v)

theorem Turn.setCellsN {u w : World} (h : Turn [] u w) (b : Nat) (hb : u.heap.size ≤ b) (vs : List Value) (o : Nat) : Turn [] u (w.setCells b o vs) := by
  obtain ⟨r1, r2, r3⟩ := rest_setCellsN b vs o w
  exact ⟨r1.trans h.os, r2.trans h.tape, r3.trans h.output, by rw [size_setCellsN]; exact h.size, fun i hi hn => (heap_setCellsN b i (by omega) vs o w).trans (h.block i hi hn)⟩

def Sz (ty n : Nat) : Prop := (Try.prog.info? ty).map (·.size) = some n ∧ ∃ d, Try.prog.underlying ty = some d ∧ d.isRow = true

theorem sz23 : Sz 23 10 := ⟨by kernel_rfl, .struct (Try.prog.fieldsOf 23), by kernel_rfl, rfl⟩

theorem sz25 : Sz 25 18 := ⟨by kernel_rfl, .struct (Try.prog.fieldsOf 25), by kernel_rfl, rfl⟩

theorem store_sz {ops : Array Oper} {rest : List Oper} {dst : Option Tmp} {ty : TypeId} {pos : String} {after : Array Edge} {a : Act} {w : World} {Q : Exit → Act → World → Prop} (T n : Nat) (hT : Sz T n) (x y : Tmp) (b off : Nat) (cs : List Value) (hl : cs.length = n) (h1 : ∀ v ∈ cs, v.oneCell' = true)
    (hx : a.eval (.tmp x) = .pointer (some ⟨b, off, none⟩)) (hy : a.eval (.tmp y) = .agg cs.toArray) (ht : w.there b off n)
    (h : wpList Try.prog ops Q rest (a.put dst undef) (w.setCells b off cs)) : wpList Try.prog ops Q (⟨dst, .store T (.tmp x) (.tmp y), ty, pos, after, none⟩ :: rest) a w :=
  wpList_store_mid rfl T (.tmp x) (.tmp y) rfl b off cs.toArray hx hy (by rw [List.size_toArray, hl]; exact ht) (by rw [hT.1, List.size_toArray, hl]) (all_oneCell_toArray h1) h

theorem load_sz {ops : Array Oper} {rest : List Oper} {dst : Option Tmp} {ty : TypeId} {pos : String} {after : Array Edge} {a : Act} {w : World} {Q : Exit → Act → World → Prop} (T n : Nat) (hT : Sz T n) (x : Tmp) (b off : Nat) (cs : List Value) (hl : cs.length = n)
    (hx : a.eval (.tmp x) = .pointer (some ⟨b, off, none⟩)) (hr : w.rangeAt b off cs)
    (h : wpList Try.prog ops Q rest (a.put dst (.agg cs.toArray)) w) : wpList Try.prog ops Q (⟨dst, .load T (.tmp x), ty, pos, after, none⟩ :: rest) a w := by
  obtain ⟨h0, d, h1, h2⟩ := hT
  exact wpList_load_mid rfl T (.tmp x) rfl b off hx cs d hr h1 h2 (by rw [h0, hl]) h

theorem results_sz {fn : Func} {i T n : Nat} (hT : Sz T n) (h : fn.results = #[.cell i T]) {tmps : Array Value} {w : World} {g : Nat} {cs : List Value} (hl : cs.length = n) (h4 : tmps.getD i undef = .pointer (some ⟨g, 0, none⟩)) (hr : w.rangeAt g 0 cs) :
    (results fn tmps).run Try.prog w = .ok (.agg cs.toArray) w := by
  have h4' : tmps[i]?.getD undef = .pointer (some ⟨g, 0, none⟩) := by simpa using h4
  obtain ⟨h0, d, k1, k2⟩ := hT
  have hv : (loadVar T ⟨g, 0, none⟩).run Try.prog w = .ok (.agg cs.toArray) w := run_loadVar_mid w g 0 _ cs d hr k1 k2 (by rw [h0, hl])
  simp [results, h, h4', asAddr, hv]

theorem set_split {α : Type} (l : List α) (i : Nat) (v : α) (h : i < l.length) : l.set i v = l.take i ++ [v] ++ l.drop (i + 1) := by
  rw [List.set_eq_take_append_cons_drop, if_pos h]
  simp

theorem range_puts {w : World} {q o : Nat} {cs vs : List Value} (h : w.rangeAt q 0 cs) (ht : w.there q 0 cs.length) (hl : o + vs.length ≤ cs.length) : (w.setCells q o vs).rangeAt q 0 (cs.take o ++ vs ++ cs.drop (o + vs.length)) := by
  have e : cs = cs.take o ++ ((cs.drop o).take vs.length ++ cs.drop (o + vs.length)) := by
    rw [← List.drop_drop, List.take_append_drop, List.take_append_drop]
  have h' := h
  rw [e] at h'
  have l1 : (cs.take o).length = o := by rw [List.length_take]; omega
  have l2 : ((cs.drop o).take vs.length).length = vs.length := by rw [List.length_take, List.length_drop]; omega
  have r1 := rangeAt_left h'
  have r2 := rangeAt_right (rangeAt_right h')
  rw [l1, l2, Nat.zero_add] at r2
  rw [List.append_assoc]
  refine app_rangeAt (World.rangeAt_setCells_apart r1 q o vs (.inr (.inl (by rw [l1]; omega)))) ?_
  rw [l1, Nat.zero_add]
  refine app_rangeAt (World.rangeAt_setCells_same w q o vs (fun j hj => ?_)) (World.rangeAt_setCells_apart r2 q o vs (.inr (.inr (by omega))))
  have := ht (o + j) (by omega)
  rw [Nat.zero_add] at this
  exact this

theorem there_new2 (w : World) (Z : Array Value) (ty : TypeId) : (w.alloc (.cells Z ty)).there w.heap.size 0 Z.size := fun j hj => by
  have hb : (w.alloc (.cells Z ty)).heap[w.heap.size]? = some (.cells Z ty (0, 0)) := Array.getElem?_push_size
  refine ⟨?_, frozen_of_row _ _ _ _ _ hb⟩
  rw [cell_of_row _ _ _ _ _ _ hb, Nat.zero_add, Array.getElem?_eq_getElem hj]
  rfl
end Go.Proofs.Ytkbboingeacgjaa
