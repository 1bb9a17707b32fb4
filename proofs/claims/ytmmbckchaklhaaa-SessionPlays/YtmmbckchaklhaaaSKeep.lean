/-
  Small functions of package session, walked: span, New, Broken, Waits; the buffer that is made once.
  keep of package session, walked: bytes laid behind those that wait.
-/
import Derived.Test.YtmmbckchaklhaaaSMem
import Derived.Laws.MakeOwn
import Derived.Deep.QuietTactic
import Derived.BigQuiet
import Derived.Deep.RegionWith
import Derived.BigRegion
import Derived.Deep.RegionHeld3
import Derived.Deep.Cut
import Derived.Laws.CopyRow
namespace Go.Proofs.Ytmmbckchaklhaaa.Se
open Go.RowKit Go.Maps

theorem or_i64 (a b : Nat) (ha : a < 4611686018427387904) (hb : b < 4611686018427387904) : bits .or .i64 (a : Int) (b : Int) = ((a ||| b : Nat) : Int) := by
  have hx : a ||| b < 2 ^ 62 := Nat.or_lt_two_pow (by omega) (by omega)
  show IntKind.i64.wrap ((BitVec.ofInt 64 (a : Int) ||| BitVec.ofInt 64 (b : Int)).toNat : Int) = _
  rw [BitVec.toNat_or, ofInt_u64 a (by omega), ofInt_u64 b (by omega), IntKind.wrap_i64]
  omega

theorem ret_int' {a b : Int} (h : a = b) : Ending.returned (.int .i64 a) = .returned (.int .i64 b) := by rw [h]

set_option maxRecDepth 100000 in
set_option maxHeartbeats 2000000 in
theorem span_any (w : World) (a : Option Addr) (c : Nat) (l : List Nat) (h : Byr w a c l) :
    Calls Try.prog 26 #[.slice a l.length c] w fun e w' => e = .returned (.int .i64 (span l : Nat)) ∧ ∃ m, w' = w.drewN m := by
  have hlc := h.lc
  have hcm := h.cm
  unfold maxLen at hcm
  by_cases h2 : l.length < 2
  · rw [span_short h2]
    clear h
    generalize l.length = n at *
    go_enter Try.func26, Try.ntmps26
    go_wp2_with fail
    go_ret
    exact ⟨rfl, 0, rfl⟩
  · obtain ⟨b, off, rfl, c0⟩ := h.bt.at (k := 0) (by omega)
    obtain ⟨b', off', e, c1⟩ := h.bt.at (k := 1) (by omega)
    obtain ⟨rfl, rfl⟩ : b = b' ∧ off = off' := by
      have := Option.some.inj e
      exact ⟨congrArg Addr.block this, congrArg Addr.off this⟩
    have y0 : l[0] < 256 := h.by8 _ (List.getElem_mem _)
    have y1 : l[1] < 256 := h.by8 _ (List.getElem_mem _)
    have e0 : l.getD 0 0 = l[0] := by rw [List.getD_eq_getElem?_getD, List.getElem?_eq_getElem (by omega)]; rfl
    have e1 : l.getD 1 0 = l[1] := by rw [List.getD_eq_getElem?_getD, List.getElem?_eq_getElem (by omega)]; rfl
    have hs : span l = if 512 < l[0] * 256 + l[1] then 2 else 2 + (l[0] * 256 + l[1]) := by
      unfold span
      rw [if_neg h2, e0, e1]
    rw [hs]
    clear hs e0 e1 h e
    rw [Nat.add_zero] at c0
    generalize l[0] = y at *
    generalize l[1] = z at *
    obtain ⟨n, hn⟩ : ∃ n, n = l.length := ⟨_, rfl⟩
    rw [← hn] at h2 hlc ⊢
    clear hn
    have hor : bits .or .i64 ((y : Int) * 256) (z : Int) = ((y * 256 + z : Nat) : Int) := by
      have := or_i64 (y * 256) z (by omega) (by omega)
      rw [shl_or y z y1] at this
      rw [← this]
      congr 1
    have hw0 : IntKind.i64.wrap ((y : Int) * 256) = (y : Int) * 256 := by rw [IntKind.wrap_i64]; omega
    have hb := lt_of_cell c0
    have hi0 : (0 : Int) < (n : Int) := by omega
    have hi1 : (1 : Int) < (n : Int) := by omega
    by_cases hbig : 512 < y * 256 + z
    · rw [if_pos hbig]
      go_enter Try.func26, Try.ntmps26
      go_wp2_with fail
      go_quiet (fail)
      go_wp2_with fail
      go_ret
      exact ⟨rfl, nq, rfl⟩
    · rw [if_neg hbig]
      go_enter Try.func26, Try.ntmps26
      go_wp2_with fail
      go_quiet (fail)
      go_wp2_with fail
      go_ret
      exact ⟨ret_int' (by omega), nq, rfl⟩

theorem cs_new (w : World) (g : Nat) (hg : g = w.heap.size) : Cs (w.alloc (.cells #[.int .u32 0, .int .i32 0, .int .u32 0, .slice none 0 0, .int .i64 0, .bool false] 68)) g 0 0 (.slice none 0 0) 0 false := by
  subst hg
  have hb : (w.alloc (.cells #[.int .u32 0, .int .i32 0, .int .u32 0, .slice none 0 0, .int .i64 0, .bool false] 68)).heap[w.heap.size]? = _ := Array.getElem?_push_size
  refine ⟨?_, ?_, ?_, ?_, ?_, fun o => ?_⟩
  all_goals first
    | (unfold World.cell?; rw [hb]; rfl)
    | (unfold World.frozen?; rw [hb]; simp)

set_option maxRecDepth 100000 in
set_option maxHeartbeats 1000000 in
theorem new_any (w : World) : Calls Try.prog 9 #[] w fun e w' => ∃ g, e = .returned (.pointer (some ⟨g, 0, none⟩)) ∧ w.heap.size ≤ g ∧ SessAt w' g none Ss.new ∧ Turn [] w w' := by
  have HS : Hid (SessAt (w.alloc (.cells #[.int .u32 0, .int .i32 0, .int .u32 0, .slice none 0 0, .int .i64 0, .bool false] 68)) w.heap.size none Ss.new) := ⟨new_ok, fun _ => ⟨cs_new w _ rfl, rfl⟩, fun h => by cases h⟩
  go_enter Try.func9, Try.ntmps9
  go_wp2_with fail
  go_ret
  exact ⟨_, rfl, Nat.le_refl _, HS.out, (Turn.refl [] w).alloc _⟩

set_option maxRecDepth 100000 in
set_option maxHeartbeats 1000000 in
theorem broken_any {w : World} {g : Nat} {mo : Option Nat} {s : Ss} (h : SessAt w g mo s) : Calls Try.prog 13 #[.pointer (some ⟨g, 0, none⟩)] w fun e w' => e = .returned (.bool s.br) ∧ w' = w := by
  obtain ⟨d, v, hC⟩ := h.cells
  have c5 := hC.c5
  have hg := hC.lt
  clear hC h
  generalize s.br = z at *
  go_enter Try.func13, Try.ntmps13
  go_wp2_with fail
  go_ret
  exact ⟨rfl, rfl⟩

set_option maxRecDepth 100000 in
set_option maxHeartbeats 1000000 in
theorem waits_any {w : World} {g : Nat} {mo : Option Nat} {s : Ss} (h : SessAt w g mo s) : Calls Try.prog 14 #[.pointer (some ⟨g, 0, none⟩)] w fun e w' => e = .returned (.int .i64 (s.ws.length : Nat)) ∧ w' = w := by
  obtain ⟨d, v, hC⟩ := h.cells
  have c4 := hC.c4
  have hg := hC.lt
  clear hC h
  generalize s.ws.length = n at *
  go_enter Try.func14, Try.ntmps14
  go_wp2_with fail
  go_ret
  exact ⟨rfl, rfl⟩

/-- The buffer, when it is made. -/
def zcells : Array Value := (List.replicate 514 (Value.int .u8 0)).toArray
theorem zcells_size : zcells.size = 514 := by unfold zcells; rw [List.size_toArray, List.length_replicate]
set_option maxRecDepth 100000 in
theorem make_buf (w : World) : (Instr.makeSlice 26 (.int .i64 514) (.int .i64 514)).run Try.prog w = .ok (.slice (some ⟨w.heap.size, 0, none⟩) 514 514) (w.alloc (.cells zcells 5)) := by
  obtain ⟨i0, hi, hz0, hz1, hz2⟩ := info_parts info5
  have h := run_make (P := Try.prog) w 26 5 i0 (.int .u8 0) Try.underlying26 hi hz0 .i64 .i64 514 514 (by omega) (by omega) (by rw [hz2]; decide) (by omega)
  have e : madeCells (Value.int .u8 0).cells ((514 : Int).toNat * i0.size) = zcells := by
    apply Array.toList_inj.1
    rw [show (Value.int .u8 0).cells = #[Value.int .u8 0] from rfl, toList_madeCells_one, hz1]
    rfl
  rw [h, e]
  rfl
theorem buf_new (w : World) : Buf (w.alloc (.cells zcells 5)) w.heap.size [] := by
  refine ⟨?_, fun j v hj => by simp at hj, by simp⟩
  have := there_new2 w zcells 5
  rwa [zcells_size] at this

set_option maxRecDepth 100000 in
set_option maxHeartbeats 2000000 in
theorem made_any {g x : Nat} {t : Int} {w : World} (hC : Cs w g 0 t (.slice none 0 0) 0 false) (hx : w.cell? ⟨x, 0, none⟩ = some (.pointer (some ⟨g, 0, none⟩))) (_hgx : g ≠ x) :
    Calls Try.prog 36 #[.pointer (some ⟨x, 0, none⟩)] w fun e w' => e = .returned (.tuple #[]) ∧ ∃ m, w.heap.size ≤ m ∧ Cs w' g 0 t (.slice (some ⟨m, 0, none⟩) 514 514) 0 false ∧ Buf w' m [] ∧ Turn [g] w w' := by
  have c3 := hC.c3
  have fz := hC.fz
  have hg := hC.lt
  have hxl := lt_of_cell hx
  have hmk := make_buf w.drew
  have hT1 : Turn [] w (w.drew.alloc (.cells zcells 5)) := ((Turn.refl [] w).drew).alloc _
  have hx1 : (w.drew.alloc (.cells zcells 5)).cell? ⟨x, 0, none⟩ = some (.pointer (some ⟨g, 0, none⟩)) := (hT1.cell (p := ⟨x, 0, none⟩) hxl (by simp)).trans hx
  have hC1 : Cs (w.drew.alloc (.cells zcells 5)) g 0 t (.slice none 0 0) 0 false := hC.of_block (hT1.block g hg (by simp))
  have HB1 : Hid (Buf (w.drew.alloc (.cells zcells 5)) w.heap.size []) := buf_new w.drew
  have hmk' : (Instr.makeSlice 26 (.int .i64 514) (.int .i64 514)).run Try.prog w.drew = .ok (.slice (some ⟨w.heap.size, 0, none⟩) 514 514) (w.drew.alloc (.cells zcells 5)) := hmk
  clear hmk
  have HT1 := hide hT1
  have HF : Hid (∃ m, w.heap.size ≤ m ∧ Cs ((w.drew.alloc (.cells zcells 5)).setCell ⟨g, 3, none⟩ (.slice (some ⟨w.heap.size, 0, none⟩) 514 514)) g 0 t (.slice (some ⟨m, 0, none⟩) 514 514) 0 false ∧ Buf ((w.drew.alloc (.cells zcells 5)).setCell ⟨g, 3, none⟩ (.slice (some ⟨w.heap.size, 0, none⟩) 514 514)) m [] ∧ Turn [g] w ((w.drew.alloc (.cells zcells 5)).setCell ⟨g, 3, none⟩ (.slice (some ⟨w.heap.size, 0, none⟩) 514 514))) :=
    ⟨w.heap.size, Nat.le_refl _, hC1.set3 _, HB1.out.of_block (Below.heap_setCell _ ⟨g, 3, none⟩ _ w.heap.size (fun e => by simp only at e; omega)) (by rw [World.size_setCell]; exact Nat.le_refl _), (hT1.mono (by simp)).setCell (by simp) _ _⟩
  have k3 := hC1.c3
  have kf := hC1.fz
  have hg1 := hC1.lt
  have hx1l := lt_of_cell hx1
  clear hT1 hC1 hC
  generalize w.drew.alloc (.cells zcells 5) = w1 at *
  go_enter Try.func36, Try.ntmps36
  go_wp2_with fail
  go_region_with (fail)
  all_goals
    go_end0
    exact ⟨rfl, HF.out⟩

set_option maxRecDepth 100000 in
set_option maxHeartbeats 2000000 in
theorem slow_any {g x : Nat} {w : World} (hC : Cs w g 0 0 (.slice none 0 0) 0 false) (hx : w.cell? ⟨x, 0, none⟩ = some (.pointer (some ⟨g, 0, none⟩))) (hgx : g ≠ x) :
    Calls Try.prog 40 #[.pointer (some ⟨g, 0, none⟩), .func (.func 36) #[] #[.pointer (some ⟨x, 0, none⟩)]] w fun e w' => e = .returned (.tuple #[]) ∧ ∃ m, w.heap.size ≤ m ∧ Cs w' g 1 0 (.slice (some ⟨m, 0, none⟩) 514 514) 0 false ∧ Buf w' m [] ∧ Turn [g] w w' := by
  have h0 := hC.c0
  have h1 := hC.c1
  have f0 := hC.fz 0
  have f1 := hC.fz 1
  have hg := hC.lt
  have hS1 := hC.set1 1
  have HT1 : Hid (Turn [g] w (w.setCell ⟨g, 1, none⟩ (.int .i32 1))) := (Turn.refl _ _).setCell (by simp) _ _
  have HX1 : Hid ((w.setCell ⟨g, 1, none⟩ (.int .i32 1)).cell? ⟨x, 0, none⟩ = some (.pointer (some ⟨g, 0, none⟩))) := (HT1.out.cell (p := ⟨x, 0, none⟩) (lt_of_cell hx) (by simp; exact fun e => hgx e.symm)).trans hx
  have HS1 := hide hS1
  have hl := run_call_load (P := Try.prog) Try.func43 (by kernel_rfl) (by kernel_rfl) (by kernel_rfl) .u32 (by kernel_rfl) hS1.c0
  have HC := hide (made_any HS1.out HX1.out hgx)
  clear hS1 hC hx
  have hnot : ∀ (x : Bool) (w : World), (Op.unary .not (.bool x)).run Try.prog w = .ok (.bool (!x)) w := fun _ _ => rfl
  go_enter_defers Try.func40, Try.ntmps40
  go_wp2_with (first | (go_at_call 44; refine (lock_free ⟨g, 1, none⟩ _ (by exact h1) (by exact f1)).mono ?_; rintro e w' ⟨rfl, rfl⟩) | (go_at_call 36; refine HC.out.mono ?_; rintro e w2 ⟨rfl, m, hm, hC2, hM2, hT2⟩) | (go_at_call 39; go_in))
  refine leaves_cons (f := 46) (args := #[.pointer (some ⟨g, 0, none⟩), .bool true]) (by simp) (by simp [go_sem]) ?_
  refine (store_deferred ⟨g, 0, none⟩ (.int .u32 0) .returning _ hC2.c0 (hC2.fz 0)).mono ?_
  rintro e u' w'' ⟨rfl, rfl, rfl⟩
  have hC3 : Cs (w2.setCell ⟨g, 0, none⟩ (.int .u32 1)).drew g 1 1 (.slice (some ⟨m, 0, none⟩) 514 514) 0 false := (hC2.set0 1).of_block rfl
  refine leaves_cons (f := 45) (args := #[.pointer (some ⟨g, 1, none⟩)]) (by simp [settle]) (by simp [go_sem]) ?_
  refine (unlock_deferred ⟨g, 1, none⟩ _ _ hC3.c1 (hC3.fz 1)).mono ?_
  rintro e u' w'' ⟨rfl, rfl, rfl⟩
  have hfin : ∃ m, w.heap.size ≤ m ∧ Cs (((w2.setCell ⟨g, 0, none⟩ (.int .u32 1)).drew).setCell ⟨g, 1, none⟩ (.int .i32 0)) g 1 0 (.slice (some ⟨m, 0, none⟩) 514 514) 0 false ∧ Buf (((w2.setCell ⟨g, 0, none⟩ (.int .u32 1)).drew).setCell ⟨g, 1, none⟩ (.int .i32 0)) m [] ∧ Turn [g] w (((w2.setCell ⟨g, 0, none⟩ (.int .u32 1)).drew).setCell ⟨g, 1, none⟩ (.int .i32 0)) := by
    have hm' : w.heap.size ≤ m := by have := HT1.out.size; omega
    refine ⟨m, hm', hC3.set1 0, ?_, (((HT1.out.trans hT2).setCell (by simp) 0 _).drew).setCell (by simp) 1 _⟩
    refine hM2.of_block ?_ ?_
    · rw [Below.heap_setCell _ ⟨g, 1, none⟩ _ m (fun e => by simp only at e; omega)]
      exact Below.heap_setCell w2 ⟨g, 0, none⟩ _ m (fun e => by simp only at e; omega)
    · rw [World.size_setCell]
      show w2.heap.size ≤ (w2.setCell ⟨g, 0, none⟩ (.int .u32 1)).heap.size
      rw [World.size_setCell]
      exact Nat.le_refl _
  simp [Leaves, settle, results, Try.results40]
  exact hfin

set_option maxRecDepth 100000 in
set_option maxHeartbeats 2000000 in
theorem do_first {g x : Nat} {w : World} (hC : Cs w g 0 0 (.slice none 0 0) 0 false) (hx : w.cell? ⟨x, 0, none⟩ = some (.pointer (some ⟨g, 0, none⟩))) (hgx : g ≠ x) :
    Calls Try.prog 35 #[.pointer (some ⟨g, 0, none⟩), .func (.func 36) #[] #[.pointer (some ⟨x, 0, none⟩)]] w fun e w' => e = .returned (.tuple #[]) ∧ ∃ m, w.heap.size ≤ m ∧ Cs w' g 1 0 (.slice (some ⟨m, 0, none⟩) 514 514) 0 false ∧ Buf w' m [] ∧ Turn [g] w w' := by
  have h0 := hC.c0
  have HC := hide (slow_any hC hx hgx)
  clear hC hx
  have hl := run_call_load (P := Try.prog) Try.func43 (by kernel_rfl) (by kernel_rfl) (by kernel_rfl) .u32 (by kernel_rfl) h0
  have hnot : ∀ (x : Bool) (w : World), (Op.unary .not (.bool x)).run Try.prog w = .ok (.bool (!x)) w := fun _ _ => rfl
  go_enter Try.func35, Try.ntmps35
  go_wp2_with (first | (go_at_call 40; refine HC.out.mono ?_; rintro e w' ⟨rfl, hE⟩) | (go_at_call 39; go_in))
  go_end0
  exact ⟨rfl, hE⟩

set_option maxRecDepth 100000 in
set_option maxHeartbeats 2000000 in
theorem do_done {g : Nat} (fv : Value) {w : World} (h0 : w.cell? ⟨g, 0, none⟩ = some (.int .u32 1)) :
    Calls Try.prog 35 #[.pointer (some ⟨g, 0, none⟩), fv] w fun e w' => e = .returned (.tuple #[]) ∧ w' = w := by
  have hl := run_call_load (P := Try.prog) Try.func43 (by kernel_rfl) (by kernel_rfl) (by kernel_rfl) .u32 (by kernel_rfl) h0
  have hnot : ∀ (x : Bool) (w : World), (Op.unary .not (.bool x)).run Try.prog w = .ok (.bool (!x)) w := fun _ _ => rfl
  go_enter Try.func35, Try.ntmps35
  go_wp2
  go_end0
  exact ⟨rfl, rfl⟩

end Go.Proofs.Ytmmbckchaklhaaa.Se

namespace Go.Proofs.Ytmmbckchaklhaaa.Se
open Go.RowKit Go.Maps

/-- 'copy' into the middle of a block. -/
theorem run_copy_mid {P : Program} (w : World) (dT sT ty elem : TypeId) (g o dLen dCap : Nat) (a : Addr) (sLen sCap size : Nat) (cs : List Value)
    (hu : P.underlying dT = some (.slice elem)) (hs : (P.info? elem).map (·.size) = some size) (hn : cs.length = Nat.min sLen dLen * size)
    (hsrc : ∀ j v, cs[j]? = some v → w.cell? (a.add j) = some v) (ht : w.there g o cs.length) (h1 : ∀ v ∈ cs, v.oneCell' = true) :
    (Builtin.copy_ #[dT, sT] ty #[.slice (some ⟨g, o, none⟩) dLen dCap, .slice (some a) sLen sCap]).run P w = .ok (goInt (Nat.min sLen dLen)) (w.setCells g o cs) := by
  have hl := run_loadCells_list (P := P) w a cs hsrc
  have hst := run_storeCells_cells (P := P) g o cs 0 w (fun j hj => by simpa using (ht j hj).1) (fun j hj => by simpa using (ht j hj).2) h1
  simp only [Nat.add_zero] at hst
  cases hq : P.info? elem with
  | none => simp [hq] at hs
  | some i =>
    have hi : i.size = size := by simpa [hq] using hs
    simp [Builtin.copy_, run_underlying hu, Builtin.lenOf, Builtin.firstCells, sizeOf, typeInfo, hq, hi, ← hn, hl, hst]

theorem size_byte : (Try.prog.info? 5).map (·.size) = some 1 := by kernel_rfl

theorem do_any {w : World} {g x : Nat} {mo : Option Nat} {ws : List Nat} (hL : Live w g mo ws) (hx : w.cell? ⟨x, 0, none⟩ = some (.pointer (some ⟨g, 0, none⟩))) (hgx : g ≠ x) :
    Calls Try.prog 35 #[.pointer (some ⟨g, 0, none⟩), .func (.func 36) #[] #[.pointer (some ⟨x, 0, none⟩)]] w fun e w' => e = .returned (.tuple #[]) ∧ ∃ m, Live w' g (some m) ws ∧ Went w mo (some m) ∧ Turn [g] w w' := by
  cases mo with
  | none =>
    obtain ⟨hC, rfl⟩ := hL
    refine (do_first hC hx hgx).mono ?_
    rintro e w' ⟨rfl, m, hm, hC', hB, hT⟩
    exact ⟨rfl, m, ⟨hC', by have := hC.lt; omega, hB⟩, .inr ⟨rfl, m, rfl, hm⟩, hT⟩
  | some m =>
    refine (do_done _ hL.1.c0).mono ?_
    rintro e w' ⟨rfl, rfl⟩
    exact ⟨rfl, m, hL, .inl rfl, Turn.refl _ _⟩

/-- What keep does to memory. -/
theorem kept_mem {w w' : World} {g m : Nat} {ws b : List Nat} (hL : Live w g (some m) ws) (hlen : ws.length + b.length ≤ 514) (hw : w' = (w.setCells m ws.length (b.map byteCell)).setCell ⟨g, 4, none⟩ (.int .i64 ((ws.length + b.length : Nat) : Int))) : Live w' g (some m) (ws ++ b) ∧ Turn (own g (some m)) w w' := by
  subst hw
  obtain ⟨hC, hmg, hB⟩ := hL
  have hl : (b.map byteCell).length = b.length := List.length_map ..
  have hC1 : Cs (w.setCells m ws.length (b.map byteCell)) g 1 0 (.slice (some ⟨m, 0, none⟩) 514 514) ws.length false := hC.of_block (heap_setCellsN m g (fun e => hmg e.symm) _ _ _)
  have hth : (w.setCells m ws.length (b.map byteCell)).there m 0 514 := World.there_setCells hB.th _ _ _
  have hrg : (w.setCells m ws.length (b.map byteCell)).rangeAt m 0 ((ws ++ b).map byteCell) := by
    rw [List.map_append]
    refine app_rangeAt (World.rangeAt_setCells_apart hB.rg m ws.length _ (.inr (.inl (by rw [List.length_map]; omega)))) ?_
    rw [List.length_map, Nat.zero_add]
    refine World.rangeAt_setCells_same w m ws.length _ fun j hj => ?_
    rw [hl] at hj
    have := hB.th (ws.length + j) (by omega)
    rwa [Nat.zero_add] at this
  have hbm : ((w.setCells m ws.length (b.map byteCell)).setCell ⟨g, 4, none⟩ (.int .i64 ((ws.length + b.length : Nat) : Int))).heap[m]? = (w.setCells m ws.length (b.map byteCell)).heap[m]? := Below.heap_setCell _ ⟨g, 4, none⟩ _ m hmg
  refine ⟨⟨by rw [List.length_append]; exact hC1.set4 _, hmg, ⟨there_blk hth hbm, rangeAt_keep hrg hbm, ?_⟩⟩, ?_⟩
  · rw [World.size_setCell, size_setCellsN]
    exact hB.lt
  · obtain ⟨r1, r2, r3⟩ := rest_setCellsN m (b.map byteCell) ws.length w
    have hT : Turn (own g (some m)) w (w.setCells m ws.length (b.map byteCell)) := ⟨r1, r2, r3, by rw [size_setCellsN]; exact Nat.le_refl _, fun i _ hn => heap_setCellsN m i (fun e => hn (own_iff.2 (.inr (by rw [e])))) _ _ _⟩
    exact hT.setCell (own_g _ _) _ _

set_option maxRecDepth 100000 in
set_option maxHeartbeats 4000000 in
theorem keep_any {w : World} {g : Nat} {mo : Option Nat} {ws : List Nat} (hL : Live w g mo ws) (a : Option Addr) (c : Nat) (b : List Nat) (hB : Byr w a c b) (hlen : ws.length + b.length ≤ 514) (hap : ∀ x, b ≠ [] → a = some x → x.block ∉ own g mo) :
    Calls Try.prog 27 #[.pointer (some ⟨g, 0, none⟩), .slice a b.length c] w fun e w' => e = .returned (.tuple #[]) ∧ ∃ mo', Live w' g mo' (ws ++ b) ∧ Went w mo mo' ∧ Turn (own g mo) w w' := by
  have hg := hL.lt
  by_cases hb : b = []
  · subst hb
    have HE : Hid (∃ mo', Live (w.alloc (.cells #[.pointer (some ⟨g, 0, none⟩)] 28)) g mo' (ws ++ []) ∧ Went w mo mo' ∧ Turn (own g mo) w (w.alloc (.cells #[.pointer (some ⟨g, 0, none⟩)] 28))) := ⟨mo, by rw [List.append_nil]; exact hL.turn0 ((Turn.refl [] w).alloc _), .inl rfl, (Turn.refl _ w).alloc _⟩
    clear hL hB
    go_enter Try.func27, Try.ntmps27
    go_wp2_with fail
    refine bodyPost_ret (v := .tuple #[]) (results_none rfl _ _ _) rfl ?_
    exact ⟨rfl, HE.out⟩
  · obtain ⟨bb, bo, rfl, hc0⟩ := hB.bt.at (k := 0) (List.length_pos_iff.2 hb)
    have hbb := lt_of_cell hc0
    have hne : bb ∉ own g mo := hap _ hb rfl
    have hbg : bb ≠ g := fun e => hne (by rw [e]; exact own_g _ _)
    have hlp := List.length_pos_iff.2 hb
    clear hc0
    obtain ⟨W, hW⟩ : ∃ W, W = w.alloc (.cells #[.pointer (some ⟨g, 0, none⟩)] 28) := ⟨_, rfl⟩
    have HTW : Hid (Turn [] w W) := by rw [hW]; exact (Turn.refl [] w).alloc _
    have hsW : W.heap.size = w.heap.size + 1 := by rw [hW]; simp
    have hxW : W.cell? ⟨w.heap.size, 0, none⟩ = some (.pointer (some ⟨g, 0, none⟩)) := by
      have hb : W.heap[w.heap.size]? = some (.cells #[.pointer (some ⟨g, 0, none⟩)] 28) := by rw [hW]; exact Array.getElem?_push_size
      unfold World.cell?; rw [hb]; rfl
    have HDo := hide (do_any (hL.turn0 HTW.out) hxW (by omega))
    have hmf : ∀ (fn : Fn) (first cap : Array Value) (w : World), (Instr.makeFunc fn first cap).run Try.prog w = .ok (.func fn first cap) w := fun _ _ _ _ => rfl
    have HB := hide hB
    have HM : Hid (∀ m, mo = some m → m < w.heap.size) := fun m e => by subst e; exact hL.ltm
    have HLn : Hid (b.length = b.length) := rfl
    have hcb := hB.lc
    have hcm := hB.cm
    unfold maxLen at hcm
    have hlz : ¬ ((b.length : Nat) : Int) = 0 := by omega
    obtain ⟨L, hLn⟩ : ∃ L, L = b.length := ⟨_, rfl⟩
    rw [← hLn] at hlen hlp hcb hlz ⊢
    have HL := hide hLn
    clear hLn hL hB HLn hap hb
    obtain ⟨x, hx⟩ : ∃ x, x = w.heap.size := ⟨_, rfl⟩
    rw [← hx] at hxW HDo hsW
    have HX := hide hx
    have hxl := lt_of_cell hxW
    have hgW : g < W.heap.size := by omega
    clear hx
    go_enter Try.func27, Try.ntmps27
    go_wp2_with fail
    rw [← hW, ← HX.out]
    refine HDo.out.mono ?_
    rintro e w1 ⟨rfl, m, hL1, hWn, hT1⟩
    have hx1 : w1.cell? ⟨x, 0, none⟩ = some (.pointer (some ⟨g, 0, none⟩)) := (hT1.cell (p := ⟨x, 0, none⟩) hxl (by have := HX.out; simp; omega)).trans hxW
    have hmx : m ≠ x := by
      rcases hWn with e | ⟨_, m', e, hm⟩
      · have := HM.out m e.symm
        have := HX.out
        omega
      · have := Option.some.inj e
        omega
    have HTa : Hid (Turn (own g mo) w w1) := (HTW.out.mono (by simp)).trans (hT1.mono (fun k hk => by rw [List.mem_singleton.1 hk]; exact own_g _ _))
    have HWn : Hid (Went w mo (some m)) := by
      have := HX.out
      rcases hWn with e | ⟨e, m', e', hm⟩
      · exact .inl e
      · exact .inr ⟨e, m', e', by omega⟩
    have hbm : bb ≠ m := by
      intro e
      rcases hWn with e' | ⟨_, m', e', hm⟩
      · exact hne (own_iff.2 (.inr (by rw [← e', e])))
      · have := Option.some.inj e'
        have := HX.out
        omega
    have hB1 : BytesAt w1 (some ⟨bb, bo, none⟩) b := (HB.out.bt.turn HTW.out (by simp)).turn hT1 (fun y _ e => by have := Option.some.inj e; subst this; simpa using hbg)
    have c3 := hL1.1.c3
    have c4 := hL1.1.c4
    have hf4 := hL1.1.fz 4
    have hg1 := hL1.1.lt
    have hx1l := lt_of_cell hx1
    have hcp : ∀ ty, (Builtin.copy_ #[26, 26] ty #[.slice (some ⟨m, ws.length, none⟩) (514 - ws.length) (514 - ws.length), .slice (some ⟨bb, bo, none⟩) L c]).run Try.prog w1.drew = .ok (goInt L) (w1.drew.setCells m ws.length (b.map byteCell)) := fun ty => by
      have hmn : Nat.min L (514 - ws.length) = L := Nat.min_eq_left (by omega)
      have := run_copy_mid (P := Try.prog) w1.drew 26 26 ty 5 m ws.length (514 - ws.length) (514 - ws.length) ⟨bb, bo, none⟩ L c 1 (b.map byteCell) Try.underlying26 size_byte (by rw [hmn, List.length_map, HL.out, Nat.mul_one]) (src_bytes hB1) (fun j hj => by
        rw [List.length_map, ← HL.out] at hj
        have := hL1.2.2.th (ws.length + j) (by omega)
        rwa [Nat.zero_add] at this) (src_one b)
      rwa [hmn] at this
    have hsl : ∀ u : World, (Instr.slice 26 (.slice (some ⟨m, 0, none⟩) 514 514) (some (.int .i64 (ws.length : Nat))) none none).run Try.prog u = .ok (.slice (some ⟨m, ws.length, none⟩) (514 - ws.length) (514 - ws.length)) u := fun u => by
      rw [slice_hi (some ⟨m, 0, none⟩) 514 514 ws.length u (by omega)]
      unfold hiA
      rw [if_neg (by omega), Option.map_some, Addr.add_mid, Nat.zero_add, Nat.mul_one]
    have hK := kept_mem (w := w1.drew) (b := b) (w' := (w1.drew.setCells m ws.length (b.map byteCell)).setCell ⟨g, 4, none⟩ (.int .i64 ((ws.length + b.length : Nat) : Int))) (hL1.turn0 (Turn.refl [] w1).drew) (by rw [← HL.out]; exact hlen) rfl
    rw [← HL.out] at hK
    have HE : Hid (∃ mo', Live ((w1.drew.setCells m ws.length (b.map byteCell)).setCell ⟨g, 4, none⟩ (.int .i64 ((ws.length + L : Nat) : Int))) g mo' (ws ++ b) ∧ Went w mo mo' ∧ Turn (own g mo) w ((w1.drew.setCells m ws.length (b.map byteCell)).setCell ⟨g, 4, none⟩ (.int .i64 ((ws.length + L : Nat) : Int)))) := ⟨some m, hK.1, HWn.out, HWn.out.turn HTa.out ⟨hK.2.os, hK.2.tape, hK.2.output, hK.2.size, hK.2.block⟩⟩
    have hmg := hL1.2.1
    have k4 : (w1.drew.setCells m ws.length (b.map byteCell)).cell? ⟨g, 4, none⟩ = some (.int .i64 (ws.length : Nat)) := (World.cell?_of_block (a := ⟨g, 4, none⟩) (heap_setCellsN m g (fun e => hmg e.symm) _ _ w1.drew)).trans c4
    have kx : (w1.drew.setCells m ws.length (b.map byteCell)).cell? ⟨x, 0, none⟩ = some (.pointer (some ⟨g, 0, none⟩)) := (World.cell?_of_block (a := ⟨x, 0, none⟩) (heap_setCellsN m x (fun e => hmx e.symm) _ _ w1.drew)).trans hx1
    have k3 : (w1.drew.setCells m ws.length (b.map byteCell)).cell? ⟨g, 3, none⟩ = some (.slice (some ⟨m, 0, none⟩) 514 514) := (World.cell?_of_block (a := ⟨g, 3, none⟩) (heap_setCellsN m g (fun e => hmg e.symm) _ _ w1.drew)).trans c3
    have kf : (w1.drew.setCells m ws.length (b.map byteCell)).frozen? ⟨g, 4, none⟩ = false := (World.frozen?_of_block (a := ⟨g, 4, none⟩) (heap_setCellsN m g (fun e => hmg e.symm) _ _ w1.drew)).trans hf4
    have hg2 := lt_of_cell k4
    have hx2 := lt_of_cell kx
    have hcp' : ∀ ty, (Builtin.copy_ #[26, 26] ty #[.slice (some ⟨m, ws.length, none⟩) (514 - ws.length) (514 - ws.length), .slice (some ⟨bb, bo, none⟩) L c]).run Try.prog w1.drew = .ok (.int .i64 (L : Nat)) (w1.drew.setCells m ws.length (b.map byteCell)) := hcp
    have hwr : IntKind.i64.wrap ((ws.length : Int) + (L : Int)) = ((ws.length + L : Nat) : Int) := by rw [IntKind.wrap_i64]; omega
    clear hL1 hWn hT1 hB1 hK hcp HDo HB HTW HM hW
    obtain ⟨n, hn⟩ : ∃ n, ws.length = n := ⟨_, rfl⟩
    rw [hn] at c4 hcp' hsl HE k4 kx k3 kf hg2 hx2 hwr hlen
    clear hn
    generalize w1.drew.setCells m n (b.map byteCell) = w2 at *
    have hxg : x ≠ g := by have := HX.out; omega
    have ks : (w2.setCell ⟨g, 4, none⟩ (.int .i64 ((n + L : Nat) : Int))).cell? ⟨x, 0, none⟩ = some (.pointer (some ⟨g, 0, none⟩)) := (World.cell?_of_block (a := ⟨x, 0, none⟩) (Below.heap_setCell w2 ⟨g, 4, none⟩ _ x hxg)).trans kx
    have k3s : (w2.setCell ⟨g, 4, none⟩ (.int .i64 ((n + L : Nat) : Int))).cell? ⟨g, 3, none⟩ = some (.slice (some ⟨m, 0, none⟩) 514 514) := (World.cell?_setCell_other _ _ _ _ (off_ne (by omega))).trans k3
    go_upto_region 3 with fail
    refine wp_region_noPanic ?_
    refine wp_region_held_drew (S := fun w' => w'.cell? ⟨x, 0, none⟩ = some (.pointer (some ⟨g, 0, none⟩)) ∧ w'.cell? ⟨g, 3, none⟩ = some (.slice (some ⟨m, 0, none⟩) 514 514)) (by kernel_rfl) ⟨hx1, c3⟩ (fun hHeld => ?_)
    refine' wpAnyH_take (i := 0) (oi := { dst := some 12, op := Go.Op.load 28 (Go.Operand.tmp 2), type := 28, pos := "session.go:91", after := #[], guard := none }) (v := _) rfl (by kernel_rfl) (by kernel_rfl) (by kernel_rfl) (fun _ _ _ h => h) (Or.inl ⟨by rfl, ?_⟩) (by assumption) ?_
    rotate_left
    · intro w hSw; (try dsimp only at hSw); obtain ⟨q0, q1⟩ := hSw; go_simp <;> with_reducible rfl
    simp only [Act.put, List.setIfInBounds_toArray, List.set_cons_zero, List.set_cons_succ]
    refine' wpAnyH_take (i := 1) (oi := { dst := some 13, op := Go.Op.nilCheck (Go.Operand.tmp 12), type := 0, pos := "session.go:91", after := #[{ on := 0, ground := Go.Ground.data }], guard := none }) (v := _) rfl (by kernel_rfl) (by kernel_rfl) (by kernel_rfl) (fun _ _ _ h => h) (Or.inl ⟨by rfl, ?_⟩) (by assumption) ?_
    rotate_left
    · intro w hSw; (try dsimp only at hSw); obtain ⟨q0, q1⟩ := hSw; go_simp <;> with_reducible rfl
    simp only [Act.put, List.setIfInBounds_toArray, List.set_cons_zero, List.set_cons_succ]
    refine' wpAnyH_take (i := 2) (oi := { dst := some 14, op := Go.Op.fieldAddr 68 (Go.Operand.tmp 13) 2, type := 0, pos := "session.go:91", after := #[{ on := 1, ground := Go.Ground.data }], guard := none }) (v := _) rfl (by kernel_rfl) (by kernel_rfl) (by kernel_rfl) (fun _ _ _ h => h) (Or.inl ⟨by rfl, ?_⟩) (by assumption) ?_
    rotate_left
    · intro w hSw; (try dsimp only at hSw); obtain ⟨q0, q1⟩ := hSw; go_simp <;> with_reducible rfl
    simp only [Act.put, List.setIfInBounds_toArray, List.set_cons_zero, List.set_cons_succ]
    refine' wpAnyH_take (i := 4) (oi := { dst := some 16, op := Go.Op.load 28 (Go.Operand.tmp 2), type := 28, pos := "session.go:91", after := #[], guard := none }) (v := _) rfl (by kernel_rfl) (by kernel_rfl) (by kernel_rfl) (fun _ _ _ h => h) (Or.inl ⟨by rfl, ?_⟩) (by assumption) ?_
    rotate_left
    · intro w hSw; (try dsimp only at hSw); obtain ⟨q0, q1⟩ := hSw; go_simp <;> with_reducible rfl
    simp only [Act.put, List.setIfInBounds_toArray, List.set_cons_zero, List.set_cons_succ]
    refine' wpAnyH_take (i := 5) (oi := { dst := some 17, op := Go.Op.nilCheck (Go.Operand.tmp 16), type := 0, pos := "session.go:91", after := #[{ on := 4, ground := Go.Ground.data }], guard := none }) (v := _) rfl (by kernel_rfl) (by kernel_rfl) (by kernel_rfl) (fun _ _ _ h => h) (Or.inl ⟨by rfl, ?_⟩) (by assumption) ?_
    rotate_left
    · intro w hSw; (try dsimp only at hSw); obtain ⟨q0, q1⟩ := hSw; go_simp <;> with_reducible rfl
    simp only [Act.put, List.setIfInBounds_toArray, List.set_cons_zero, List.set_cons_succ]
    refine' wpAnyH_take (i := 6) (oi := { dst := some 18, op := Go.Op.fieldAddr 68 (Go.Operand.tmp 17) 1, type := 0, pos := "session.go:91", after := #[{ on := 5, ground := Go.Ground.data }], guard := none }) (v := _) rfl (by kernel_rfl) (by kernel_rfl) (by kernel_rfl) (fun _ _ _ h => h) (Or.inl ⟨by rfl, ?_⟩) (by assumption) ?_
    rotate_left
    · intro w hSw; (try dsimp only at hSw); obtain ⟨q0, q1⟩ := hSw; go_simp <;> with_reducible rfl
    simp only [Act.put, List.setIfInBounds_toArray, List.set_cons_zero, List.set_cons_succ]
    refine' wpAnyH_take (i := 7) (oi := { dst := some 19, op := Go.Op.load 26 (Go.Operand.tmp 18), type := 26, pos := "session.go:91", after := #[{ on := 6, ground := Go.Ground.data }], guard := none }) (v := _) rfl (by kernel_rfl) (by kernel_rfl) (by kernel_rfl) (fun _ _ _ h => h) (Or.inl ⟨by rfl, ?_⟩) (by assumption) ?_
    rotate_left
    · intro w hSw; (try dsimp only at hSw); obtain ⟨q0, q1⟩ := hSw; go_simp <;> with_reducible rfl
    simp only [Act.put, List.setIfInBounds_toArray, List.set_cons_zero, List.set_cons_succ]
    refine' wpAnyH_take (i := 8) (oi := { dst := some 20, op := Go.Op.load 28 (Go.Operand.tmp 2), type := 28, pos := "session.go:91", after := #[], guard := none }) (v := _) rfl (by kernel_rfl) (by kernel_rfl) (by kernel_rfl) (fun _ _ _ h => h) (Or.inl ⟨by rfl, ?_⟩) (by assumption) ?_
    rotate_left
    · intro w hSw; (try dsimp only at hSw); obtain ⟨q0, q1⟩ := hSw; go_simp <;> with_reducible rfl
    simp only [Act.put, List.setIfInBounds_toArray, List.set_cons_zero, List.set_cons_succ]
    refine' wpAnyH_take (i := 9) (oi := { dst := some 21, op := Go.Op.nilCheck (Go.Operand.tmp 20), type := 0, pos := "session.go:91", after := #[{ on := 8, ground := Go.Ground.data }], guard := none }) (v := _) rfl (by kernel_rfl) (by kernel_rfl) (by kernel_rfl) (fun _ _ _ h => h) (Or.inl ⟨by rfl, ?_⟩) (by assumption) ?_
    rotate_left
    · intro w hSw; (try dsimp only at hSw); obtain ⟨q0, q1⟩ := hSw; go_simp <;> with_reducible rfl
    simp only [Act.put, List.setIfInBounds_toArray, List.set_cons_zero, List.set_cons_succ]
    refine' wpAnyH_take (i := 10) (oi := { dst := some 22, op := Go.Op.fieldAddr 68 (Go.Operand.tmp 21) 2, type := 0, pos := "session.go:91", after := #[{ on := 9, ground := Go.Ground.data }], guard := none }) (v := _) rfl (by kernel_rfl) (by kernel_rfl) (by kernel_rfl) (fun _ _ _ h => h) (Or.inl ⟨by rfl, ?_⟩) (by assumption) ?_
    rotate_left
    · intro w hSw; (try dsimp only at hSw); obtain ⟨q0, q1⟩ := hSw; go_simp <;> with_reducible rfl
    simp only [Act.put, List.setIfInBounds_toArray, List.set_cons_zero, List.set_cons_succ]
    refine' wpAnyH_take (i := 13) (oi := { dst := some 25, op := Go.Op.move (Go.Operand.tmp 1), type := 26, pos := "session.go:91", after := #[], guard := none }) (v := _) rfl (by kernel_rfl) (by kernel_rfl) (by kernel_rfl) (fun _ _ _ h => h) (Or.inl ⟨by rfl, ?_⟩) (by assumption) ?_
    rotate_left
    · intro w hSw; (try dsimp only at hSw); obtain ⟨q0, q1⟩ := hSw; go_simp <;> with_reducible rfl
    simp only [Act.put, List.setIfInBounds_toArray, List.set_cons_zero, List.set_cons_succ]
    refine wpAnyH_ready (rs := [3, 11]) (by kernel_rfl) (by simp) ?_
    refine AllReadyH.cons rfl (fun K hK => ?_) (AllReadyH.cons rfl (fun K hK => ?_) (AllReadyH.nil))
    · go_simp
      go_wp2_with fail
      refine hK.out _ _ ⟨hx1, c3⟩ (fun hHeld => ?_)
      clear hK K
      try simp only [Act.put, List.setIfInBounds_toArray, List.set_cons_zero, List.set_cons_succ]
      refine wpAnyH_ready (rs := [11]) (by kernel_rfl) (by simp) ?_
      refine AllReadyH.cons rfl (fun K hK => ?_) (AllReadyH.nil)
      go_simp
      go_wp2_with fail
      refine hK.out _ _ ⟨hx1, c3⟩ (fun hHeld => ?_)
      clear hK K
      try simp only [Act.put, List.setIfInBounds_toArray, List.set_cons_zero, List.set_cons_succ]
      refine' wpAnyH_take (i := 12) (oi := { dst := some 24, op := Go.Op.slice 26 (Go.Operand.tmp 19) (some (Go.Operand.tmp 23)) none none, type := 26, pos := "session.go:91", after := #[{ on := 7, ground := Go.Ground.data }, { on := 11, ground := Go.Ground.data }], guard := none }) (v := .slice (some ⟨m, n, none⟩) (514 - n) (514 - n)) rfl (by kernel_rfl) (by kernel_rfl) (by kernel_rfl) (fun _ _ _ h => h) (Or.inl ⟨by rfl, ?_⟩) (by assumption) ?_
      · intro w hSw; go_simp
      simp only [Act.put, List.setIfInBounds_toArray, List.set_cons_zero, List.set_cons_succ]
      refine wpAnyH_ready (rs := [14]) (by kernel_rfl) (by simp) ?_
      refine AllReadyH.cons rfl (fun K hK => ?_) (AllReadyH.nil)
      go_simp
      go_wp2_with fail
      refine hK.out _ _ ⟨kx, k3⟩ (fun hHeld => ?_)
      clear hK K
      try simp only [Act.put, List.setIfInBounds_toArray, List.set_cons_zero, List.set_cons_succ]
      refine' wpAnyH_take (i := 15) (oi := { dst := some 27, op := Go.Op.binOp Go.BinOp.add 3 (Go.Operand.tmp 15) (Go.Operand.tmp 26) 3, type := 3, pos := "session.go:91", after := #[{ on := 3, ground := Go.Ground.data }, { on := 14, ground := Go.Ground.data }], guard := none }) (v := .int .i64 ((n + L : Nat) : Int)) rfl (by kernel_rfl) (by kernel_rfl) (by kernel_rfl) (fun _ _ _ h => h) (Or.inl ⟨by rfl, ?_⟩) (by assumption) ?_
      · intro w hSw; go_simp <;> omega
      simp only [Act.put, List.setIfInBounds_toArray, List.set_cons_zero, List.set_cons_succ]
      refine' wpAnyH_take (i := 16) (oi := { dst := some 28, op := Go.Op.nilCheck (Go.Operand.tmp 12), type := 0, pos := "session.go:91", after := #[{ on := 0, ground := Go.Ground.data }, { on := 0, ground := Go.Ground.phase }, { on := 1, ground := Go.Ground.phase }, { on := 2, ground := Go.Ground.phase }, { on := 3, ground := Go.Ground.phase }, { on := 4, ground := Go.Ground.phase }, { on := 5, ground := Go.Ground.phase }, { on := 6, ground := Go.Ground.phase }, { on := 7, ground := Go.Ground.phase }, { on := 8, ground := Go.Ground.phase }, { on := 9, ground := Go.Ground.phase }, { on := 10, ground := Go.Ground.phase }, { on := 11, ground := Go.Ground.phase }, { on := 12, ground := Go.Ground.phase }, { on := 13, ground := Go.Ground.phase }, { on := 14, ground := Go.Ground.phase }, { on := 15, ground := Go.Ground.phase }], guard := none }) (v := _) rfl (by kernel_rfl) (by kernel_rfl) (by kernel_rfl) (fun _ _ _ h => h) (Or.inl ⟨by rfl, ?_⟩) (by assumption) ?_
      rotate_left
      · intro w hSw; (try dsimp only at hSw); obtain ⟨q0, q1⟩ := hSw; go_simp <;> with_reducible rfl
      simp only [Act.put, List.setIfInBounds_toArray, List.set_cons_zero, List.set_cons_succ]
      refine' wpAnyH_take (i := 17) (oi := { dst := some 29, op := Go.Op.fieldAddr 68 (Go.Operand.tmp 28) 2, type := 0, pos := "session.go:91", after := #[{ on := 16, ground := Go.Ground.data }, { on := 0, ground := Go.Ground.phase }, { on := 1, ground := Go.Ground.phase }, { on := 2, ground := Go.Ground.phase }, { on := 3, ground := Go.Ground.phase }, { on := 4, ground := Go.Ground.phase }, { on := 5, ground := Go.Ground.phase }, { on := 6, ground := Go.Ground.phase }, { on := 7, ground := Go.Ground.phase }, { on := 8, ground := Go.Ground.phase }, { on := 9, ground := Go.Ground.phase }, { on := 10, ground := Go.Ground.phase }, { on := 11, ground := Go.Ground.phase }, { on := 12, ground := Go.Ground.phase }, { on := 13, ground := Go.Ground.phase }, { on := 14, ground := Go.Ground.phase }, { on := 15, ground := Go.Ground.phase }], guard := none }) (v := _) rfl (by kernel_rfl) (by kernel_rfl) (by kernel_rfl) (fun _ _ _ h => h) (Or.inl ⟨by rfl, ?_⟩) (by assumption) ?_
      rotate_left
      · intro w hSw; (try dsimp only at hSw); obtain ⟨q0, q1⟩ := hSw; go_simp <;> with_reducible rfl
      simp only [Act.put, List.setIfInBounds_toArray, List.set_cons_zero, List.set_cons_succ]
      refine wpAnyH_ready (rs := [18]) (by kernel_rfl) (by simp) ?_
      refine AllReadyH.cons rfl (fun K hK => ?_) (AllReadyH.nil)
      go_simp
      go_wp2_with fail
      refine hK.out _ _ ⟨ks, k3s⟩ (fun hHeld => ?_)
      clear hK K
      try simp only [Act.put, List.setIfInBounds_toArray, List.set_cons_zero, List.set_cons_succ]
      refine wpAnyH_done (by kernel_rfl) ?_ _
      refine NoPanic.normal ?_
      go_end0
      exact ⟨rfl, HE.out⟩
    · go_simp
      go_wp2_with fail
      refine hK.out _ _ ⟨hx1, c3⟩ (fun hHeld => ?_)
      clear hK K
      try simp only [Act.put, List.setIfInBounds_toArray, List.set_cons_zero, List.set_cons_succ]
      refine' wpAnyH_take (i := 12) (oi := { dst := some 24, op := Go.Op.slice 26 (Go.Operand.tmp 19) (some (Go.Operand.tmp 23)) none none, type := 26, pos := "session.go:91", after := #[{ on := 7, ground := Go.Ground.data }, { on := 11, ground := Go.Ground.data }], guard := none }) (v := .slice (some ⟨m, n, none⟩) (514 - n) (514 - n)) rfl (by kernel_rfl) (by kernel_rfl) (by kernel_rfl) (fun _ _ _ h => h) (Or.inl ⟨by rfl, ?_⟩) (by assumption) ?_
      · intro w hSw; go_simp
      simp only [Act.put, List.setIfInBounds_toArray, List.set_cons_zero, List.set_cons_succ]
      refine wpAnyH_ready (rs := [3, 14]) (by kernel_rfl) (by simp) ?_
      refine AllReadyH.cons rfl (fun K hK => ?_) (AllReadyH.cons rfl (fun K hK => ?_) (AllReadyH.nil))
      · go_simp
        go_wp2_with fail
        refine hK.out _ _ ⟨hx1, c3⟩ (fun hHeld => ?_)
        clear hK K
        try simp only [Act.put, List.setIfInBounds_toArray, List.set_cons_zero, List.set_cons_succ]
        refine wpAnyH_ready (rs := [14]) (by kernel_rfl) (by simp) ?_
        refine AllReadyH.cons rfl (fun K hK => ?_) (AllReadyH.nil)
        go_simp
        go_wp2_with fail
        refine hK.out _ _ ⟨kx, k3⟩ (fun hHeld => ?_)
        clear hK K
        try simp only [Act.put, List.setIfInBounds_toArray, List.set_cons_zero, List.set_cons_succ]
        refine' wpAnyH_take (i := 15) (oi := { dst := some 27, op := Go.Op.binOp Go.BinOp.add 3 (Go.Operand.tmp 15) (Go.Operand.tmp 26) 3, type := 3, pos := "session.go:91", after := #[{ on := 3, ground := Go.Ground.data }, { on := 14, ground := Go.Ground.data }], guard := none }) (v := .int .i64 ((n + L : Nat) : Int)) rfl (by kernel_rfl) (by kernel_rfl) (by kernel_rfl) (fun _ _ _ h => h) (Or.inl ⟨by rfl, ?_⟩) (by assumption) ?_
        · intro w hSw; go_simp <;> omega
        simp only [Act.put, List.setIfInBounds_toArray, List.set_cons_zero, List.set_cons_succ]
        refine' wpAnyH_take (i := 16) (oi := { dst := some 28, op := Go.Op.nilCheck (Go.Operand.tmp 12), type := 0, pos := "session.go:91", after := #[{ on := 0, ground := Go.Ground.data }, { on := 0, ground := Go.Ground.phase }, { on := 1, ground := Go.Ground.phase }, { on := 2, ground := Go.Ground.phase }, { on := 3, ground := Go.Ground.phase }, { on := 4, ground := Go.Ground.phase }, { on := 5, ground := Go.Ground.phase }, { on := 6, ground := Go.Ground.phase }, { on := 7, ground := Go.Ground.phase }, { on := 8, ground := Go.Ground.phase }, { on := 9, ground := Go.Ground.phase }, { on := 10, ground := Go.Ground.phase }, { on := 11, ground := Go.Ground.phase }, { on := 12, ground := Go.Ground.phase }, { on := 13, ground := Go.Ground.phase }, { on := 14, ground := Go.Ground.phase }, { on := 15, ground := Go.Ground.phase }], guard := none }) (v := _) rfl (by kernel_rfl) (by kernel_rfl) (by kernel_rfl) (fun _ _ _ h => h) (Or.inl ⟨by rfl, ?_⟩) (by assumption) ?_
        rotate_left
        · intro w hSw; (try dsimp only at hSw); obtain ⟨q0, q1⟩ := hSw; go_simp <;> with_reducible rfl
        simp only [Act.put, List.setIfInBounds_toArray, List.set_cons_zero, List.set_cons_succ]
        refine' wpAnyH_take (i := 17) (oi := { dst := some 29, op := Go.Op.fieldAddr 68 (Go.Operand.tmp 28) 2, type := 0, pos := "session.go:91", after := #[{ on := 16, ground := Go.Ground.data }, { on := 0, ground := Go.Ground.phase }, { on := 1, ground := Go.Ground.phase }, { on := 2, ground := Go.Ground.phase }, { on := 3, ground := Go.Ground.phase }, { on := 4, ground := Go.Ground.phase }, { on := 5, ground := Go.Ground.phase }, { on := 6, ground := Go.Ground.phase }, { on := 7, ground := Go.Ground.phase }, { on := 8, ground := Go.Ground.phase }, { on := 9, ground := Go.Ground.phase }, { on := 10, ground := Go.Ground.phase }, { on := 11, ground := Go.Ground.phase }, { on := 12, ground := Go.Ground.phase }, { on := 13, ground := Go.Ground.phase }, { on := 14, ground := Go.Ground.phase }, { on := 15, ground := Go.Ground.phase }], guard := none }) (v := _) rfl (by kernel_rfl) (by kernel_rfl) (by kernel_rfl) (fun _ _ _ h => h) (Or.inl ⟨by rfl, ?_⟩) (by assumption) ?_
        rotate_left
        · intro w hSw; (try dsimp only at hSw); obtain ⟨q0, q1⟩ := hSw; go_simp <;> with_reducible rfl
        simp only [Act.put, List.setIfInBounds_toArray, List.set_cons_zero, List.set_cons_succ]
        refine wpAnyH_ready (rs := [18]) (by kernel_rfl) (by simp) ?_
        refine AllReadyH.cons rfl (fun K hK => ?_) (AllReadyH.nil)
        go_simp
        go_wp2_with fail
        refine hK.out _ _ ⟨ks, k3s⟩ (fun hHeld => ?_)
        clear hK K
        try simp only [Act.put, List.setIfInBounds_toArray, List.set_cons_zero, List.set_cons_succ]
        refine wpAnyH_done (by kernel_rfl) ?_ _
        refine NoPanic.normal ?_
        go_end0
        exact ⟨rfl, HE.out⟩
      · go_simp
        go_wp2_with fail
        refine hK.out _ _ ⟨kx, k3⟩ (fun hHeld => ?_)
        clear hK K
        try simp only [Act.put, List.setIfInBounds_toArray, List.set_cons_zero, List.set_cons_succ]
        refine wpAnyH_ready (rs := [3]) (by kernel_rfl) (by simp) ?_
        refine AllReadyH.cons rfl (fun K hK => ?_) (AllReadyH.nil)
        go_simp
        go_wp2_with fail
        refine hK.out _ _ ⟨kx, k3⟩ (fun hHeld => ?_)
        clear hK K
        try simp only [Act.put, List.setIfInBounds_toArray, List.set_cons_zero, List.set_cons_succ]
        refine' wpAnyH_take (i := 15) (oi := { dst := some 27, op := Go.Op.binOp Go.BinOp.add 3 (Go.Operand.tmp 15) (Go.Operand.tmp 26) 3, type := 3, pos := "session.go:91", after := #[{ on := 3, ground := Go.Ground.data }, { on := 14, ground := Go.Ground.data }], guard := none }) (v := .int .i64 ((n + L : Nat) : Int)) rfl (by kernel_rfl) (by kernel_rfl) (by kernel_rfl) (fun _ _ _ h => h) (Or.inl ⟨by rfl, ?_⟩) (by assumption) ?_
        · intro w hSw; go_simp <;> omega
        simp only [Act.put, List.setIfInBounds_toArray, List.set_cons_zero, List.set_cons_succ]
        refine' wpAnyH_take (i := 16) (oi := { dst := some 28, op := Go.Op.nilCheck (Go.Operand.tmp 12), type := 0, pos := "session.go:91", after := #[{ on := 0, ground := Go.Ground.data }, { on := 0, ground := Go.Ground.phase }, { on := 1, ground := Go.Ground.phase }, { on := 2, ground := Go.Ground.phase }, { on := 3, ground := Go.Ground.phase }, { on := 4, ground := Go.Ground.phase }, { on := 5, ground := Go.Ground.phase }, { on := 6, ground := Go.Ground.phase }, { on := 7, ground := Go.Ground.phase }, { on := 8, ground := Go.Ground.phase }, { on := 9, ground := Go.Ground.phase }, { on := 10, ground := Go.Ground.phase }, { on := 11, ground := Go.Ground.phase }, { on := 12, ground := Go.Ground.phase }, { on := 13, ground := Go.Ground.phase }, { on := 14, ground := Go.Ground.phase }, { on := 15, ground := Go.Ground.phase }], guard := none }) (v := _) rfl (by kernel_rfl) (by kernel_rfl) (by kernel_rfl) (fun _ _ _ h => h) (Or.inl ⟨by rfl, ?_⟩) (by assumption) ?_
        rotate_left
        · intro w hSw; (try dsimp only at hSw); obtain ⟨q0, q1⟩ := hSw; go_simp <;> with_reducible rfl
        simp only [Act.put, List.setIfInBounds_toArray, List.set_cons_zero, List.set_cons_succ]
        refine' wpAnyH_take (i := 17) (oi := { dst := some 29, op := Go.Op.fieldAddr 68 (Go.Operand.tmp 28) 2, type := 0, pos := "session.go:91", after := #[{ on := 16, ground := Go.Ground.data }, { on := 0, ground := Go.Ground.phase }, { on := 1, ground := Go.Ground.phase }, { on := 2, ground := Go.Ground.phase }, { on := 3, ground := Go.Ground.phase }, { on := 4, ground := Go.Ground.phase }, { on := 5, ground := Go.Ground.phase }, { on := 6, ground := Go.Ground.phase }, { on := 7, ground := Go.Ground.phase }, { on := 8, ground := Go.Ground.phase }, { on := 9, ground := Go.Ground.phase }, { on := 10, ground := Go.Ground.phase }, { on := 11, ground := Go.Ground.phase }, { on := 12, ground := Go.Ground.phase }, { on := 13, ground := Go.Ground.phase }, { on := 14, ground := Go.Ground.phase }, { on := 15, ground := Go.Ground.phase }], guard := none }) (v := _) rfl (by kernel_rfl) (by kernel_rfl) (by kernel_rfl) (fun _ _ _ h => h) (Or.inl ⟨by rfl, ?_⟩) (by assumption) ?_
        rotate_left
        · intro w hSw; (try dsimp only at hSw); obtain ⟨q0, q1⟩ := hSw; go_simp <;> with_reducible rfl
        simp only [Act.put, List.setIfInBounds_toArray, List.set_cons_zero, List.set_cons_succ]
        refine wpAnyH_ready (rs := [18]) (by kernel_rfl) (by simp) ?_
        refine AllReadyH.cons rfl (fun K hK => ?_) (AllReadyH.nil)
        go_simp
        go_wp2_with fail
        refine hK.out _ _ ⟨ks, k3s⟩ (fun hHeld => ?_)
        clear hK K
        try simp only [Act.put, List.setIfInBounds_toArray, List.set_cons_zero, List.set_cons_succ]
        refine wpAnyH_done (by kernel_rfl) ?_ _
        refine NoPanic.normal ?_
        go_end0
        exact ⟨rfl, HE.out⟩

end Go.Proofs.Ytmmbckchaklhaaa.Se
