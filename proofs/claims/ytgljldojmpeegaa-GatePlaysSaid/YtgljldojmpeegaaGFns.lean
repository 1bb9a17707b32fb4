/-
  Package gate, walked.
-/
import Derived.Test.YtgljldojmpeegaaGMem
import Derived.Deep.RegionWith
import Derived.BigRegion
import Derived.Deep.RegionHeld3
namespace Go.Proofs.Ytgljldojmpeegaa.Ga
open Go.RowKit Go.Maps

/-- The map that is made: the admin's key alone. -/
theorem first_map {w : World} (admin : ByteArray) (ha : admin.size ≤ 1000000) :
    ∃ w', (Instr.mapUpdate 50 (.map (some w.heap.size)) (.string admin) (ownVal (empty, true))).run Try.prog (w.alloc (.map #[] 0)) = .ok () w' ∧ MapAt w' w.heap.size 1 (Gt.new admin).own ∧ Turn [] w w' := by
  have h0 : MapAt (w.alloc (.map #[] 0)) w.heap.size 0 (fun _ => none) := ⟨_, 0, Nat.le_refl _, World.ownsMap_made w Try.prog 9 anyElem, fun k _ => ⟨rfl, rfl⟩⟩
  obtain ⟨w', hrun, hM, hT⟩ := h0.put (by omega) (key := admin) (by omega) (empty, true)
  exact ⟨w', hrun, hM, ((Turn.refl [] w).alloc _).then hT (fun x hx => .inr (by simp at hx; omega))⟩

set_option maxRecDepth 100000 in
set_option maxHeartbeats 2000000 in
theorem made_any {g x : Nat} {s : Gt} {t : Int} {w : World} (ha : s.admin.size ≤ 1000000) (hC : CellsAt w g s 0 t none) (hx : w.cell? ⟨x, 0, none⟩ = some (.pointer (some ⟨g, 0, none⟩))) (_hgx : g ≠ x) :
    Calls Try.prog 21 #[.pointer (some ⟨x, 0, none⟩)] w fun e w' => e = .returned (.tuple #[]) ∧ ∃ m, w.heap.size ≤ m ∧ CellsAt w' g s 0 t (some m) ∧ MapAt w' m 1 (Gt.new s.admin).own ∧ Turn [g] w w' := by
  have c0 := hC.c0
  have c4 := hC.c4
  have fz := hC.fz
  have hg := hC.lt
  have hxl := lt_of_cell hx
  have HC := hide hC
  clear hC
  have hmm := @run_makeMap Try.prog
  obtain ⟨w1, hrun, hM, hT⟩ := first_map (w := w.drew) s.admin ha
  have hrun' : (Instr.mapUpdate 50 (.map (some w.heap.size)) (.string s.admin) (.agg #[.string ⟨#[]⟩, .bool true])).run Try.prog (w.alloc (.map #[] 0)).drew = .ok () w1 := hrun
  clear hrun
  have hT1 : Turn [] w w1 := ⟨hT.os, hT.tape, hT.output, hT.size, hT.block⟩
  have hx1 : w1.cell? ⟨x, 0, none⟩ = some (.pointer (some ⟨g, 0, none⟩)) := (hT1.cell (p := ⟨x, 0, none⟩) hxl (by simp)).trans hx
  have HC1 : Hid (CellsAt w1 g s 0 t none) := HC.out.of_block (hT1.block g hg (by simp))
  have c41 := HC1.out.c4
  have fz1 := HC1.out.fz
  have hg1 := HC1.out.lt
  have hx1l := lt_of_cell hx1
  have HM1 : Hid (MapAt w1 w.heap.size 1 (Gt.new s.admin).own) := hM
  have HF : Hid (∃ m, w.heap.size ≤ m ∧ CellsAt (w1.setCell ⟨g, 4, none⟩ (.map (some w.heap.size))) g s 0 t (some m) ∧ MapAt (w1.setCell ⟨g, 4, none⟩ (.map (some w.heap.size))) m 1 (Gt.new s.admin).own ∧ Turn [g] w (w1.setCell ⟨g, 4, none⟩ (.map (some w.heap.size)))) :=
    ⟨w.heap.size, Nat.le_refl _, HC1.out.set4 _, HM1.out.of_block (Below.heap_setCell w1 ⟨g, 4, none⟩ _ w.heap.size (fun e => by simp only at e; omega)), (hT1.mono (by simp)).setCell (by simp) _ _⟩
  clear hM hT hT1 HM1 HC1 HC
  go_enter Try.func21, Try.ntmps21
  go_wp2_with fail
  go_region_with (fail)
  all_goals
    go_end0
    exact ⟨rfl, HF.out⟩

set_option maxRecDepth 100000 in
set_option maxHeartbeats 2000000 in
theorem slow_any {g x : Nat} {s : Gt} {w : World} (ha : s.admin.size ≤ 1000000) (hC : CellsAt w g s 0 0 none) (hx : w.cell? ⟨x, 0, none⟩ = some (.pointer (some ⟨g, 0, none⟩))) (hgx : g ≠ x) :
    Calls Try.prog 25 #[.pointer (some ⟨g, 1, none⟩), .func (.func 21) #[] #[.pointer (some ⟨x, 0, none⟩)]] w fun e w' => e = .returned (.tuple #[]) ∧ ∃ m, w.heap.size ≤ m ∧ CellsAt w' g s 1 0 (some m) ∧ MapAt w' m 1 (Gt.new s.admin).own ∧ Turn [g] w w' := by
  have h0 := hC.c1
  have h1 := hC.c2
  have f0 := hC.fz 1
  have f1 := hC.fz 2
  have hg := hC.lt
  have hS1 := hC.set2 1
  have HT1 : Hid (Turn [g] w (w.setCell ⟨g, 2, none⟩ (.int .i32 1))) := (Turn.refl _ _).setCell (by simp) _ _
  have HX1 : Hid ((w.setCell ⟨g, 2, none⟩ (.int .i32 1)).cell? ⟨x, 0, none⟩ = some (.pointer (some ⟨g, 0, none⟩))) := (HT1.out.cell (p := ⟨x, 0, none⟩) (lt_of_cell hx) (by simp; exact fun e => hgx e.symm)).trans hx
  have HS1 := hide hS1
  have hl := run_call_load (P := Try.prog) Try.func26 (by kernel_rfl) (by kernel_rfl) (by kernel_rfl) .u32 (by kernel_rfl) hS1.c1
  have HC := hide (made_any ha HS1.out HX1.out hgx)
  clear hS1 hC hx
  have hnot : ∀ (x : Bool) (w : World), (Op.unary .not (.bool x)).run Try.prog w = .ok (.bool (!x)) w := fun _ _ => rfl
  go_enter_defers Try.func25, Try.ntmps25
  go_wp2_with (first | (go_at_call 27; refine (lock_free ⟨g, 2, none⟩ _ (by exact h1) (by exact f1)).mono ?_; rintro e w' ⟨rfl, rfl⟩) | (go_at_call 21; refine HC.out.mono ?_; rintro e w2 ⟨rfl, m, hm, hC2, hM2, hT2⟩) | (go_at_call 24; go_in))
  refine leaves_cons (f := 29) (args := #[.pointer (some ⟨g, 1, none⟩), .bool true]) (by simp) (by simp [go_sem]) ?_
  refine (store_deferred ⟨g, 1, none⟩ (.int .u32 0) .returning _ hC2.c1 (hC2.fz 1)).mono ?_
  rintro e u' w'' ⟨rfl, rfl, rfl⟩
  have hC3 : CellsAt (w2.setCell ⟨g, 1, none⟩ (.int .u32 1)).drew g s 1 1 (some m) := (hC2.set1 1).of_block rfl
  refine leaves_cons (f := 28) (args := #[.pointer (some ⟨g, 2, none⟩)]) (by simp [settle]) (by simp [go_sem]) ?_
  refine (unlock_deferred ⟨g, 2, none⟩ _ _ hC3.c2 (hC3.fz 2)).mono ?_
  rintro e u' w'' ⟨rfl, rfl, rfl⟩
  have hfin : ∃ m, w.heap.size ≤ m ∧ CellsAt (((w2.setCell ⟨g, 1, none⟩ (.int .u32 1)).drew).setCell ⟨g, 2, none⟩ (.int .i32 0)) g s 1 0 (some m) ∧ MapAt (((w2.setCell ⟨g, 1, none⟩ (.int .u32 1)).drew).setCell ⟨g, 2, none⟩ (.int .i32 0)) m 1 (Gt.new s.admin).own ∧ Turn [g] w (((w2.setCell ⟨g, 1, none⟩ (.int .u32 1)).drew).setCell ⟨g, 2, none⟩ (.int .i32 0)) := by
    have hm' : w.heap.size ≤ m := by have := HT1.out.size; omega
    refine ⟨m, hm', hC3.set2 0, ?_, (((HT1.out.trans hT2).setCell (by simp) 1 _).drew).setCell (by simp) 2 _⟩
    refine hM2.of_block ?_
    rw [Below.heap_setCell _ ⟨g, 2, none⟩ _ m (fun e => by simp only at e; omega)]
    exact Below.heap_setCell w2 ⟨g, 1, none⟩ _ m (fun e => by simp only at e; omega)
  simp [Leaves, settle, results, Try.results25]
  exact hfin

set_option maxRecDepth 100000 in
set_option maxHeartbeats 2000000 in
theorem do_first {g x : Nat} {s : Gt} {w : World} (ha : s.admin.size ≤ 1000000) (hC : CellsAt w g s 0 0 none) (hx : w.cell? ⟨x, 0, none⟩ = some (.pointer (some ⟨g, 0, none⟩))) (hgx : g ≠ x) :
    Calls Try.prog 20 #[.pointer (some ⟨g, 1, none⟩), .func (.func 21) #[] #[.pointer (some ⟨x, 0, none⟩)]] w fun e w' => e = .returned (.tuple #[]) ∧ ∃ m, w.heap.size ≤ m ∧ CellsAt w' g s 1 0 (some m) ∧ MapAt w' m 1 (Gt.new s.admin).own ∧ Turn [g] w w' := by
  have h0 := hC.c1
  have HC := hide (slow_any ha hC hx hgx)
  clear hC hx
  have hl := run_call_load (P := Try.prog) Try.func26 (by kernel_rfl) (by kernel_rfl) (by kernel_rfl) .u32 (by kernel_rfl) h0
  have hnot : ∀ (x : Bool) (w : World), (Op.unary .not (.bool x)).run Try.prog w = .ok (.bool (!x)) w := fun _ _ => rfl
  go_enter Try.func20, Try.ntmps20
  go_wp2_with (first | (go_at_call 25; refine HC.out.mono ?_; rintro e w' ⟨rfl, hE⟩) | (go_at_call 24; go_in))
  go_end0
  exact ⟨rfl, hE⟩

set_option maxRecDepth 100000 in
set_option maxHeartbeats 2000000 in
theorem do_done {g : Nat} (fv : Value) {w : World} (h0 : w.cell? ⟨g, 1, none⟩ = some (.int .u32 1)) :
    Calls Try.prog 20 #[.pointer (some ⟨g, 1, none⟩), fv] w fun e w' => e = .returned (.tuple #[]) ∧ w' = w := by
  have hl := run_call_load (P := Try.prog) Try.func26 (by kernel_rfl) (by kernel_rfl) (by kernel_rfl) .u32 (by kernel_rfl) h0
  have hnot : ∀ (x : Bool) (w : World), (Op.unary .not (.bool x)).run Try.prog w = .ok (.bool (!x)) w := fun _ _ => rfl
  go_enter Try.func20, Try.ntmps20
  go_wp2
  go_end0
  exact ⟨rfl, rfl⟩

set_option maxRecDepth 100000 in
set_option maxHeartbeats 2000000 in
theorem gknown_any {g : Nat} {mo : Option Nat} {s : Gt} {w : World} (hG : GateAt w g mo s) :
    Calls Try.prog 14 #[.pointer (some ⟨g, 0, none⟩)] w fun e w' => ∃ m, e = .returned (.map (some m)) ∧ GateAt w' g (some m) s ∧ Went w mo (some m) ∧ Turn [g] w w' := by
  have hmf : ∀ (fn : Fn) (first cap : Array Value) (w : World), (Instr.makeFunc fn first cap).run Try.prog w = .ok (.func fn first cap) w := fun _ _ _ _ => rfl
  have hg := hG.lt
  obtain ⟨W, hW⟩ : ∃ W, W = w.alloc (.cells #[.pointer (some ⟨g, 0, none⟩)] 24) := ⟨_, rfl⟩
  have HTW : Hid (Turn [] w W) := by rw [hW]; exact (Turn.refl [] w).alloc _
  have hGW := hG.turn0 HTW.out
  have hxW : W.cell? ⟨w.heap.size, 0, none⟩ = some (.pointer (some ⟨g, 0, none⟩)) := by
    have hb : W.heap[w.heap.size]? = some (.cells #[.pointer (some ⟨g, 0, none⟩)] 24) := by rw [hW]; exact Array.getElem?_push_size
    unfold World.cell?; rw [hb]; rfl
  have hgx : g ≠ w.heap.size := by omega
  have hgW := hGW.lt
  have hxl := lt_of_cell hxW
  have HG := hide hGW
  go_enter Try.func14, Try.ntmps14
  cases mo with
  | none =>
    obtain ⟨ha, hC, hn, ho⟩ := hGW
    have HC := hide (do_first ha hC hxW hgx)
    have HA := hide ha
    have HN := hide hn
    have HO := hide ho
    clear hC hn ho ha hG
    go_wp2_with fail
    rw [← hW]
    refine HC.out.mono ?_
    rintro e w1 ⟨rfl, m, hm, hC1, hM1, hT1⟩
    have hx1 : w1.cell? ⟨w.heap.size, 0, none⟩ = some (.pointer (some ⟨g, 0, none⟩)) := (hT1.cell (p := ⟨w.heap.size, 0, none⟩) hxl (by simp; omega)).trans hxW
    have k4 := hC1.c4
    have hg1 := hC1.lt
    have hx1l := lt_of_cell hx1
    have HE : Hid (∃ m', (Ending.returned (.map (some m)) = .returned (.map (some m'))) ∧ GateAt w1 g (some m') s ∧ Went w none (some m') ∧ Turn [g] w w1) := by
      have := HTW.out.size
      refine ⟨m, rfl, ⟨HA.out, hC1, by omega, ?_⟩, .inr ⟨rfl, m, rfl, by omega⟩, (HTW.out.mono (by simp)).trans hT1⟩
      rw [HN.out, HO.out]
      exact hM1
    clear hm hC1 hM1 hT1 HC hW
    go_wp2_with fail
    go_ret
    exact HE.out
  | some m =>
    obtain ⟨ha, hC, hn, ho⟩ := hGW
    have k1 := hC.c1
    have k4 := hC.c4
    have HE : Hid (∃ m', (Ending.returned (.map (some m)) = .returned (.map (some m'))) ∧ GateAt W g (some m') s ∧ Went w (some m) (some m') ∧ Turn [g] w W) := ⟨m, rfl, HG.out, .inl rfl, HTW.out.mono (by simp)⟩
    clear hC hn ho ha hG
    go_wp2_with fail
    rw [← hW]
    refine (do_done _ k1).mono ?_
    rintro e w1 ⟨rfl, rfl⟩
    clear hW
    go_wp2_with fail
    go_ret
    exact HE.out

set_option maxRecDepth 100000 in
set_option maxHeartbeats 2000000 in
theorem new_any (admin : ByteArray) (ha : admin.size ≤ 1000000) (w : World) : Calls Try.prog 6 #[.string admin] w fun e w' => ∃ g, e = .returned (.pointer (some ⟨g, 0, none⟩)) ∧ w.heap.size ≤ g ∧ GateAt w' g none (Gt.new admin) ∧ Turn [] w w' := by
  go_enter Try.func6, Try.ntmps6
  go_wp2_with fail
  refine (sclone_any admin w ha).mono ?_
  rintro e w1 ⟨rfl, hT⟩
  have HT := hide hT
  clear hT
  go_wp2_with fail
  go_ret
  have hb : ∀ o : Obj, (w1.alloc o).heap[w1.heap.size]? = some o := fun o => Array.getElem?_push_size
  refine ⟨_, rfl, HT.out.size, ⟨ha, ⟨?_, ?_, ?_, ?_, ?_, ?_, fun o => ?_⟩, rfl, rfl⟩, HT.out.alloc _⟩
  all_goals first
    | (unfold World.cell?; rw [hb]; rfl)
    | (unfold World.frozen?; rw [hb]; simp)

set_option maxRecDepth 100000 in
set_option maxHeartbeats 1000000 in
theorem asked_any {g : Nat} {mo : Option Nat} {s : Gt} {w : World} (hG : GateAt w g mo s) : Calls Try.prog 10 #[.pointer (some ⟨g, 0, none⟩)] w fun e w' => e = .returned (.int .i64 (s.asked : Nat)) ∧ w' = w := by
  obtain ⟨d, hC⟩ := hG.cells
  have hg := hC.lt
  have HC := hide hC.c5
  clear hC hG
  go_enter Try.func10, Try.ntmps10
  go_wp2_with fail
  refine (aload HC.out).mono ?_
  rintro e w1 ⟨rfl, rfl⟩
  go_wp2_with fail
  go_ret
  exact ⟨rfl, rfl⟩

set_option maxRecDepth 100000 in
set_option maxHeartbeats 1000000 in
theorem refused_any {g : Nat} {mo : Option Nat} {s : Gt} {w : World} (hG : GateAt w g mo s) : Calls Try.prog 11 #[.pointer (some ⟨g, 0, none⟩)] w fun e w' => e = .returned (.int .i64 (s.refused : Nat)) ∧ w' = w := by
  obtain ⟨d, hC⟩ := hG.cells
  have hg := hC.lt
  have HC := hide hC.c6
  clear hC hG
  go_enter Try.func11, Try.ntmps11
  go_wp2_with fail
  refine (aload HC.out).mono ?_
  rintro e w1 ⟨rfl, rfl⟩
  go_wp2_with fail
  go_ret
  exact ⟨rfl, rfl⟩

end Go.Proofs.Ytgljldojmpeegaa.Ga
