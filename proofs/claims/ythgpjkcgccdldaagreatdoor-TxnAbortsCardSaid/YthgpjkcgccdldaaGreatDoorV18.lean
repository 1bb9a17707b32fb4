/-
  Once.Do with the sum's makeTable, walked: the first time the table is made; later nothing is done.
  New, Now, Add and Crc of package sum, walked.
-/
import Derived.Test.YthgpjkcgccdldaaGreatDoorV07
import Derived.Test.YthgpjkcgccdldaaGreatDoorV10

namespace Go.Proofs.YthgpjkcgccdldaaGreatDoor.Sm
open Go.RowKit

set_option maxRecDepth 100000 in
set_option maxHeartbeats 1600000 in
theorem slow_any (b c : Nat) (w : World) (hS : SumAt w b 0 0 (Crc.outer 0) c) :
    Calls Tryz.prog 77 #[.pointer (some ⟨b, 0, none⟩), .func (.func 152) #[.pointer (some ⟨b, 0, none⟩)] #[]] w fun e w' => e = .returned (.tuple #[]) ∧ SumAt w' b 1 0 (Crc.outer 8) c ∧ Only b w w' := by
  have h0 := hS.done
  have h1 := hS.lock
  have f0 := hS.fz 0
  have f1 := hS.fz 1
  have hS1 := hS.setLock 1
  have hO1 := (Only.refl b w).setCell 1 (.int .i32 1)
  have hl := run_call_load (P := Tryz.prog) Tryz.func107 (by kernel_rfl) (by kernel_rfl) (by kernel_rfl) .u32 (by kernel_rfl) hS1.done
  have hnot : ∀ (x : Bool) (w : World), (Op.unary .not (.bool x)).run Tryz.prog w = .ok (.bool (!x)) w := fun _ _ => rfl
  go_enter_defers Tryz.func77, Tryz.ntmps77
  go_wp2_with (first | (go_at_call 108; refine (lock_free ⟨b, 1, none⟩ _ (by go_simp) (by go_simp)).mono ?_; rintro e w' ⟨rfl, rfl⟩) | (go_at_call 152; refine (table_any b 0 1 c _ hS1).mono ?_; rintro e w2 ⟨rfl, hT, hO⟩) | (go_at_call 76; go_in))
  refine leaves_cons (f := 110) (args := #[.pointer (some ⟨b, 0, none⟩), .bool true]) (by simp) (by simp [go_sem]) ?_
  refine (store_deferred ⟨b, 0, none⟩ (.int .u32 0) .returning _ hT.done (hT.fz 0)).mono ?_
  rintro e u' w'' ⟨rfl, rfl, rfl⟩
  have hT2 := (hT.setDone 1).drew
  refine leaves_cons (f := 109) (args := #[.pointer (some ⟨b, 1, none⟩)]) (by simp [settle]) (by simp [go_sem]) ?_
  refine (unlock_deferred ⟨b, 1, none⟩ _ _ hT2.lock (hT2.fz 1)).mono ?_
  rintro e u' w'' ⟨rfl, rfl, rfl⟩
  have hfin : SumAt (((w2.setCell ⟨b, 0, none⟩ (.int .u32 1)).drew).setCell ⟨b, 1, none⟩ (.int .i32 0)) b 1 0 (Crc.outer 8) c := hT2.setLock 0
  have hOf : Only b w (((w2.setCell ⟨b, 0, none⟩ (.int .u32 1)).drew).setCell ⟨b, 1, none⟩ (.int .i32 0)) := (((hO1.trans hO).setCell 0 _).drew).setCell 1 _
  simp [Leaves, settle, results, Tryz.results77]
  exact ⟨hfin, hOf⟩

set_option maxRecDepth 100000 in
set_option maxHeartbeats 1600000 in
/-- Do, not yet done. -/
theorem do_first (b c : Nat) (w : World) (hS : SumAt w b 0 0 (Crc.outer 0) c) :
    Calls Tryz.prog 50 #[.pointer (some ⟨b, 0, none⟩), .func (.func 152) #[.pointer (some ⟨b, 0, none⟩)] #[]] w fun e w' => e = .returned (.tuple #[]) ∧ SumAt w' b 1 0 (Crc.outer 8) c ∧ Only b w w' := by
  have h0 := hS.done
  have hl := run_call_load (P := Tryz.prog) Tryz.func107 (by kernel_rfl) (by kernel_rfl) (by kernel_rfl) .u32 (by kernel_rfl) h0
  have hnot : ∀ (x : Bool) (w : World), (Op.unary .not (.bool x)).run Tryz.prog w = .ok (.bool (!x)) w := fun _ _ => rfl
  go_enter Tryz.func50, Tryz.ntmps50
  go_wp2_with (first | (go_at_call 77; refine (slow_any b c _ hS).mono ?_; rintro e w' ⟨rfl, hT, hO⟩) | (go_at_call 76; go_in))
  go_end0
  exact ⟨rfl, hT, hO⟩

set_option maxRecDepth 100000 in
set_option maxHeartbeats 1600000 in
/-- Do, done already: the function is not called. -/
theorem do_done (b c : Nat) (t : List Nat) (fv : Value) (w : World) (hS : SumAt w b 1 0 t c) :
    Calls Tryz.prog 50 #[.pointer (some ⟨b, 0, none⟩), fv] w fun e w' => e = .returned (.tuple #[]) ∧ w' = w := by
  have h0 := hS.done
  have hl := run_call_load (P := Tryz.prog) Tryz.func107 (by kernel_rfl) (by kernel_rfl) (by kernel_rfl) .u32 (by kernel_rfl) h0
  have hnot : ∀ (x : Bool) (w : World), (Op.unary .not (.bool x)).run Tryz.prog w = .ok (.bool (!x)) w := fun _ _ => rfl
  go_enter Tryz.func50, Tryz.ntmps50
  go_wp2
  go_end0
  exact ⟨rfl, rfl⟩
end Go.Proofs.YthgpjkcgccdldaaGreatDoor.Sm

namespace Go.Proofs.YthgpjkcgccdldaaGreatDoor.Sm
open Go.RowKit

/-- A sum to which the bytes l were added: its table is not yet made, or it is. -/
def IsSum (w : World) (b : Nat) (l : List Nat) : Prop := SumAt w b 0 0 (Crc.outer 0) (Crc.crc l) ∨ SumAt w b 1 0 (Crc.outer 8) (Crc.crc l)

def zeros : Array Value := (Value.int .u32 0 :: Value.int .i32 0 :: Value.int .u32 0 :: List.replicate 257 (Value.int .u32 0)).toArray

set_option maxRecDepth 100000 in
theorem zero119 (w : World) : Sem.run Tryz.prog (zeroValue 217) w = .ok (.agg zeros) w := by kernel_rfl

set_option maxRecDepth 100000 in
theorem zeros_sum (w : World) : SumAt (w.alloc (.cells zeros 217)) w.heap.size 0 0 (Crc.outer 0) (Crc.crc []) := by
  have hc : ∀ i, (w.alloc (.cells zeros 217)).cell? ⟨w.heap.size, i, none⟩ = zeros[i]? := fun i => World.cell?_alloc_at _ _ _ _ rfl
  refine ⟨(hc 0).trans (by unfold zeros; rw [List.getElem?_toArray, List.getElem?_cons_zero]), (hc 1).trans (by unfold zeros; rw [List.getElem?_toArray, List.getElem?_cons_succ, List.getElem?_cons_zero]), ?_, Crc.outer_length 0, ?_, fun o => World.frozen?_alloc_at _ _ _ _ rfl⟩
  · intro i hi
    rw [hc]
    have e : (Crc.outer 0).getD i 0 = 0 := by
      show (List.replicate 256 0).getD i 0 = 0
      rw [List.getD_eq_getElem?_getD, List.getElem?_replicate]; split <;> rfl
    rw [e]
    show zeros[3 + i]? = _
    unfold zeros
    rw [List.getElem?_toArray, show 3 + i = i + 3 from Nat.add_comm _ _, List.getElem?_cons_succ, List.getElem?_cons_succ, List.getElem?_cons_succ, List.getElem?_replicate, if_pos (by omega)]
    rfl
  · rw [hc]
    unfold zeros
    rw [List.getElem?_toArray, List.getElem?_cons_succ, List.getElem?_cons_succ, List.getElem?_cons_succ, List.getElem?_replicate, if_pos (by omega)]
    rfl

set_option maxRecDepth 100000 in
set_option maxHeartbeats 400000 in
theorem new_any (w : World) :
    Calls Tryz.prog 121 #[] w fun e w' => e = .returned (.pointer (some ⟨w.heap.size, 0, none⟩)) ∧ IsSum w' w.heap.size [] ∧ Below w.heap.size w w' ∧ w'.heap.size = w.heap.size + 1 := by
  have hz := zero119
  go_enter Tryz.func121, Tryz.ntmps121
  go_wp2
  go_ret
  exact ⟨rfl, .inl (zeros_sum w), (Below.refl _ _).alloc (Nat.le_refl _) _, by simp⟩

set_option maxRecDepth 100000 in
set_option maxHeartbeats 400000 in
theorem now_any (b : Nat) (l : List Nat) (w : World) (hS : IsSum w b l) :
    Calls Tryz.prog 123 #[.pointer (some ⟨b, 0, none⟩)] w fun e w' => e = .returned (.int .u32 (Crc.crc l : Nat)) ∧ w' = w := by
  have hc : w.cell? ⟨b, 259, none⟩ = some (.int .u32 (Crc.crc l : Nat)) := by
    rcases hS with h | h
    · exact h.crc
    · exact h.crc
  clear hS
  generalize Crc.crc l = x at *
  go_enter Tryz.func123, Tryz.ntmps123
  go_wp2
  go_ret
  exact ⟨rfl, rfl⟩
end Go.Proofs.YthgpjkcgccdldaaGreatDoor.Sm
