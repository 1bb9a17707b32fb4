/-
  New, Now, Add and Crc of package sum, walked.
-/
import Derived.Test.YthgpjkcgccdldaaGreatDoorSmOnce
namespace Go.Proofs.YthgpjkcgccdldaaGreatDoor.Sm
open Go.RowKit

/-- A sum to which the bytes l were added: its table is not yet made, or it is. -/
def IsSum (w : World) (b : Nat) (l : List Nat) : Prop := SumAt w b 0 0 (Crc.outer 0) (Crc.crc l) ∨ SumAt w b 1 0 (Crc.outer 8) (Crc.crc l)

def zeros : Array Value := (Value.int .u32 0 :: Value.int .i32 0 :: Value.int .u32 0 :: List.replicate 257 (Value.int .u32 0)).toArray

set_option maxRecDepth 100000 in
theorem zero119 (w : World) : Sem.run Tryz.prog (zeroValue 217) w = .ok (.agg zeros) w := by kernel_rfl

set_option maxRecDepth 100000 in
theorem zeros_sum (w : World) : SumAt (w.alloc (.cells zeros 217)) w.heap.size 0 0 (Crc.outer 0) (Crc.crc []) := by
  have hc : ∀ i, (w.alloc (.cells zeros 217)).cell? ⟨w.heap.size, i, none⟩ = zeros[i]? := fun i => World.cell?_alloc_at _ _ _ _ rfl
  refine ⟨(hc 0).trans (by unfold zeros; rw [List.getElem?_toArray, List.getElem?_cons_zero]), (hc 1).trans (by unfold zeros; rw [List.getElem?_toArray, List.getElem?_cons_succ, List.getElem?_cons_zero]), ?_, Crc.outer_length 0, ?_, fun o => World.frozen?_alloc_at _ _ _ _ rfl⟩
  · intro i hi
    rw [hc]
    have e : (Crc.outer 0).getD i 0 = 0 := by
      show (List.replicate 256 0).getD i 0 = 0
      rw [List.getD_eq_getElem?_getD, List.getElem?_replicate]; split <;> rfl
    rw [e]
    show zeros[3 + i]? = _
    unfold zeros
    rw [List.getElem?_toArray, show 3 + i = i + 3 from Nat.add_comm _ _, List.getElem?_cons_succ, List.getElem?_cons_succ, List.getElem?_cons_succ, List.getElem?_replicate, if_pos (by omega)]
    rfl
  · rw [hc]
    unfold zeros
    rw [List.getElem?_toArray, List.getElem?_cons_succ, List.getElem?_cons_succ, List.getElem?_cons_succ, List.getElem?_replicate, if_pos (by omega)]
    rfl

set_option maxRecDepth 100000 in
set_option maxHeartbeats 400000 in
theorem new_any (w : World) :
    Calls Tryz.prog 121 #[] w fun e w' => e = .returned (.pointer (some ⟨w.heap.size, 0, none⟩)) ∧ IsSum w' w.heap.size [] ∧ Below w.heap.size w w' ∧ w'.heap.size = w.heap.size + 1 := by
  have hz := zero119
  go_enter Tryz.func121, Tryz.ntmps121
  go_wp2
  go_ret
  exact ⟨rfl, .inl (zeros_sum w), (Below.refl _ _).alloc (Nat.le_refl _) _, by simp⟩

set_option maxRecDepth 100000 in
set_option maxHeartbeats 400000 in
theorem now_any (b : Nat) (l : List Nat) (w : World) (hS : IsSum w b l) :
    Calls Tryz.prog 123 #[.pointer (some ⟨b, 0, none⟩)] w fun e w' => e = .returned (.int .u32 (Crc.crc l : Nat)) ∧ w' = w := by
  have hc : w.cell? ⟨b, 259, none⟩ = some (.int .u32 (Crc.crc l : Nat)) := by
    rcases hS with h | h
    · exact h.crc
    · exact h.crc
  clear hS
  generalize Crc.crc l = x at *
  go_enter Tryz.func123, Tryz.ntmps123
  go_wp2
  go_ret
  exact ⟨rfl, rfl⟩
end Go.Proofs.YthgpjkcgccdldaaGreatDoor.Sm
