/-
  What may be stays so; 'make([]byte, 512)'; Write with the length told apart.
-/
import Derived.Test.YthgpjkcgccdldaaGreatDoorV17
import Derived.Laws.OwnMore

namespace Go.Proofs.YthgpjkcgccdldaaGreatDoor
open Go.RowKit Go.Maps

/- What may be stays so. -/
set_option maxRecDepth 100000 in
theorem St.Good.new {n : Nat} (h : n ≤ 16384) : (St.new n).Good := ⟨h, by show 0 ≤ 1000000; omega, by show (-1 : Int) ≤ -1; omega, by show (-1 : Int) ≤ _; omega, fun _ => zeros_length⟩
set_option maxRecDepth 100000 in
theorem St.Good.cut {s : St} (h : s.Good) {i : Int} (hi : i ≤ 9223372036854775807) : (s.cut i).Good := ⟨h.n1, h.k1, by show (-1 : Int) ≤ max i (-1); omega, by show max i (-1) ≤ _; omega, h.len⟩
set_option maxRecDepth 100000 in
theorem St.Good.start {s : St} (h : s.Good) : s.start.Good := ⟨h.n1, h.k1, by show (-1 : Int) ≤ -1; omega, by show (-1 : Int) ≤ _; omega, h.len⟩
set_option maxRecDepth 100000 in
theorem St.write_k (s : St) (i : Int) (l : List Nat) : (s.write i l).k ≤ s.k + 1 := by
  unfold St.write
  split
  · omega
  · split
    · omega
    · split
      · show s.k ≤ s.k + 1; omega
      · show s.k + 1 ≤ s.k + 1; omega
set_option maxRecDepth 100000 in
theorem St.write_n (s : St) (i : Int) (l : List Nat) : (s.write i l).n = s.n := by
  unfold St.write
  split
  · rfl
  · split
    · rfl
    · split
      · rfl
      · rfl
set_option maxRecDepth 100000 in
theorem St.Good.write {s : St} (h : s.Good) (i : Int) (l : List Nat) (hk : s.k < 1000000) : (s.write i l).Good := by
  have hk2 := s.write_k i l
  have hn2 := s.write_n i l
  have h1 := h.l1
  have h2 := h.l2
  refine ⟨by rw [hn2]; exact h.n1, by omega, ?_, ?_, ?_⟩
  · unfold St.write
    split
    · exact h1
    · split
      · exact h1
      · split
        · exact h1
        · show -1 ≤ if s.left < 0 then s.left else s.left - 1
          split <;> omega
  · unfold St.write
    split
    · exact h2
    · split
      · exact h2
      · split
        · exact h2
        · show (if s.left < 0 then s.left else s.left - 1) ≤ _
          split <;> omega
  · intro j
    unfold St.write
    split
    · exact h.len j
    · split
      · exact h.len j
      · rename_i hl
        split
        · exact h.len j
        · show (put s.f i.toNat l j).length = 512
          unfold put
          split
          · omega
          · exact h.len j

set_option maxRecDepth 100000 in
/-- 'make([]byte, 512)'. -/
theorem make_512 (w : World) : (Instr.makeSlice 68 (.int .i64 512) (.int .i64 512)).run Tryz.prog w = .ok (.slice (some ⟨w.heap.size, 0, none⟩) 512 512) (w.alloc (.cells zcells 5)) := by
  obtain ⟨i0, hi, hz0, hz1, hz2⟩ := info_parts info5
  have h := run_make (P := Tryz.prog) w 68 5 i0 (.int .u8 0) Tryz.underlying68 hi hz0 .i64 .i64 512 512 (by omega) (by omega) (by rw [hz2]; decide) (by omega)
  have e : madeCells (Value.int .u8 0).cells ((512 : Int).toNat * i0.size) = zcells := by
    apply Array.toList_inj.1
    rw [show (Value.int .u8 0).cells = #[Value.int .u8 0] from rfl, toList_madeCells_one, hz1]
    show List.replicate 512 (Value.int .u8 0) = (List.replicate 512 0).map byteCell
    rw [List.map_replicate]
    rfl
  rw [h, e]
  rfl

set_option maxRecDepth 100000 in
theorem new_zeros (w : World) : BytesAt (w.alloc (.cells zcells 5)) (some ⟨w.heap.size, 0, none⟩) zeros := bytes_new w zeros 5

set_option maxRecDepth 100000 in
theorem write_at (b m : Nat) (s : St) (G : s.Good) (i : Int) (a : Option Addr) (cap n : Nat) (l : List Nat) (hn : l.length = n) (hl : n ≤ maxLen) (w : World) (hD : DiskAt w b m s) (hb : BytesAt w a l) :
    Calls Tryz.prog 195 #[.pointer (some ⟨b, 0, none⟩), .int .i64 i, .slice a n cap] w fun e w' =>
      e = .returned (.int .i64 (s.writeErr i n)) ∧ DiskAt w' b m (s.write i l) ∧ Turn [b, m] w w' := by
  subst hn
  exact write_any b m s G i a cap l hl w hD hb

end Go.Proofs.YthgpjkcgccdldaaGreatDoor
