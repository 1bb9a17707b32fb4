/-
  The law's helpers: known, within, block, walked.
-/
import Derived.Test.YtihilllhdiodgaaWrite
import Derived.Laws.OwnMore
namespace Go.Proofs.Ytihilllhdiodgaa
open Go.RowKit Go.Maps

/- What may be stays so. -/
theorem St.Good.new {n : Nat} (h : n ≤ 16384) : (St.new n).Good := ⟨h, by show 0 ≤ 1000000; omega, by show (-1 : Int) ≤ -1; omega, by show (-1 : Int) ≤ _; omega, fun _ => zeros_length⟩
theorem St.Good.cut {s : St} (h : s.Good) {i : Int} (hi : i ≤ 9223372036854775807) : (s.cut i).Good := ⟨h.n1, h.k1, by show (-1 : Int) ≤ max i (-1); omega, by show max i (-1) ≤ _; omega, h.len⟩
theorem St.Good.start {s : St} (h : s.Good) : s.start.Good := ⟨h.n1, h.k1, by show (-1 : Int) ≤ -1; omega, by show (-1 : Int) ≤ _; omega, h.len⟩
theorem St.write_k (s : St) (i : Int) (l : List Nat) : (s.write i l).k ≤ s.k + 1 := by
  unfold St.write
  split
  · omega
  · split
    · omega
    · split
      · show s.k ≤ s.k + 1; omega
      · show s.k + 1 ≤ s.k + 1; omega
theorem St.write_n (s : St) (i : Int) (l : List Nat) : (s.write i l).n = s.n := by
  unfold St.write
  split
  · rfl
  · split
    · rfl
    · split
      · rfl
      · rfl
theorem St.Good.write {s : St} (h : s.Good) (i : Int) (l : List Nat) (hk : s.k < 1000000) : (s.write i l).Good := by
  have hk2 := s.write_k i l
  have hn2 := s.write_n i l
  have h1 := h.l1
  have h2 := h.l2
  refine ⟨by rw [hn2]; exact h.n1, by omega, ?_, ?_, ?_⟩
  · unfold St.write
    split
    · exact h1
    · split
      · exact h1
      · split
        · exact h1
        · show -1 ≤ if s.left < 0 then s.left else s.left - 1
          split <;> omega
  · unfold St.write
    split
    · exact h2
    · split
      · exact h2
      · split
        · exact h2
        · show (if s.left < 0 then s.left else s.left - 1) ≤ _
          split <;> omega
  · intro j
    unfold St.write
    split
    · exact h.len j
    · split
      · exact h.len j
      · rename_i hl
        split
        · exact h.len j
        · show (put s.f i.toNat l j).length = 512
          unfold put
          split
          · omega
          · exact h.len j

/-- 'make([]byte, 512)'. -/
theorem make_512 (w : World) : (Instr.makeSlice 31 (.int .i64 512) (.int .i64 512)).run Try.prog w = .ok (.slice (some ⟨w.heap.size, 0, none⟩) 512 512) (w.alloc (.cells zcells 5)) := by
  obtain ⟨i0, hi, hz0, hz1, hz2⟩ := info_parts info5
  have h := run_make (P := Try.prog) w 31 5 i0 (.int .u8 0) Try.underlying31 hi hz0 .i64 .i64 512 512 (by omega) (by omega) (by rw [hz2]; decide) (by omega)
  have e : madeCells (Value.int .u8 0).cells ((512 : Int).toNat * i0.size) = zcells := by
    apply Array.toList_inj.1
    rw [show (Value.int .u8 0).cells = #[Value.int .u8 0] from rfl, toList_madeCells_one, hz1]
    show List.replicate 512 (Value.int .u8 0) = (List.replicate 512 0).map byteCell
    rw [List.map_replicate]
    rfl
  rw [h, e]
  rfl

theorem new_zeros (w : World) : BytesAt (w.alloc (.cells zcells 5)) (some ⟨w.heap.size, 0, none⟩) zeros := bytes_new w zeros 5

theorem write_at (b m : Nat) (s : St) (G : s.Good) (i : Int) (a : Option Addr) (cap n : Nat) (l : List Nat) (hn : l.length = n) (hl : n ≤ maxLen) (w : World) (hD : DiskAt w b m s) (hb : BytesAt w a l) :
    Calls Try.prog 12 #[.pointer (some ⟨b, 0, none⟩), .int .i64 i, .slice a n cap] w fun e w' =>
      e = .returned (.int .i64 (s.writeErr i n)) ∧ DiskAt w' b m (s.write i l) ∧ Turn [b, m] w w' := by
  subst hn
  exact write_any b m s G i a cap l hl w hD hb

def k1 : St := (St.new 2).cut 1
def k2 : St := k1.write 0 zeros
theorem k_facts : k1.writeErr 0 512 = 0 ∧ k2.writeErr 1 512 = 12 ∧ (k2.write 1 zeros).dead = true := by
  have hz := zeros_length
  have hm : max (1 : Int) (-1) = 1 := by decide
  have e2 : k2 = { k1 with k := 1, left := 0, f := put k1.f 0 zeros } := by
    show k1.write 0 zeros = _
    unfold St.write
    simp [k1, St.cut, St.new, St.out, hz, hm]
  refine ⟨by simp [St.writeErr, k1, St.cut, St.new, St.out, hm], ?_, ?_⟩
  · rw [e2]
    simp [St.writeErr, k1, St.cut, St.new, St.out]
  · rw [e2]
    simp [St.write, k1, St.cut, St.new, St.out, hz]
theorem k1_good : k1.Good := (St.Good.new (by omega)).cut (by omega)
theorem k2_good : k2.Good := k1_good.write 0 zeros (by show 0 < 1000000; omega)

set_option maxHeartbeats 800000 in
theorem known_any (w : World) : Calls Try.prog 6 #[] w fun e w' => e = .returned (.bool true) ∧ Turn [] w w' := by
  have hmk := make_512
  go_enter Try.func6, Try.ntmps6
  go_wp2_with fail
  refine (new_any 2 (by omega) (by omega) w).mono ?_
  rintro e w1 ⟨rfl, hD1, hT1, hs1⟩
  have HD1 := hide hD1
  clear hD1
  go_wp2_with fail
  refine (cut_any _ _ _ 1 (by omega) w1 HD1.out).mono ?_
  rintro e w2 ⟨rfl, hD2, hT2⟩
  have hs2 := hT2.size
  have HD2 : Hid (DiskAt (w2.alloc (.cells zcells 5)) (w.heap.size + 1) w.heap.size k1) := hD2.turn ((Turn.refl [] _).alloc _) (by simp) (by simp)
  clear hD2
  go_wp2_with fail
  refine (write_at _ _ k1 k1_good 0 _ 512 512 zeros zeros_length (by unfold maxLen; omega) _ HD2.out (new_zeros w2)).mono ?_
  rintro e w3 ⟨rfl, hD3, hT3⟩
  rw [k_facts.1]
  have HD3 := hide hD3
  have HB3 : Hid (BytesAt w3 (some ⟨w2.heap.size, 0, none⟩) zeros) := (new_zeros w2).turn hT3 (fun x _ hx => by obtain rfl := Option.some.inj hx; simp; omega)
  clear hD3
  go_wp2_with fail
  refine (write_at _ _ k2 k2_good 1 _ 512 512 zeros zeros_length (by unfold maxLen; omega) _ HD3.out HB3.out).mono ?_
  rintro e w4 ⟨rfl, hD4, hT4⟩
  rw [k_facts.2.1]
  have HD4 := hide hD4
  clear hD4
  go_wp2_with fail
  refine (dead_any _ _ _ _ HD4.out).mono ?_
  rintro e w5 ⟨rfl, rfl⟩
  rw [k_facts.2.2]
  go_wp2_with fail
  go_ret
  refine ⟨rfl, ((((hT1.then hT2 ?_).alloc _).then hT3 ?_).then hT4 ?_)⟩
  · simp
  · simp
  · simp

end Go.Proofs.Ytihilllhdiodgaa
