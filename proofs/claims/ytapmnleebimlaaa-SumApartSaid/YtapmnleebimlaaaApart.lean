/-
  The law SumApart, walked: it returns true, and nothing that was there is written.
-/
import Derived.Test.YtapmnleebimlaaaAdd
namespace Go.Proofs.Ytapmnleebimlaaa
open Go.RowKit

theorem mem_take_lt {l : List Nat} (h : ∀ x ∈ l, x < 256) (k : Nat) : ∀ x ∈ l.take k, x < 256 := fun x hx => h x (List.mem_of_mem_take hx)

theorem take_next {l : List Nat} {k : Nat} (h : k < l.length) : l.take (k + 1) = l.take k ++ [l[k]] := List.take_succ_eq_append_getElem h

theorem take_same {l : List Nat} {k : Nat} (h : l.length ≤ k) : l.take (k + 1) = l.take k := by
  rw [List.take_of_length_le h, List.take_of_length_le (by omega)]

set_option maxRecDepth 100000 in
set_option maxHeartbeats 1000000 in
theorem apart_any (la lb : List Nat) (a0 a1 : Option Addr) (cap0 cap1 : Nat) (w : World) (hla : la.length ≤ maxLen) (hlb : lb.length ≤ maxLen) (hca : la.length ≤ cap0) (hcb : lb.length ≤ cap1)
    (ha : ∀ x ∈ la, x < 256) (hb : ∀ x ∈ lb, x < 256) (hma : BytesAt w a0 la) (hmb : BytesAt w a1 lb) (hsm : la.length + lb.length ≤ 2000) :
    Calls Try.prog 5 #[.slice a0 la.length cap0, .slice a1 lb.length cap1] w fun e w' => e = .returned (.bool true) ∧ Below w.heap.size w w' := by
  have hnot : ∀ (x : Bool) (w : World), (Op.unary .not (.bool x)).run Try.prog w = .ok (.bool (!x)) w := fun _ _ => rfl
  have HA : Hid (BytesAt w a0 la) := hma
  have HB : Hid (BytesAt w a1 lb) := hmb
  have HLA : Hid (la.length ≤ maxLen) := hla
  have HLB : Hid (lb.length ≤ maxLen) := hlb
  have hd : decide (2000 < (la.length : Int) + lb.length) = false := by simp; omega
  clear hma hmb hla hlb
  go_enter Try.func5, Try.ntmps5
  go_wp2_with fail
  refine (known_any _).mono ?_
  rintro e w1 ⟨rfl, hW1⟩
  go_wp2_with fail
  refine (new_any _).mono ?_
  rintro e w2 ⟨rfl, hS2, hW2, hz2⟩
  go_wp2_with fail
  refine (new_any _).mono ?_
  rintro e w3 ⟨rfl, hS3, hW3, hz3⟩
  have hSx : IsSum w3 w1.heap.size [] := hS2.of_block (hW3.block _ (by omega))
  have hWx : Below w.heap.size w w3 := (hW1.trans (hW2.mono hW1.size)).trans (hW3.mono (by have := hW1.size; omega))
  have hB1 := hW1.size
  have hXY : w1.heap.size < w2.heap.size := by omega
  clear hS2 hW2 hW3 hW1
  generalize hX : w1.heap.size = X at *
  generalize hY : w2.heap.size = Y at *
  clear hX hz2 hY hz3
  go_wp2_with fail
  go_loopw [7] (fun i wr => ∃ k : Nat, k ≤ 2000 ∧ i = .int .i64 k ∧ IsSum wr X (la.take k) ∧ IsSum wr Y (lb.take k) ∧ Below w.heap.size w wr) (fun i _ => 2001 - (intOf i).toNat)
  case atStart => exact ⟨0, by omega, rfl, hSx, hS3, hWx⟩
  case round =>
    obtain ⟨k, hk, rfl, hx, hy, hW⟩ := hrel
    clear hSx hS3 hWx
    have HX : Hid (IsSum wr X (la.take k)) := hx
    have HY : Hid (IsSum wr Y (lb.take k)) := hy
    clear hx hy
    have hA : BytesAt wr a0 la := HA.out.keep fun x hq hx => hW.block _ (HA.out.lt x hq hx)
    have hB : BytesAt wr a1 lb := HB.out.keep fun x hq hx => hW.block _ (HB.out.lt x hq hx)
    by_cases h1 : k < la.length
    · obtain ⟨b1, o1, rfl, hc1⟩ := hA.at h1
      have hb1 : b1 < w.heap.size := HA.out.lt _ (by intro e; simp [e] at h1) rfl
      have hv1 := ha _ (List.getElem_mem h1)
      have HT1 : Hid (la.take (k + 1) = la.take k ++ [la[k]]) := take_next h1
      have hta := mem_take_lt ha k
      go_wp2_with fail
      refine (add_one X (la.take k) la[k] b1 (o1 + k) (cap0 - k) hta hv1 wr HX.out hc1 (by omega)).mono ?_
      rintro e w4 ⟨rfl, hx4, hO4⟩
      have hW4 : Below w.heap.size w w4 := hW.trans (hO4.below hB1)
      have HX4 : Hid (IsSum w4 X (la.take (k + 1))) := by show IsSum w4 X (la.take (k + 1)); rw [HT1.out]; exact hx4
      have HY4 : Hid (IsSum w4 Y (lb.take k)) := HY.out.of_block (hO4.block _ (by omega))
      have hB4 : BytesAt w4 a1 lb := HB.out.keep fun x hq hx => hW4.block _ (HB.out.lt x hq hx)
      clear hx4 hc1 hA hB hW hO4
      by_cases h2 : k < lb.length
      · obtain ⟨b2, o2, rfl, hc2⟩ := hB4.at h2
        have hb2 : b2 < w.heap.size := HB.out.lt _ (by intro e; simp [e] at h2) rfl
        have hv2 := hb _ (List.getElem_mem h2)
        have HT2 : Hid (lb.take (k + 1) = lb.take k ++ [lb[k]]) := take_next h2
        have htb := mem_take_lt hb k
        go_wp2_with fail
        refine (add_one Y (lb.take k) lb[k] b2 (o2 + k) (cap1 - k) htb hv2 w4 HY4.out hc2 (by omega)).mono ?_
        rintro e w5 ⟨rfl, hy5, hO5⟩
        have hW5 : Below w.heap.size w w5 := hW4.trans (hO5.below (by omega))
        have HY5 : Hid (IsSum w5 Y (lb.take (k + 1))) := by show IsSum w5 Y (lb.take (k + 1)); rw [HT2.out]; exact hy5
        have HX5 : Hid (IsSum w5 X (la.take (k + 1))) := HX4.out.of_block (hO5.block _ (by omega))
        clear hy5 hc2 hB4 hW4 hO5
        go_wp2_with fail
        go_roundw
        case rel => exact ⟨k + 1, by omega, by go_num, HX5.out, HY5.out, hW5⟩
        case measure => simp [intOf]; omega
      · have HY5 : Hid (IsSum w4 Y (lb.take (k + 1))) := by show IsSum w4 Y (lb.take (k + 1)); rw [take_same (by omega)]; exact HY4.out
        go_wp2_with fail
        go_roundw
        case rel => exact ⟨k + 1, by omega, by go_num, HX4.out, HY5.out, hW4⟩
        case measure => simp [intOf]; omega
    · by_cases h2 : k < lb.length
      · obtain ⟨b2, o2, rfl, hc2⟩ := hB.at h2
        have hb2 : b2 < w.heap.size := HB.out.lt _ (by intro e; simp [e] at h2) rfl
        have hv2 := hb _ (List.getElem_mem h2)
        have HT2 : Hid (lb.take (k + 1) = lb.take k ++ [lb[k]]) := take_next h2
        have htb := mem_take_lt hb k
        go_wp2_with fail
        refine (add_one Y (lb.take k) lb[k] b2 (o2 + k) (cap1 - k) htb hv2 wr HY.out hc2 (by omega)).mono ?_
        rintro e w5 ⟨rfl, hy5, hO5⟩
        have hW5 : Below w.heap.size w w5 := hW.trans (hO5.below (by omega))
        have HY5 : Hid (IsSum w5 Y (lb.take (k + 1))) := by show IsSum w5 Y (lb.take (k + 1)); rw [HT2.out]; exact hy5
        have HX5 : Hid (IsSum w5 X (la.take (k + 1))) := by show IsSum w5 X (la.take (k + 1)); rw [take_same (by omega)]; exact HX.out.of_block (hO5.block _ (by omega))
        clear hy5 hc2 hB hA hW hO5
        go_wp2_with fail
        go_roundw
        case rel => exact ⟨k + 1, by omega, by go_num, HX5.out, HY5.out, hW5⟩
        case measure => simp [intOf]; omega
      · have HXE : Hid (IsSum wr X la) := by
          have := HX.out; rw [List.take_of_length_le (by omega)] at this; exact this
        have HYE : Hid (IsSum wr Y lb) := by
          have := HY.out; rw [List.take_of_length_le (by omega)] at this; exact this
        clear HX HY
        go_wp2_with fail
        refine (now_any X la wr HXE.out).mono ?_
        rintro e w5 ⟨rfl, rfl⟩
        go_wp2_with fail
        refine (ref_any a0 cap0 la HLA.out ha _ hA).mono ?_
        rintro e w6 ⟨rfl, rfl⟩
        go_wp2_with fail
        refine (now_any Y lb _ HYE.out).mono ?_
        rintro e w5 ⟨rfl, rfl⟩
        go_wp2_with fail
        refine (ref_any a1 cap1 lb HLB.out hb _ hB).mono ?_
        rintro e w6 ⟨rfl, rfl⟩
        go_wp2_with fail
        go_ret
        exact ⟨rfl, hW⟩

set_option maxHeartbeats 1000000 in
theorem apart_big (n0 n1 : Nat) (a0 a1 : Option Addr) (cap0 cap1 : Nat) (w : World) (hla : n0 ≤ 4611686018427387903) (hlb : n1 ≤ 4611686018427387903) (hsm : 2000 < n0 + n1) :
    Calls Try.prog 5 #[.slice a0 n0 cap0, .slice a1 n1 cap1] w fun e w' => e = .returned (.bool true) ∧ Below w.heap.size w w' := by
  have hnot : ∀ (x : Bool) (w : World), (Op.unary .not (.bool x)).run Try.prog w = .ok (.bool (!x)) w := fun _ _ => rfl
  have hd : decide (2000 < (n0 : Int) + n1) = true := by simp; omega
  go_enter Try.func5, Try.ntmps5
  go_wp2_with fail
  refine (known_any _).mono ?_
  rintro e w1 ⟨rfl, hW1⟩
  go_wp2_with fail
  go_ret
  exact ⟨rfl, hW1⟩
end Go.Proofs.Ytapmnleebimlaaa
