/-
  PROVED: tolllaw6.RecNumbers answers true for every two integers, and leaves all that was there as it was.
-/
import Derived.Test.YtghgkjollafeiaaNums
import Derived.ProofKit
namespace Go.Proofs.Ytghgkjollafeiaa
open Go.RowKit

/-- The last m digits. -/
def hexN : Nat → Nat → List Nat
  | 0, _ => []
  | m + 1, n => dig (n / 16 ^ m % 16) :: hexN m n

theorem hexN_16 (n : Nat) : hexL n = hexN 16 n := rfl

theorem dig_lt (k : Nat) (h : k < 16) : dig k < 256 := by unfold dig; split <;> omega
theorem dig_mono (a b : Nat) (ha : a < 16) (hb : b < 16) : dig a < dig b ↔ a < b := by unfold dig; split <;> split <;> omega

theorem split16 (n m : Nat) : n % 16 ^ (m + 1) = n % 16 ^ m + 16 ^ m * (n / 16 ^ m % 16) := by rw [Nat.pow_succ, Nat.mod_mul]

def u8s (l : List Nat) : List UInt8 := l.map UInt8.ofNat
theorem textOf_list (l : List Nat) : (textOf l).toList = u8s l := by
  rw [ByteArray.toList_eq]
  unfold textOf u8s
  rw [strOfNums_data, List.map_map]
  rfl

theorem less_mul (P x y r s : Nat) (hr : r < P) (hs : s < P) : (r + P * x < s + P * y) ↔ (x < y ∨ x = y ∧ r < s) := by
  constructor
  · intro h
    rcases Nat.lt_trichotomy x y with h1 | h1 | h1
    · exact .inl h1
    · subst h1; exact .inr ⟨rfl, by omega⟩
    · exfalso
      have : P * (y + 1) ≤ P * x := Nat.mul_le_mul_left _ h1
      rw [Nat.mul_add] at this
      omega
  · rintro (h1 | ⟨rfl, h1⟩)
    · have : P * (x + 1) ≤ P * y := Nat.mul_le_mul_left _ h1
      rw [Nat.mul_add] at this
      omega
    · omega

theorem hexN_less (a b : Nat) : ∀ m, Op.bytesLess (u8s (hexN m a)) (u8s (hexN m b)) = decide (a % 16 ^ m < b % 16 ^ m)
  | 0 => by simp [hexN, u8s, Op.bytesLess, Nat.mod_one]
  | m + 1 => by
    have ih := hexN_less a b m
    have hp : 0 < 16 ^ m := Nat.pow_pos (by omega)
    have hx : a / 16 ^ m % 16 < 16 := Nat.mod_lt _ (by omega)
    have hy : b / 16 ^ m % 16 < 16 := Nat.mod_lt _ (by omega)
    rw [split16 a m, split16 b m]
    show Op.bytesLess (UInt8.ofNat (dig (a / 16 ^ m % 16)) :: u8s (hexN m a)) (UInt8.ofNat (dig (b / 16 ^ m % 16)) :: u8s (hexN m b)) = _
    unfold Op.bytesLess
    rw [ih, Bool.eq_iff_iff]
    simp only [Bool.or_eq_true, Bool.and_eq_true, decide_eq_true_eq, beq_iff_eq]
    rw [less_mul (16 ^ m) _ _ _ _ (Nat.mod_lt _ hp) (Nat.mod_lt _ hp)]
    generalize a / 16 ^ m % 16 = x at *
    generalize b / 16 ^ m % 16 = y at *
    have e1 : UInt8.ofNat (dig x) < UInt8.ofNat (dig y) ↔ x < y := by
      rw [UInt8.lt_iff_toNat_lt, UInt8.toNat_ofNat', UInt8.toNat_ofNat', Nat.mod_eq_of_lt (dig_lt x hx), Nat.mod_eq_of_lt (dig_lt y hy)]
      exact dig_mono x y hx hy
    have e2 : UInt8.ofNat (dig x) = UInt8.ofNat (dig y) ↔ x = y := by
      constructor
      · intro h
        have h' := congrArg UInt8.toNat h
        rw [UInt8.toNat_ofNat', UInt8.toNat_ofNat', Nat.mod_eq_of_lt (dig_lt x hx), Nat.mod_eq_of_lt (dig_lt y hy)] at h'
        have h1 := dig_mono x y hx hy
        have h2 := dig_mono y x hy hx
        omega
      · rintro rfl; rfl
    rw [e1, e2]

theorem hex_less (a b : Nat) (ha : a < 9223372036854775808) (hb : b < 9223372036854775808) : Op.bytesLess (textOf (hexL a)).toList (textOf (hexL b)).toList = decide (a < b) := by
  rw [textOf_list, textOf_list, hexN_16, hexN_16, hexN_less, Nat.mod_eq_of_lt (by omega), Nat.mod_eq_of_lt (by omega)]

theorem less_irr : ∀ l : List UInt8, Op.bytesLess l l = false
  | [] => rfl
  | x :: l => by unfold Op.bytesLess; simp [less_irr l]

theorem hex_inj (a b : Nat) (ha : a < 9223372036854775808) (hb : b < 9223372036854775808) (h : (textOf (hexL a)).toList = (textOf (hexL b)).toList) : a = b := by
  have h1 := hex_less a b ha hb
  have h2 := hex_less b a hb ha
  rw [h, less_irr] at h1 h2
  have h1 := of_decide_eq_false h1.symm
  have h2 := of_decide_eq_false h2.symm
  omega

theorem hex_size (a : Nat) : (textOf (hexL a)).size = 16 := by rw [textOf_size]; unfold hexL; simp

set_option maxRecDepth 100000 in
set_option maxHeartbeats 1000000 in
theorem known_any (w : World) : Calls Try.prog 7 #[] w fun e w' => e = .returned (.bool true) ∧ Turn [] w w' := by
  have h255 : textOf (hexL 255) = { data := #[48, 48, 48, 48, 48, 48, 48, 48, 48, 48, 48, 48, 48, 48, 102, 102] } := by decide
  go_enter Try.func7, Try.ntmps7
  go_wp2_with fail
  refine (number_any 255 (by omega) w).mono ?_
  rintro e w1 ⟨rfl, hT⟩
  rw [h255]
  go_wp2_with fail
  go_ret
  exact ⟨rfl, hT⟩

set_option maxRecDepth 100000 in
set_option maxHeartbeats 1000000 in
theorem numbers_any (a b : Nat) (ha : a < 9223372036854775808) (hb : b < 9223372036854775808) (w : World) :
    Calls Try.prog 6 #[.int .i64 (a : Nat), .int .i64 (b : Nat)] w fun e w' => e = .returned (.bool true) ∧ Turn [] w w' := by
  have hl := hex_less a b ha hb
  have hsz := hex_size a
  have heq : ((textOf (hexL a)).toList == (textOf (hexL b)).toList) = ((a : Int) == (b : Int)) := by
    rw [Bool.eq_iff_iff, beq_iff_eq, beq_iff_eq]
    constructor
    · intro h; rw [hex_inj a b ha hb h]
    · intro h; rw [show a = b by omega]
  have hlt : decide (a < b) = decide ((a : Int) < (b : Int)) := decide_eq_decide.2 (by omega)
  rw [hlt] at hl
  go_enter Try.func6, Try.ntmps6
  go_wp2_with fail
  refine (known_any w).mono ?_
  rintro e w1 ⟨rfl, hT⟩
  go_wp2_with fail
  refine (number_any a ha w1).mono ?_
  rintro e w2 ⟨rfl, hT2⟩
  go_wp2_with fail
  refine (number_any b hb w2).mono ?_
  rintro e w3 ⟨rfl, hT3⟩
  go_wp2_with fail
  refine (rnumber_any a ha w3).mono ?_
  rintro e w4 ⟨rfl, rfl⟩
  go_wp2_with fail
  go_ret
  exact ⟨by simp, ((hT.trans hT2).trans hT3)⟩

set_option maxRecDepth 100000 in
set_option maxHeartbeats 1000000 in
theorem numbers_neg (a b : Int) (h : a < 0 ∨ b < 0) (w : World) :
    Calls Try.prog 6 #[.int .i64 a, .int .i64 b] w fun e w' => e = .returned (.bool true) ∧ Turn [] w w' := by
  have hd : (decide (a < 0) || decide (b < 0)) = true := by simpa using h
  go_enter Try.func6, Try.ntmps6
  go_wp2_with fail
  refine (known_any w).mono ?_
  rintro e w1 ⟨rfl, hT⟩
  by_cases ha : a < 0
  · go_wp2_with fail
    go_ret
    exact ⟨rfl, hT⟩
  · have hb : b < 0 := by omega
    go_wp2_with fail
    go_ret
    exact ⟨rfl, hT⟩
end Go.Proofs.Ytghgkjollafeiaa

namespace Go.Proofs.Ytghgkjollafeiaa.recNumbers
open Go.ChangeShapes Go.WideShapes Go.ChangeAt Go.RowKit

theorem own : ownKnob Try.prog.godebug = none := by kernel_rfl

theorem walk (a0 : Int) (a1 : Int) (w0 : (Lit.int .i64 a0).wf = true) (w1 : (Lit.int .i64 a1).wf = true) (w : World) :
    Calls Try.prog 6 #[.int .i64 a0, .int .i64 a1] w fun e w' => e = .returned (.bool true) ∧ Below w.heap.size w w' := by
  have b0 := bounds_i64 w0
  have b1 := bounds_i64 w1
  by_cases h : a0 < 0 ∨ a1 < 0
  · exact (numbers_neg a0 a1 h w).mono fun e w' ⟨he, hT⟩ => ⟨he, hT.below (Nat.le_refl _) (by simp)⟩
  · obtain ⟨a, rfl⟩ := Int.eq_ofNat_of_zero_le (show 0 ≤ a0 by omega)
    obtain ⟨b, rfl⟩ := Int.eq_ofNat_of_zero_le (show 0 ≤ a1 by omega)
    exact (numbers_any a b (by omega) (by omega) w).mono fun e w' ⟨he, hT⟩ => ⟨he, hT.below (Nat.le_refl _) (by simp)⟩

set_option maxRecDepth 100000 in
theorem lifted (os : Os) (started : os.Started) (H : Type) (enc : TypeId × Value → H) :
    ReturnsInHanded {} Try.checked os 6 .any (Rows.recNumbersSpec.pre6 enc Try.prog Try.f6 Rows.recNumbersRow.domain false) (Rows.recNumbersSpec.post enc Try.prog Try.f6 false true false false) := by
  refine returnsInHanded_of_change (C := Try.checked) own started (by kernel_rfl) Try.func6
    (ChangeSpec.witness6 (enc := enc) (C := Try.checked) false ⟨#[], #[.int .i64 0, .int .i64 0], []⟩ 8 (by kernel_rfl) (by kernel_rfl) (by kernel_rfl) (by kernel_rfl)) ?_
  intro W base args ds gs before hval0 hW hcnd _
  have hval : ∀ (j : Nat) t v, Try.f6.params[j]? = some t → args[j]? = some v → Value.okWide Try.prog W .any base t v := hval0
  have hW' := hW
  obtain ⟨p, q, hA0, hV, rfl, hfz, hnd⟩ := hW
  have hA : DataW.TrodAll enc Try.prog W 0 (fun _ => true) true Try.f6.params.toList args.toList ds p := hA0
  rw [Try.params6] at hA hval
  obtain ⟨v0, vs0, d0, ds0, p0, q0, hargs, rfl, rfl, h0, r0⟩ := trodAll_cons hA
  obtain ⟨v1, vs1, d1, ds1, p1, q1, rfl, rfl, rfl, h1, r1⟩ := trodAll_cons r0
  obtain ⟨rfl, rfl, rfl⟩ := trodAll_nil r1
  obtain rfl : args = #[v0, v1] := by cases args; simp_all
  obtain ⟨rfl, rfl⟩ := trodVars_none hV
  obtain ⟨a0, rfl, rfl, rfl, w0⟩ := open_int Try.underlying3 (hval 0 3 v0 rfl rfl) h0
  obtain ⟨a1, rfl, rfl, rfl, w1⟩ := open_int Try.underlying3 (hval 1 3 v1 rfl rfl) h1
  clear hA0 hval0
  simp only [List.append_nil] at hW'
  refine (walk a0 a1 w0 w1 W).mono fun e W' ⟨he, bel⟩ => ?_
  subst he
  exact ⟨_, rfl, _, _, _, [], _, [], hW', trodAll_mk1 (shut_bool Try.underlying4 _), (trodAll_cons_mk (shut_int Try.underlying3 w0) (trodAll_cons_mk (shut_int Try.underlying3 w1) trodAll_mk0)), rfl, bel.frame _, fun h => by cases h⟩

theorem over : Rows.recNumbersRow.holds Try.pinned (OpenSpec.ofChange Rows.recNumbersSpec) :=
  OpenClaim.holds_of_wide 6 Try.f6 rfl rfl rfl rfl rfl rfl rfl ⟨rfl, rfl, rfl, rfl, rfl⟩ rfl rfl rfl rfl rfl (by kernel_rfl) Try.func6 (by kernel_rfl)
    (of_decide_eq_true (by kernel_rfl)) (by unfold Func.isWrapper; first | (rw [if_pos (by decide +kernel)]; kernel_rfl) | (rw [if_neg (by decide +kernel)]; exact ⟨rfl, rfl⟩))
    (fun os started H enc _ => lifted os started H enc)
end Go.Proofs.Ytghgkjollafeiaa.recNumbers

namespace Go.Proofs.Ytghgkjollafeiaa
theorem recNumbers_holds : Rows.RecNumbersSaid := recNumbers.over
end Go.Proofs.Ytghgkjollafeiaa
