/-
  How lots, parts, entries compare.
-/
import Derived.Test.YtghgkjollafeiaaRef2
import Derived.Test.YtghgkjollafeiaaRW
import Derived.BigRegion
import Derived.Deep.QuietTactic
import Derived.BigQuiet
namespace Go.Proofs.Ytghgkjollafeiaa
open Go.RowKit

/-- How two structs of a type compare. -/
def EqlS (t : TypeId) (A B : Array Value) (r : Bool) : Prop := ∀ w, (Op.equalIn 10000 t (.agg A) (.agg B)).run Try.prog w = .ok r w
theorem st_lot : Try.prog.stoodInHeld 82 = false := by kernel_rfl
theorem fo_lot : Try.prog.underlying 82 = some (.struct (Try.prog.fieldsOf 82)) := by kernel_rfl
set_option maxRecDepth 100000 in
set_option maxHeartbeats 6400000 in
theorem eql_lot (x1 u1 : Int) (x2 u2 : Int) (x3 u3 : Int) (x4 u4 : Int) (x5 u5 : Int) (x6 u6 : Int) (x7 u7 : Int) (x8 u8 : Int) (x9 u9 : Int) : EqlS 82 #[Value.int .i64 x1, .int .i64 x2, .int .i64 x3, .int .i64 x4, .int .i64 x5, .int .i64 x6, .int .i64 x7, .int .i64 x8, .int .i64 x9] #[Value.int .i64 u1, .int .i64 u2, .int .i64 u3, .int .i64 u4, .int .i64 u5, .int .i64 u6, .int .i64 u7, .int .i64 u8, .int .i64 u9] (decide (x1 = u1 ∧ x2 = u2 ∧ x3 = u3 ∧ x4 = u4 ∧ x5 = u5 ∧ x6 = u6 ∧ x7 = u7 ∧ x8 = u8 ∧ x9 = u9)) := by
  by_cases h1 : x1 = u1
  · by_cases h2 : x2 = u2
    · by_cases h3 : x3 = u3
      · by_cases h4 : x4 = u4
        · by_cases h5 : x5 = u5
          · by_cases h6 : x6 = u6
            · by_cases h7 : x7 = u7
              · by_cases h8 : x8 = u8
                · by_cases h9 : x9 = u9
                  · rw [decide_eq_true (show x1 = u1 ∧ x2 = u2 ∧ x3 = u3 ∧ x4 = u4 ∧ x5 = u5 ∧ x6 = u6 ∧ x7 = u7 ∧ x8 = u8 ∧ x9 = u9 from ⟨h1, h2, h3, h4, h5, h6, h7, h8, h9⟩)]; intro w; rw [run_equalIn_struct w 9999 82 _ _ fo_lot st_lot]; go_simp
                  · rw [decide_eq_false (show ¬ (x1 = u1 ∧ x2 = u2 ∧ x3 = u3 ∧ x4 = u4 ∧ x5 = u5 ∧ x6 = u6 ∧ x7 = u7 ∧ x8 = u8 ∧ x9 = u9) from fun h => h9 (h.2.2.2.2.2.2.2.2))]; intro w; rw [run_equalIn_struct w 9999 82 _ _ fo_lot st_lot]; go_simp
                · rw [decide_eq_false (show ¬ (x1 = u1 ∧ x2 = u2 ∧ x3 = u3 ∧ x4 = u4 ∧ x5 = u5 ∧ x6 = u6 ∧ x7 = u7 ∧ x8 = u8 ∧ x9 = u9) from fun h => h8 (h.2.2.2.2.2.2.2.1))]; intro w; rw [run_equalIn_struct w 9999 82 _ _ fo_lot st_lot]; go_simp
              · rw [decide_eq_false (show ¬ (x1 = u1 ∧ x2 = u2 ∧ x3 = u3 ∧ x4 = u4 ∧ x5 = u5 ∧ x6 = u6 ∧ x7 = u7 ∧ x8 = u8 ∧ x9 = u9) from fun h => h7 (h.2.2.2.2.2.2.1))]; intro w; rw [run_equalIn_struct w 9999 82 _ _ fo_lot st_lot]; go_simp
            · rw [decide_eq_false (show ¬ (x1 = u1 ∧ x2 = u2 ∧ x3 = u3 ∧ x4 = u4 ∧ x5 = u5 ∧ x6 = u6 ∧ x7 = u7 ∧ x8 = u8 ∧ x9 = u9) from fun h => h6 (h.2.2.2.2.2.1))]; intro w; rw [run_equalIn_struct w 9999 82 _ _ fo_lot st_lot]; go_simp
          · rw [decide_eq_false (show ¬ (x1 = u1 ∧ x2 = u2 ∧ x3 = u3 ∧ x4 = u4 ∧ x5 = u5 ∧ x6 = u6 ∧ x7 = u7 ∧ x8 = u8 ∧ x9 = u9) from fun h => h5 (h.2.2.2.2.1))]; intro w; rw [run_equalIn_struct w 9999 82 _ _ fo_lot st_lot]; go_simp
        · rw [decide_eq_false (show ¬ (x1 = u1 ∧ x2 = u2 ∧ x3 = u3 ∧ x4 = u4 ∧ x5 = u5 ∧ x6 = u6 ∧ x7 = u7 ∧ x8 = u8 ∧ x9 = u9) from fun h => h4 (h.2.2.2.1))]; intro w; rw [run_equalIn_struct w 9999 82 _ _ fo_lot st_lot]; go_simp
      · rw [decide_eq_false (show ¬ (x1 = u1 ∧ x2 = u2 ∧ x3 = u3 ∧ x4 = u4 ∧ x5 = u5 ∧ x6 = u6 ∧ x7 = u7 ∧ x8 = u8 ∧ x9 = u9) from fun h => h3 (h.2.2.1))]; intro w; rw [run_equalIn_struct w 9999 82 _ _ fo_lot st_lot]; go_simp
    · rw [decide_eq_false (show ¬ (x1 = u1 ∧ x2 = u2 ∧ x3 = u3 ∧ x4 = u4 ∧ x5 = u5 ∧ x6 = u6 ∧ x7 = u7 ∧ x8 = u8 ∧ x9 = u9) from fun h => h2 (h.2.1))]; intro w; rw [run_equalIn_struct w 9999 82 _ _ fo_lot st_lot]; go_simp
  · rw [decide_eq_false (show ¬ (x1 = u1 ∧ x2 = u2 ∧ x3 = u3 ∧ x4 = u4 ∧ x5 = u5 ∧ x6 = u6 ∧ x7 = u7 ∧ x8 = u8 ∧ x9 = u9) from fun h => h1 (h.1))]; intro w; rw [run_equalIn_struct w 9999 82 _ _ fo_lot st_lot]; go_simp
theorem st_part : Try.prog.stoodInHeld 84 = false := by kernel_rfl
theorem fo_part : Try.prog.underlying 84 = some (.struct (Try.prog.fieldsOf 84)) := by kernel_rfl
set_option maxRecDepth 100000 in
set_option maxHeartbeats 6400000 in
theorem eql_part (x1 u1 : Int) (x2 u2 : Int) : EqlS 84 #[Value.int .i64 x1, .int .i64 x2] #[Value.int .i64 u1, .int .i64 u2] (decide (x1 = u1 ∧ x2 = u2)) := by
  by_cases h1 : x1 = u1
  · by_cases h2 : x2 = u2
    · rw [decide_eq_true (show x1 = u1 ∧ x2 = u2 from ⟨h1, h2⟩)]; intro w; rw [run_equalIn_struct w 9999 84 _ _ fo_part st_part]; go_simp
    · rw [decide_eq_false (show ¬ (x1 = u1 ∧ x2 = u2) from fun h => h2 (h.2))]; intro w; rw [run_equalIn_struct w 9999 84 _ _ fo_part st_part]; go_simp
  · rw [decide_eq_false (show ¬ (x1 = u1 ∧ x2 = u2) from fun h => h1 (h.1))]; intro w; rw [run_equalIn_struct w 9999 84 _ _ fo_part st_part]; go_simp
theorem st_ent : Try.prog.stoodInHeld 69 = false := by kernel_rfl
theorem fo_ent : Try.prog.underlying 69 = some (.struct (Try.prog.fieldsOf 69)) := by kernel_rfl
set_option maxRecDepth 100000 in
set_option maxHeartbeats 6400000 in
theorem eql_ent (x1 u1 : Int) (x2 u2 : Int) (x3 u3 : Int) (x4 u4 : Int) (x5 u5 : Int) (x6 u6 : ByteArray) (x7 u7 : Int) (x8 u8 : Int) (x9 u9 : Int) (x10 u10 : Int) (x11 u11 : Int) (x12 u12 : Int) (x13 u13 : Int) (x14 u14 : Int) : EqlS 69 #[Value.int .i64 x1, .int .i64 x2, .int .i64 x3, .int .i64 x4, .int .i64 x5, .string x6, .int .i64 x7, .int .i64 x8, .int .i64 x9, .int .i64 x10, .int .i64 x11, .int .i64 x12, .int .i64 x13, .int .i64 x14] #[Value.int .i64 u1, .int .i64 u2, .int .i64 u3, .int .i64 u4, .int .i64 u5, .string u6, .int .i64 u7, .int .i64 u8, .int .i64 u9, .int .i64 u10, .int .i64 u11, .int .i64 u12, .int .i64 u13, .int .i64 u14] (decide (x1 = u1 ∧ x2 = u2 ∧ x3 = u3 ∧ x4 = u4 ∧ x5 = u5 ∧ x6.toList = u6.toList ∧ x7 = u7 ∧ x8 = u8 ∧ x9 = u9 ∧ x10 = u10 ∧ x11 = u11 ∧ x12 = u12 ∧ x13 = u13 ∧ x14 = u14)) := by
  by_cases h1 : x1 = u1
  · by_cases h2 : x2 = u2
    · by_cases h3 : x3 = u3
      · by_cases h4 : x4 = u4
        · by_cases h5 : x5 = u5
          · by_cases h6 : x6.toList = u6.toList
            · by_cases h7 : x7 = u7
              · by_cases h8 : x8 = u8
                · by_cases h9 : x9 = u9
                  · by_cases h10 : x10 = u10
                    · by_cases h11 : x11 = u11
                      · by_cases h12 : x12 = u12
                        · by_cases h13 : x13 = u13
                          · by_cases h14 : x14 = u14
                            · rw [decide_eq_true (show x1 = u1 ∧ x2 = u2 ∧ x3 = u3 ∧ x4 = u4 ∧ x5 = u5 ∧ x6.toList = u6.toList ∧ x7 = u7 ∧ x8 = u8 ∧ x9 = u9 ∧ x10 = u10 ∧ x11 = u11 ∧ x12 = u12 ∧ x13 = u13 ∧ x14 = u14 from ⟨h1, h2, h3, h4, h5, h6, h7, h8, h9, h10, h11, h12, h13, h14⟩)]; intro w; rw [run_equalIn_struct w 9999 69 _ _ fo_ent st_ent]; go_simp
                            · rw [decide_eq_false (show ¬ (x1 = u1 ∧ x2 = u2 ∧ x3 = u3 ∧ x4 = u4 ∧ x5 = u5 ∧ x6.toList = u6.toList ∧ x7 = u7 ∧ x8 = u8 ∧ x9 = u9 ∧ x10 = u10 ∧ x11 = u11 ∧ x12 = u12 ∧ x13 = u13 ∧ x14 = u14) from fun h => h14 (h.2.2.2.2.2.2.2.2.2.2.2.2.2))]; intro w; rw [run_equalIn_struct w 9999 69 _ _ fo_ent st_ent]; go_simp
                          · rw [decide_eq_false (show ¬ (x1 = u1 ∧ x2 = u2 ∧ x3 = u3 ∧ x4 = u4 ∧ x5 = u5 ∧ x6.toList = u6.toList ∧ x7 = u7 ∧ x8 = u8 ∧ x9 = u9 ∧ x10 = u10 ∧ x11 = u11 ∧ x12 = u12 ∧ x13 = u13 ∧ x14 = u14) from fun h => h13 (h.2.2.2.2.2.2.2.2.2.2.2.2.1))]; intro w; rw [run_equalIn_struct w 9999 69 _ _ fo_ent st_ent]; go_simp
                        · rw [decide_eq_false (show ¬ (x1 = u1 ∧ x2 = u2 ∧ x3 = u3 ∧ x4 = u4 ∧ x5 = u5 ∧ x6.toList = u6.toList ∧ x7 = u7 ∧ x8 = u8 ∧ x9 = u9 ∧ x10 = u10 ∧ x11 = u11 ∧ x12 = u12 ∧ x13 = u13 ∧ x14 = u14) from fun h => h12 (h.2.2.2.2.2.2.2.2.2.2.2.1))]; intro w; rw [run_equalIn_struct w 9999 69 _ _ fo_ent st_ent]; go_simp
                      · rw [decide_eq_false (show ¬ (x1 = u1 ∧ x2 = u2 ∧ x3 = u3 ∧ x4 = u4 ∧ x5 = u5 ∧ x6.toList = u6.toList ∧ x7 = u7 ∧ x8 = u8 ∧ x9 = u9 ∧ x10 = u10 ∧ x11 = u11 ∧ x12 = u12 ∧ x13 = u13 ∧ x14 = u14) from fun h => h11 (h.2.2.2.2.2.2.2.2.2.2.1))]; intro w; rw [run_equalIn_struct w 9999 69 _ _ fo_ent st_ent]; go_simp
                    · rw [decide_eq_false (show ¬ (x1 = u1 ∧ x2 = u2 ∧ x3 = u3 ∧ x4 = u4 ∧ x5 = u5 ∧ x6.toList = u6.toList ∧ x7 = u7 ∧ x8 = u8 ∧ x9 = u9 ∧ x10 = u10 ∧ x11 = u11 ∧ x12 = u12 ∧ x13 = u13 ∧ x14 = u14) from fun h => h10 (h.2.2.2.2.2.2.2.2.2.1))]; intro w; rw [run_equalIn_struct w 9999 69 _ _ fo_ent st_ent]; go_simp
                  · rw [decide_eq_false (show ¬ (x1 = u1 ∧ x2 = u2 ∧ x3 = u3 ∧ x4 = u4 ∧ x5 = u5 ∧ x6.toList = u6.toList ∧ x7 = u7 ∧ x8 = u8 ∧ x9 = u9 ∧ x10 = u10 ∧ x11 = u11 ∧ x12 = u12 ∧ x13 = u13 ∧ x14 = u14) from fun h => h9 (h.2.2.2.2.2.2.2.2.1))]; intro w; rw [run_equalIn_struct w 9999 69 _ _ fo_ent st_ent]; go_simp
                · rw [decide_eq_false (show ¬ (x1 = u1 ∧ x2 = u2 ∧ x3 = u3 ∧ x4 = u4 ∧ x5 = u5 ∧ x6.toList = u6.toList ∧ x7 = u7 ∧ x8 = u8 ∧ x9 = u9 ∧ x10 = u10 ∧ x11 = u11 ∧ x12 = u12 ∧ x13 = u13 ∧ x14 = u14) from fun h => h8 (h.2.2.2.2.2.2.2.1))]; intro w; rw [run_equalIn_struct w 9999 69 _ _ fo_ent st_ent]; go_simp
              · rw [decide_eq_false (show ¬ (x1 = u1 ∧ x2 = u2 ∧ x3 = u3 ∧ x4 = u4 ∧ x5 = u5 ∧ x6.toList = u6.toList ∧ x7 = u7 ∧ x8 = u8 ∧ x9 = u9 ∧ x10 = u10 ∧ x11 = u11 ∧ x12 = u12 ∧ x13 = u13 ∧ x14 = u14) from fun h => h7 (h.2.2.2.2.2.2.1))]; intro w; rw [run_equalIn_struct w 9999 69 _ _ fo_ent st_ent]; go_simp
            · rw [decide_eq_false (show ¬ (x1 = u1 ∧ x2 = u2 ∧ x3 = u3 ∧ x4 = u4 ∧ x5 = u5 ∧ x6.toList = u6.toList ∧ x7 = u7 ∧ x8 = u8 ∧ x9 = u9 ∧ x10 = u10 ∧ x11 = u11 ∧ x12 = u12 ∧ x13 = u13 ∧ x14 = u14) from fun h => h6 (h.2.2.2.2.2.1))]; intro w; rw [run_equalIn_struct w 9999 69 _ _ fo_ent st_ent]; go_simp
          · rw [decide_eq_false (show ¬ (x1 = u1 ∧ x2 = u2 ∧ x3 = u3 ∧ x4 = u4 ∧ x5 = u5 ∧ x6.toList = u6.toList ∧ x7 = u7 ∧ x8 = u8 ∧ x9 = u9 ∧ x10 = u10 ∧ x11 = u11 ∧ x12 = u12 ∧ x13 = u13 ∧ x14 = u14) from fun h => h5 (h.2.2.2.2.1))]; intro w; rw [run_equalIn_struct w 9999 69 _ _ fo_ent st_ent]; go_simp
        · rw [decide_eq_false (show ¬ (x1 = u1 ∧ x2 = u2 ∧ x3 = u3 ∧ x4 = u4 ∧ x5 = u5 ∧ x6.toList = u6.toList ∧ x7 = u7 ∧ x8 = u8 ∧ x9 = u9 ∧ x10 = u10 ∧ x11 = u11 ∧ x12 = u12 ∧ x13 = u13 ∧ x14 = u14) from fun h => h4 (h.2.2.2.1))]; intro w; rw [run_equalIn_struct w 9999 69 _ _ fo_ent st_ent]; go_simp
      · rw [decide_eq_false (show ¬ (x1 = u1 ∧ x2 = u2 ∧ x3 = u3 ∧ x4 = u4 ∧ x5 = u5 ∧ x6.toList = u6.toList ∧ x7 = u7 ∧ x8 = u8 ∧ x9 = u9 ∧ x10 = u10 ∧ x11 = u11 ∧ x12 = u12 ∧ x13 = u13 ∧ x14 = u14) from fun h => h3 (h.2.2.1))]; intro w; rw [run_equalIn_struct w 9999 69 _ _ fo_ent st_ent]; go_simp
    · rw [decide_eq_false (show ¬ (x1 = u1 ∧ x2 = u2 ∧ x3 = u3 ∧ x4 = u4 ∧ x5 = u5 ∧ x6.toList = u6.toList ∧ x7 = u7 ∧ x8 = u8 ∧ x9 = u9 ∧ x10 = u10 ∧ x11 = u11 ∧ x12 = u12 ∧ x13 = u13 ∧ x14 = u14) from fun h => h2 (h.2.1))]; intro w; rw [run_equalIn_struct w 9999 69 _ _ fo_ent st_ent]; go_simp
  · rw [decide_eq_false (show ¬ (x1 = u1 ∧ x2 = u2 ∧ x3 = u3 ∧ x4 = u4 ∧ x5 = u5 ∧ x6.toList = u6.toList ∧ x7 = u7 ∧ x8 = u8 ∧ x9 = u9 ∧ x10 = u10 ∧ x11 = u11 ∧ x12 = u12 ∧ x13 = u13 ∧ x14 = u14) from fun h => h1 (h.1))]; intro w; rw [run_equalIn_struct w 9999 69 _ _ fo_ent st_ent]; go_simp
end Go.Proofs.Ytghgkjollafeiaa

/-
  Rows held against one another, walked.
-/
namespace Go.Proofs.Ytghgkjollafeiaa
open Go.RowKit

/-- A row of so many elements, each of so many cells. -/
def RowsN (w : World) (a : Option Addr) (n sz : Nat) (A : Nat → List Value) : Prop := 0 < n → ∃ b o, a = some ⟨b, o, none⟩ ∧ ∀ k, k < n → w.rangeAt b (o + k * sz) (A k) ∧ (A k).length = sz
/-- Are they as many, and each the same? -/
def rowsB (n1 n2 : Nat) (q : Nat → Bool) : Bool := n1 == n2 && (List.range n1).all q
theorem listN2 (l : List Value) (h : l.length = 2) : ∃ p0 p1, l = [p0, p1] := by
  match l, h with
  | [p0, p1], _ => exact ⟨p0, p1, rfl⟩
theorem listN9 (l : List Value) (h : l.length = 9) : ∃ p0 p1 p2 p3 p4 p5 p6 p7 p8, l = [p0, p1, p2, p3, p4, p5, p6, p7, p8] := by
  match l, h with
  | [p0, p1, p2, p3, p4, p5, p6, p7, p8], _ => exact ⟨p0, p1, p2, p3, p4, p5, p6, p7, p8, rfl⟩
theorem listN14 (l : List Value) (h : l.length = 14) : ∃ p0 p1 p2 p3 p4 p5 p6 p7 p8 p9 p10 p11 p12 p13, l = [p0, p1, p2, p3, p4, p5, p6, p7, p8, p9, p10, p11, p12, p13] := by
  match l, h with
  | [p0, p1, p2, p3, p4, p5, p6, p7, p8, p9, p10, p11, p12, p13], _ => exact ⟨p0, p1, p2, p3, p4, p5, p6, p7, p8, p9, p10, p11, p12, p13, rfl⟩

set_option maxRecDepth 100000 in
set_option maxHeartbeats 4000000 in
theorem same_60 (a b : Option Addr) (ca cb n1 n2 : Nat) (A B : Nat → List Value) (q : Nat → Bool) (w : World) (hlen : n1 ≤ 100000) (hA : RowsN w a n1 2 A) (hB : RowsN w b n2 2 B) (hE : n1 = n2 → ∀ i, i < n1 → EqlS 84 (A i).toArray (B i).toArray (q i)) :
    Calls Try.prog 60 #[.slice a n1 ca, .slice b n2 cb] w fun e w' => e = .returned (.bool (rowsB n1 n2 q)) ∧ ∃ m, w' = w.drewN m := by
  by_cases hn : n1 = n2
  · subst hn
    have HA := hide hA
    have HB := hide hB
    have HE := hide (hE rfl)
    clear hA hB hE
    have HR : Hid (rowsB n1 n1 q = (List.range n1).all q) := by show _ = _; unfold rowsB; simp
    rw [HR.out]
    clear HR
    go_enter Try.func60, Try.ntmps60
    go_wp2_with fail
    go_loopw [5] (fun i wr => ∃ (k m : Nat), k ≤ n1 ∧ i = .int .i64 k ∧ Hid (wr = w.drewN m) ∧ Hid ((List.range k).all q = true)) (fun i _ => n1 - (intOf i).toNat)
    case atStart => exact ⟨0, 0, Nat.zero_le _, rfl, rfl, rfl⟩
    case round =>
      obtain ⟨k, m, hk, rfl, HW, HQ⟩ := hrel
      by_cases hlt : k < n1
      · obtain ⟨b1, o1, rfl, hx⟩ := HA.out (by omega)
        obtain ⟨b2, o2, rfl, hy⟩ := HB.out (by omega)
        obtain ⟨p0, p1, hp⟩ := listN2 (A k) (hx k hlt).2
        obtain ⟨r0, r1, hr⟩ := listN2 (B k) (hy k hlt).2
        have hx := (hx k hlt).1
        have hy := (hy k hlt).1
        have heq := HE.out k hlt
        rw [hp] at hx heq
        rw [hr] at hy heq
        have hc : ∀ u, wr.cell? u = w.cell? u := fun u => by rw [HW.out]; rfl
        have c0 := (hc ⟨b1, o1 + k * 2, none⟩).trans (hx 0 _ rfl)
        have d0 := (hc ⟨b2, o2 + k * 2, none⟩).trans (hy 0 _ rfl)
        have c1 := (hc ⟨b1, o1 + k * 2 + 1, none⟩).trans (hx 1 _ rfl)
        have d1 := (hc ⟨b2, o2 + k * 2 + 1, none⟩).trans (hy 1 _ rfl)
        have heq' : ∀ w, (Op.equalIn 10000 84 (.agg #[p0, p1]) (.agg #[r0, r1])).run Try.prog w = .ok (q k) w := heq
        clear hx hy hp hr hc heq
        by_cases hq : q k = true
        · rw [hq] at heq'
          have HQn : Hid ((List.range (k + 1)).all q = true) := by
            show _ = _
            rw [List.range_succ, List.all_append, HQ.out]
            simp [hq]
          clear hq
          go_wp2_with fail
          go_quiet (fail)
          clear c0 d0 c1 d1 heq'
          go_wp2_with fail
          go_roundw
          case rel => exact ⟨k + 1, m + _, by omega, by go_num, by unfold Hid; rw [HW.out, World.drewN_drewN], HQn⟩
          case measure => simp [intOf]; omega
        · have hq : q k = false := by simpa using hq
          rw [hq] at heq'
          have HQn : Hid ((List.range n1).all q = false) := by
            show _ = _
            rw [List.all_eq_false]
            exact ⟨k, List.mem_range.2 hlt, by simp [hq]⟩
          clear hq
          go_wp2_with fail
          go_quiet (fail)
          clear c0 d0 c1 d1 heq'
          go_wp2_with fail
          go_ret
          exact ⟨by rw [HQn.out]; rfl, m + _, by rw [HW.out, World.drewN_drewN]⟩
      · obtain rfl : k = n1 := by omega
        go_wp2_with fail
        go_ret
        exact ⟨by rw [HQ.out]; rfl, m, HW.out⟩
  · have hr : rowsB n1 n2 q = false := by unfold rowsB; simp [hn]
    rw [hr]
    have hne : ¬ ((n1 : Int) = (n2 : Int)) := by omega
    clear hA hB hE hr
    go_enter Try.func60, Try.ntmps60
    go_wp2_with fail
    go_ret
    exact ⟨rfl, 0, rfl⟩

set_option maxRecDepth 100000 in
set_option maxHeartbeats 4000000 in
theorem same_61 (a b : Option Addr) (ca cb n1 n2 : Nat) (A B : Nat → List Value) (q : Nat → Bool) (w : World) (hlen : n1 ≤ 100000) (hA : RowsN w a n1 2 A) (hB : RowsN w b n2 2 B) (hE : n1 = n2 → ∀ i, i < n1 → EqlS 84 (A i).toArray (B i).toArray (q i)) :
    Calls Try.prog 61 #[.slice a n1 ca, .slice b n2 cb] w fun e w' => e = .returned (.bool (rowsB n1 n2 q)) ∧ ∃ m, w' = w.drewN m := by
  by_cases hn : n1 = n2
  · subst hn
    have HA := hide hA
    have HB := hide hB
    have HE := hide (hE rfl)
    clear hA hB hE
    have HR : Hid (rowsB n1 n1 q = (List.range n1).all q) := by show _ = _; unfold rowsB; simp
    rw [HR.out]
    clear HR
    go_enter Try.func61, Try.ntmps61
    go_wp2_with fail
    go_loopw [5, 13] (fun _ i wr => ∃ (k m : Nat), k ≤ n1 ∧ i = .int .i64 k ∧ Hid (wr = w.drewN m) ∧ Hid ((List.range k).all q = true)) (fun _ i _ => n1 - (intOf i).toNat)
    case atStart => exact ⟨0, 0, Nat.zero_le _, rfl, rfl, rfl⟩
    case round =>
      obtain ⟨k, m, hk, rfl, HW, HQ⟩ := hrel
      by_cases hlt : k < n1
      · obtain ⟨b1, o1, rfl, hx⟩ := HA.out (by omega)
        obtain ⟨b2, o2, rfl, hy⟩ := HB.out (by omega)
        obtain ⟨p0, p1, hp⟩ := listN2 (A k) (hx k hlt).2
        obtain ⟨r0, r1, hr⟩ := listN2 (B k) (hy k hlt).2
        have hx := (hx k hlt).1
        have hy := (hy k hlt).1
        have heq := HE.out k hlt
        rw [hp] at hx heq
        rw [hr] at hy heq
        have hc : ∀ u, wr.cell? u = w.cell? u := fun u => by rw [HW.out]; rfl
        have c0 := (hc ⟨b1, o1 + k * 2, none⟩).trans (hx 0 _ rfl)
        have d0 := (hc ⟨b2, o2 + k * 2, none⟩).trans (hy 0 _ rfl)
        have c1 := (hc ⟨b1, o1 + k * 2 + 1, none⟩).trans (hx 1 _ rfl)
        have d1 := (hc ⟨b2, o2 + k * 2 + 1, none⟩).trans (hy 1 _ rfl)
        have heq' : ∀ w, (Op.equalIn 10000 84 (.agg #[p0, p1]) (.agg #[r0, r1])).run Try.prog w = .ok (q k) w := heq
        clear hx hy hp hr hc heq
        by_cases hq : q k = true
        · rw [hq] at heq'
          have HQn : Hid ((List.range (k + 1)).all q = true) := by
            show _ = _
            rw [List.range_succ, List.all_append, HQ.out]
            simp [hq]
          clear hq
          go_wp2_with fail
          go_quiet (fail)
          clear c0 d0 c1 d1 heq'
          go_wp2_with fail
          go_roundw
          case rel => exact ⟨k + 1, m + _, by omega, by go_num, by unfold Hid; rw [HW.out, World.drewN_drewN], HQn⟩
          case measure => simp [intOf]; omega
        · have hq : q k = false := by simpa using hq
          rw [hq] at heq'
          have HQn : Hid ((List.range n1).all q = false) := by
            show _ = _
            rw [List.all_eq_false]
            exact ⟨k, List.mem_range.2 hlt, by simp [hq]⟩
          clear hq
          go_wp2_with fail
          go_quiet (fail)
          clear c0 d0 c1 d1 heq'
          go_wp2_with fail
          go_ret
          exact ⟨by rw [HQn.out]; rfl, m + _, by rw [HW.out, World.drewN_drewN]⟩
      · obtain rfl : k = n1 := by omega
        go_wp2_with fail
        go_ret
        exact ⟨by rw [HQ.out]; rfl, m, HW.out⟩
  · have hr : rowsB n1 n2 q = false := by unfold rowsB; simp [hn]
    rw [hr]
    have hne : ¬ ((n1 : Int) = (n2 : Int)) := by omega
    clear hA hB hE hr
    go_enter Try.func61, Try.ntmps61
    go_wp2_with fail
    go_ret
    exact ⟨rfl, 0, rfl⟩

set_option maxRecDepth 100000 in
set_option maxHeartbeats 4000000 in
theorem same_34 (a b : Option Addr) (ca cb n1 n2 : Nat) (A B : Nat → List Value) (q : Nat → Bool) (w : World) (hlen : n1 ≤ 100000) (hA : RowsN w a n1 9 A) (hB : RowsN w b n2 9 B) (hE : n1 = n2 → ∀ i, i < n1 → EqlS 82 (A i).toArray (B i).toArray (q i)) :
    Calls Try.prog 34 #[.slice a n1 ca, .slice b n2 cb] w fun e w' => e = .returned (.bool (rowsB n1 n2 q)) ∧ ∃ m, w' = w.drewN m := by
  by_cases hn : n1 = n2
  · subst hn
    have HA := hide hA
    have HB := hide hB
    have HE := hide (hE rfl)
    clear hA hB hE
    have HR : Hid (rowsB n1 n1 q = (List.range n1).all q) := by show _ = _; unfold rowsB; simp
    rw [HR.out]
    clear HR
    go_enter Try.func34, Try.ntmps34
    go_wp2_with fail
    go_loopw [5] (fun i wr => ∃ (k m : Nat), k ≤ n1 ∧ i = .int .i64 k ∧ Hid (wr = w.drewN m) ∧ Hid ((List.range k).all q = true)) (fun i _ => n1 - (intOf i).toNat)
    case atStart => exact ⟨0, 0, Nat.zero_le _, rfl, rfl, rfl⟩
    case round =>
      obtain ⟨k, m, hk, rfl, HW, HQ⟩ := hrel
      by_cases hlt : k < n1
      · obtain ⟨b1, o1, rfl, hx⟩ := HA.out (by omega)
        obtain ⟨b2, o2, rfl, hy⟩ := HB.out (by omega)
        obtain ⟨p0, p1, p2, p3, p4, p5, p6, p7, p8, hp⟩ := listN9 (A k) (hx k hlt).2
        obtain ⟨r0, r1, r2, r3, r4, r5, r6, r7, r8, hr⟩ := listN9 (B k) (hy k hlt).2
        have hx := (hx k hlt).1
        have hy := (hy k hlt).1
        have heq := HE.out k hlt
        rw [hp] at hx heq
        rw [hr] at hy heq
        have hc : ∀ u, wr.cell? u = w.cell? u := fun u => by rw [HW.out]; rfl
        have c0 := (hc ⟨b1, o1 + k * 9, none⟩).trans (hx 0 _ rfl)
        have d0 := (hc ⟨b2, o2 + k * 9, none⟩).trans (hy 0 _ rfl)
        have c1 := (hc ⟨b1, o1 + k * 9 + 1, none⟩).trans (hx 1 _ rfl)
        have d1 := (hc ⟨b2, o2 + k * 9 + 1, none⟩).trans (hy 1 _ rfl)
        have c2 := (hc ⟨b1, o1 + k * 9 + 2, none⟩).trans (hx 2 _ rfl)
        have d2 := (hc ⟨b2, o2 + k * 9 + 2, none⟩).trans (hy 2 _ rfl)
        have c3 := (hc ⟨b1, o1 + k * 9 + 3, none⟩).trans (hx 3 _ rfl)
        have d3 := (hc ⟨b2, o2 + k * 9 + 3, none⟩).trans (hy 3 _ rfl)
        have c4 := (hc ⟨b1, o1 + k * 9 + 4, none⟩).trans (hx 4 _ rfl)
        have d4 := (hc ⟨b2, o2 + k * 9 + 4, none⟩).trans (hy 4 _ rfl)
        have c5 := (hc ⟨b1, o1 + k * 9 + 5, none⟩).trans (hx 5 _ rfl)
        have d5 := (hc ⟨b2, o2 + k * 9 + 5, none⟩).trans (hy 5 _ rfl)
        have c6 := (hc ⟨b1, o1 + k * 9 + 6, none⟩).trans (hx 6 _ rfl)
        have d6 := (hc ⟨b2, o2 + k * 9 + 6, none⟩).trans (hy 6 _ rfl)
        have c7 := (hc ⟨b1, o1 + k * 9 + 7, none⟩).trans (hx 7 _ rfl)
        have d7 := (hc ⟨b2, o2 + k * 9 + 7, none⟩).trans (hy 7 _ rfl)
        have c8 := (hc ⟨b1, o1 + k * 9 + 8, none⟩).trans (hx 8 _ rfl)
        have d8 := (hc ⟨b2, o2 + k * 9 + 8, none⟩).trans (hy 8 _ rfl)
        have heq' : ∀ w, (Op.equalIn 10000 82 (.agg #[p0, p1, p2, p3, p4, p5, p6, p7, p8]) (.agg #[r0, r1, r2, r3, r4, r5, r6, r7, r8])).run Try.prog w = .ok (q k) w := heq
        clear hx hy hp hr hc heq
        by_cases hq : q k = true
        · rw [hq] at heq'
          have HQn : Hid ((List.range (k + 1)).all q = true) := by
            show _ = _
            rw [List.range_succ, List.all_append, HQ.out]
            simp [hq]
          clear hq
          go_wp2_with fail
          go_quiet (fail)
          clear c0 d0 c1 d1 c2 d2 c3 d3 c4 d4 c5 d5 c6 d6 c7 d7 c8 d8 heq'
          go_wp2_with fail
          go_roundw
          case rel => exact ⟨k + 1, m + _, by omega, by go_num, by unfold Hid; rw [HW.out, World.drewN_drewN], HQn⟩
          case measure => simp [intOf]; omega
        · have hq : q k = false := by simpa using hq
          rw [hq] at heq'
          have HQn : Hid ((List.range n1).all q = false) := by
            show _ = _
            rw [List.all_eq_false]
            exact ⟨k, List.mem_range.2 hlt, by simp [hq]⟩
          clear hq
          go_wp2_with fail
          go_quiet (fail)
          clear c0 d0 c1 d1 c2 d2 c3 d3 c4 d4 c5 d5 c6 d6 c7 d7 c8 d8 heq'
          go_wp2_with fail
          go_ret
          exact ⟨by rw [HQn.out]; rfl, m + _, by rw [HW.out, World.drewN_drewN]⟩
      · obtain rfl : k = n1 := by omega
        go_wp2_with fail
        go_ret
        exact ⟨by rw [HQ.out]; rfl, m, HW.out⟩
  · have hr : rowsB n1 n2 q = false := by unfold rowsB; simp [hn]
    rw [hr]
    have hne : ¬ ((n1 : Int) = (n2 : Int)) := by omega
    clear hA hB hE hr
    go_enter Try.func34, Try.ntmps34
    go_wp2_with fail
    go_ret
    exact ⟨rfl, 0, rfl⟩

set_option maxRecDepth 100000 in
set_option maxHeartbeats 4000000 in
theorem same_37 (a b : Option Addr) (ca cb n1 n2 : Nat) (A B : Nat → List Value) (q : Nat → Bool) (w : World) (hlen : n1 ≤ 100000) (hA : RowsN w a n1 9 A) (hB : RowsN w b n2 9 B) (hE : n1 = n2 → ∀ i, i < n1 → EqlS 82 (A i).toArray (B i).toArray (q i)) :
    Calls Try.prog 37 #[.slice a n1 ca, .slice b n2 cb] w fun e w' => e = .returned (.bool (rowsB n1 n2 q)) ∧ ∃ m, w' = w.drewN m := by
  by_cases hn : n1 = n2
  · subst hn
    have HA := hide hA
    have HB := hide hB
    have HE := hide (hE rfl)
    clear hA hB hE
    have HR : Hid (rowsB n1 n1 q = (List.range n1).all q) := by show _ = _; unfold rowsB; simp
    rw [HR.out]
    clear HR
    go_enter Try.func37, Try.ntmps37
    go_wp2_with fail
    go_loopw [5, 13] (fun _ i wr => ∃ (k m : Nat), k ≤ n1 ∧ i = .int .i64 k ∧ Hid (wr = w.drewN m) ∧ Hid ((List.range k).all q = true)) (fun _ i _ => n1 - (intOf i).toNat)
    case atStart => exact ⟨0, 0, Nat.zero_le _, rfl, rfl, rfl⟩
    case round =>
      obtain ⟨k, m, hk, rfl, HW, HQ⟩ := hrel
      by_cases hlt : k < n1
      · obtain ⟨b1, o1, rfl, hx⟩ := HA.out (by omega)
        obtain ⟨b2, o2, rfl, hy⟩ := HB.out (by omega)
        obtain ⟨p0, p1, p2, p3, p4, p5, p6, p7, p8, hp⟩ := listN9 (A k) (hx k hlt).2
        obtain ⟨r0, r1, r2, r3, r4, r5, r6, r7, r8, hr⟩ := listN9 (B k) (hy k hlt).2
        have hx := (hx k hlt).1
        have hy := (hy k hlt).1
        have heq := HE.out k hlt
        rw [hp] at hx heq
        rw [hr] at hy heq
        have hc : ∀ u, wr.cell? u = w.cell? u := fun u => by rw [HW.out]; rfl
        have c0 := (hc ⟨b1, o1 + k * 9, none⟩).trans (hx 0 _ rfl)
        have d0 := (hc ⟨b2, o2 + k * 9, none⟩).trans (hy 0 _ rfl)
        have c1 := (hc ⟨b1, o1 + k * 9 + 1, none⟩).trans (hx 1 _ rfl)
        have d1 := (hc ⟨b2, o2 + k * 9 + 1, none⟩).trans (hy 1 _ rfl)
        have c2 := (hc ⟨b1, o1 + k * 9 + 2, none⟩).trans (hx 2 _ rfl)
        have d2 := (hc ⟨b2, o2 + k * 9 + 2, none⟩).trans (hy 2 _ rfl)
        have c3 := (hc ⟨b1, o1 + k * 9 + 3, none⟩).trans (hx 3 _ rfl)
        have d3 := (hc ⟨b2, o2 + k * 9 + 3, none⟩).trans (hy 3 _ rfl)
        have c4 := (hc ⟨b1, o1 + k * 9 + 4, none⟩).trans (hx 4 _ rfl)
        have d4 := (hc ⟨b2, o2 + k * 9 + 4, none⟩).trans (hy 4 _ rfl)
        have c5 := (hc ⟨b1, o1 + k * 9 + 5, none⟩).trans (hx 5 _ rfl)
        have d5 := (hc ⟨b2, o2 + k * 9 + 5, none⟩).trans (hy 5 _ rfl)
        have c6 := (hc ⟨b1, o1 + k * 9 + 6, none⟩).trans (hx 6 _ rfl)
        have d6 := (hc ⟨b2, o2 + k * 9 + 6, none⟩).trans (hy 6 _ rfl)
        have c7 := (hc ⟨b1, o1 + k * 9 + 7, none⟩).trans (hx 7 _ rfl)
        have d7 := (hc ⟨b2, o2 + k * 9 + 7, none⟩).trans (hy 7 _ rfl)
        have c8 := (hc ⟨b1, o1 + k * 9 + 8, none⟩).trans (hx 8 _ rfl)
        have d8 := (hc ⟨b2, o2 + k * 9 + 8, none⟩).trans (hy 8 _ rfl)
        have heq' : ∀ w, (Op.equalIn 10000 82 (.agg #[p0, p1, p2, p3, p4, p5, p6, p7, p8]) (.agg #[r0, r1, r2, r3, r4, r5, r6, r7, r8])).run Try.prog w = .ok (q k) w := heq
        clear hx hy hp hr hc heq
        by_cases hq : q k = true
        · rw [hq] at heq'
          have HQn : Hid ((List.range (k + 1)).all q = true) := by
            show _ = _
            rw [List.range_succ, List.all_append, HQ.out]
            simp [hq]
          clear hq
          go_wp2_with fail
          go_quiet (fail)
          clear c0 d0 c1 d1 c2 d2 c3 d3 c4 d4 c5 d5 c6 d6 c7 d7 c8 d8 heq'
          go_wp2_with fail
          go_roundw
          case rel => exact ⟨k + 1, m + _, by omega, by go_num, by unfold Hid; rw [HW.out, World.drewN_drewN], HQn⟩
          case measure => simp [intOf]; omega
        · have hq : q k = false := by simpa using hq
          rw [hq] at heq'
          have HQn : Hid ((List.range n1).all q = false) := by
            show _ = _
            rw [List.all_eq_false]
            exact ⟨k, List.mem_range.2 hlt, by simp [hq]⟩
          clear hq
          go_wp2_with fail
          go_quiet (fail)
          clear c0 d0 c1 d1 c2 d2 c3 d3 c4 d4 c5 d5 c6 d6 c7 d7 c8 d8 heq'
          go_wp2_with fail
          go_ret
          exact ⟨by rw [HQn.out]; rfl, m + _, by rw [HW.out, World.drewN_drewN]⟩
      · obtain rfl : k = n1 := by omega
        go_wp2_with fail
        go_ret
        exact ⟨by rw [HQ.out]; rfl, m, HW.out⟩
  · have hr : rowsB n1 n2 q = false := by unfold rowsB; simp [hn]
    rw [hr]
    have hne : ¬ ((n1 : Int) = (n2 : Int)) := by omega
    clear hA hB hE hr
    go_enter Try.func37, Try.ntmps37
    go_wp2_with fail
    go_ret
    exact ⟨rfl, 0, rfl⟩

set_option maxRecDepth 100000 in
set_option maxHeartbeats 4000000 in
theorem same_36 (a b : Option Addr) (ca cb n1 n2 : Nat) (A B : Nat → List Value) (q : Nat → Bool) (w : World) (hlen : n1 ≤ 100000) (hA : RowsN w a n1 14 A) (hB : RowsN w b n2 14 B) (hE : n1 = n2 → ∀ i, i < n1 → EqlS 69 (A i).toArray (B i).toArray (q i)) :
    Calls Try.prog 36 #[.slice a n1 ca, .slice b n2 cb] w fun e w' => e = .returned (.bool (rowsB n1 n2 q)) ∧ ∃ m, w' = w.drewN m := by
  by_cases hn : n1 = n2
  · subst hn
    have HA := hide hA
    have HB := hide hB
    have HE := hide (hE rfl)
    clear hA hB hE
    have HR : Hid (rowsB n1 n1 q = (List.range n1).all q) := by show _ = _; unfold rowsB; simp
    rw [HR.out]
    clear HR
    go_enter Try.func36, Try.ntmps36
    go_wp2_with fail
    go_loopw [5] (fun i wr => ∃ (k m : Nat), k ≤ n1 ∧ i = .int .i64 k ∧ Hid (wr = w.drewN m) ∧ Hid ((List.range k).all q = true)) (fun i _ => n1 - (intOf i).toNat)
    case atStart => exact ⟨0, 0, Nat.zero_le _, rfl, rfl, rfl⟩
    case round =>
      obtain ⟨k, m, hk, rfl, HW, HQ⟩ := hrel
      by_cases hlt : k < n1
      · obtain ⟨b1, o1, rfl, hx⟩ := HA.out (by omega)
        obtain ⟨b2, o2, rfl, hy⟩ := HB.out (by omega)
        obtain ⟨p0, p1, p2, p3, p4, p5, p6, p7, p8, p9, p10, p11, p12, p13, hp⟩ := listN14 (A k) (hx k hlt).2
        obtain ⟨r0, r1, r2, r3, r4, r5, r6, r7, r8, r9, r10, r11, r12, r13, hr⟩ := listN14 (B k) (hy k hlt).2
        have hx := (hx k hlt).1
        have hy := (hy k hlt).1
        have heq := HE.out k hlt
        rw [hp] at hx heq
        rw [hr] at hy heq
        have hc : ∀ u, wr.cell? u = w.cell? u := fun u => by rw [HW.out]; rfl
        have c0 := (hc ⟨b1, o1 + k * 14, none⟩).trans (hx 0 _ rfl)
        have d0 := (hc ⟨b2, o2 + k * 14, none⟩).trans (hy 0 _ rfl)
        have c1 := (hc ⟨b1, o1 + k * 14 + 1, none⟩).trans (hx 1 _ rfl)
        have d1 := (hc ⟨b2, o2 + k * 14 + 1, none⟩).trans (hy 1 _ rfl)
        have c2 := (hc ⟨b1, o1 + k * 14 + 2, none⟩).trans (hx 2 _ rfl)
        have d2 := (hc ⟨b2, o2 + k * 14 + 2, none⟩).trans (hy 2 _ rfl)
        have c3 := (hc ⟨b1, o1 + k * 14 + 3, none⟩).trans (hx 3 _ rfl)
        have d3 := (hc ⟨b2, o2 + k * 14 + 3, none⟩).trans (hy 3 _ rfl)
        have c4 := (hc ⟨b1, o1 + k * 14 + 4, none⟩).trans (hx 4 _ rfl)
        have d4 := (hc ⟨b2, o2 + k * 14 + 4, none⟩).trans (hy 4 _ rfl)
        have c5 := (hc ⟨b1, o1 + k * 14 + 5, none⟩).trans (hx 5 _ rfl)
        have d5 := (hc ⟨b2, o2 + k * 14 + 5, none⟩).trans (hy 5 _ rfl)
        have c6 := (hc ⟨b1, o1 + k * 14 + 6, none⟩).trans (hx 6 _ rfl)
        have d6 := (hc ⟨b2, o2 + k * 14 + 6, none⟩).trans (hy 6 _ rfl)
        have c7 := (hc ⟨b1, o1 + k * 14 + 7, none⟩).trans (hx 7 _ rfl)
        have d7 := (hc ⟨b2, o2 + k * 14 + 7, none⟩).trans (hy 7 _ rfl)
        have c8 := (hc ⟨b1, o1 + k * 14 + 8, none⟩).trans (hx 8 _ rfl)
        have d8 := (hc ⟨b2, o2 + k * 14 + 8, none⟩).trans (hy 8 _ rfl)
        have c9 := (hc ⟨b1, o1 + k * 14 + 9, none⟩).trans (hx 9 _ rfl)
        have d9 := (hc ⟨b2, o2 + k * 14 + 9, none⟩).trans (hy 9 _ rfl)
        have c10 := (hc ⟨b1, o1 + k * 14 + 10, none⟩).trans (hx 10 _ rfl)
        have d10 := (hc ⟨b2, o2 + k * 14 + 10, none⟩).trans (hy 10 _ rfl)
        have c11 := (hc ⟨b1, o1 + k * 14 + 11, none⟩).trans (hx 11 _ rfl)
        have d11 := (hc ⟨b2, o2 + k * 14 + 11, none⟩).trans (hy 11 _ rfl)
        have c12 := (hc ⟨b1, o1 + k * 14 + 12, none⟩).trans (hx 12 _ rfl)
        have d12 := (hc ⟨b2, o2 + k * 14 + 12, none⟩).trans (hy 12 _ rfl)
        have c13 := (hc ⟨b1, o1 + k * 14 + 13, none⟩).trans (hx 13 _ rfl)
        have d13 := (hc ⟨b2, o2 + k * 14 + 13, none⟩).trans (hy 13 _ rfl)
        have heq' : ∀ w, (Op.equalIn 10000 69 (.agg #[p0, p1, p2, p3, p4, p5, p6, p7, p8, p9, p10, p11, p12, p13]) (.agg #[r0, r1, r2, r3, r4, r5, r6, r7, r8, r9, r10, r11, r12, r13])).run Try.prog w = .ok (q k) w := heq
        clear hx hy hp hr hc heq
        by_cases hq : q k = true
        · rw [hq] at heq'
          have HQn : Hid ((List.range (k + 1)).all q = true) := by
            show _ = _
            rw [List.range_succ, List.all_append, HQ.out]
            simp [hq]
          clear hq
          go_wp2_with fail
          go_quiet (fail)
          clear c0 d0 c1 d1 c2 d2 c3 d3 c4 d4 c5 d5 c6 d6 c7 d7 c8 d8 c9 d9 c10 d10 c11 d11 c12 d12 c13 d13 heq'
          go_wp2_with fail
          go_roundw
          case rel => exact ⟨k + 1, m + _, by omega, by go_num, by unfold Hid; rw [HW.out, World.drewN_drewN], HQn⟩
          case measure => simp [intOf]; omega
        · have hq : q k = false := by simpa using hq
          rw [hq] at heq'
          have HQn : Hid ((List.range n1).all q = false) := by
            show _ = _
            rw [List.all_eq_false]
            exact ⟨k, List.mem_range.2 hlt, by simp [hq]⟩
          clear hq
          go_wp2_with fail
          go_quiet (fail)
          clear c0 d0 c1 d1 c2 d2 c3 d3 c4 d4 c5 d5 c6 d6 c7 d7 c8 d8 c9 d9 c10 d10 c11 d11 c12 d12 c13 d13 heq'
          go_wp2_with fail
          go_ret
          exact ⟨by rw [HQn.out]; rfl, m + _, by rw [HW.out, World.drewN_drewN]⟩
      · obtain rfl : k = n1 := by omega
        go_wp2_with fail
        go_ret
        exact ⟨by rw [HQ.out]; rfl, m, HW.out⟩
  · have hr : rowsB n1 n2 q = false := by unfold rowsB; simp [hn]
    rw [hr]
    have hne : ¬ ((n1 : Int) = (n2 : Int)) := by omega
    clear hA hB hE hr
    go_enter Try.func36, Try.ntmps36
    go_wp2_with fail
    go_ret
    exact ⟨rfl, 0, rfl⟩

set_option maxRecDepth 100000 in
set_option maxHeartbeats 4000000 in
theorem same_40 (a b : Option Addr) (ca cb n1 n2 : Nat) (A B : Nat → List Value) (q : Nat → Bool) (w : World) (hlen : n1 ≤ 100000) (hA : RowsN w a n1 14 A) (hB : RowsN w b n2 14 B) (hE : n1 = n2 → ∀ i, i < n1 → EqlS 69 (A i).toArray (B i).toArray (q i)) :
    Calls Try.prog 40 #[.slice a n1 ca, .slice b n2 cb] w fun e w' => e = .returned (.bool (rowsB n1 n2 q)) ∧ ∃ m, w' = w.drewN m := by
  by_cases hn : n1 = n2
  · subst hn
    have HA := hide hA
    have HB := hide hB
    have HE := hide (hE rfl)
    clear hA hB hE
    have HR : Hid (rowsB n1 n1 q = (List.range n1).all q) := by show _ = _; unfold rowsB; simp
    rw [HR.out]
    clear HR
    go_enter Try.func40, Try.ntmps40
    go_wp2_with fail
    go_loopw [5, 13] (fun _ i wr => ∃ (k m : Nat), k ≤ n1 ∧ i = .int .i64 k ∧ Hid (wr = w.drewN m) ∧ Hid ((List.range k).all q = true)) (fun _ i _ => n1 - (intOf i).toNat)
    case atStart => exact ⟨0, 0, Nat.zero_le _, rfl, rfl, rfl⟩
    case round =>
      obtain ⟨k, m, hk, rfl, HW, HQ⟩ := hrel
      by_cases hlt : k < n1
      · obtain ⟨b1, o1, rfl, hx⟩ := HA.out (by omega)
        obtain ⟨b2, o2, rfl, hy⟩ := HB.out (by omega)
        obtain ⟨p0, p1, p2, p3, p4, p5, p6, p7, p8, p9, p10, p11, p12, p13, hp⟩ := listN14 (A k) (hx k hlt).2
        obtain ⟨r0, r1, r2, r3, r4, r5, r6, r7, r8, r9, r10, r11, r12, r13, hr⟩ := listN14 (B k) (hy k hlt).2
        have hx := (hx k hlt).1
        have hy := (hy k hlt).1
        have heq := HE.out k hlt
        rw [hp] at hx heq
        rw [hr] at hy heq
        have hc : ∀ u, wr.cell? u = w.cell? u := fun u => by rw [HW.out]; rfl
        have c0 := (hc ⟨b1, o1 + k * 14, none⟩).trans (hx 0 _ rfl)
        have d0 := (hc ⟨b2, o2 + k * 14, none⟩).trans (hy 0 _ rfl)
        have c1 := (hc ⟨b1, o1 + k * 14 + 1, none⟩).trans (hx 1 _ rfl)
        have d1 := (hc ⟨b2, o2 + k * 14 + 1, none⟩).trans (hy 1 _ rfl)
        have c2 := (hc ⟨b1, o1 + k * 14 + 2, none⟩).trans (hx 2 _ rfl)
        have d2 := (hc ⟨b2, o2 + k * 14 + 2, none⟩).trans (hy 2 _ rfl)
        have c3 := (hc ⟨b1, o1 + k * 14 + 3, none⟩).trans (hx 3 _ rfl)
        have d3 := (hc ⟨b2, o2 + k * 14 + 3, none⟩).trans (hy 3 _ rfl)
        have c4 := (hc ⟨b1, o1 + k * 14 + 4, none⟩).trans (hx 4 _ rfl)
        have d4 := (hc ⟨b2, o2 + k * 14 + 4, none⟩).trans (hy 4 _ rfl)
        have c5 := (hc ⟨b1, o1 + k * 14 + 5, none⟩).trans (hx 5 _ rfl)
        have d5 := (hc ⟨b2, o2 + k * 14 + 5, none⟩).trans (hy 5 _ rfl)
        have c6 := (hc ⟨b1, o1 + k * 14 + 6, none⟩).trans (hx 6 _ rfl)
        have d6 := (hc ⟨b2, o2 + k * 14 + 6, none⟩).trans (hy 6 _ rfl)
        have c7 := (hc ⟨b1, o1 + k * 14 + 7, none⟩).trans (hx 7 _ rfl)
        have d7 := (hc ⟨b2, o2 + k * 14 + 7, none⟩).trans (hy 7 _ rfl)
        have c8 := (hc ⟨b1, o1 + k * 14 + 8, none⟩).trans (hx 8 _ rfl)
        have d8 := (hc ⟨b2, o2 + k * 14 + 8, none⟩).trans (hy 8 _ rfl)
        have c9 := (hc ⟨b1, o1 + k * 14 + 9, none⟩).trans (hx 9 _ rfl)
        have d9 := (hc ⟨b2, o2 + k * 14 + 9, none⟩).trans (hy 9 _ rfl)
        have c10 := (hc ⟨b1, o1 + k * 14 + 10, none⟩).trans (hx 10 _ rfl)
        have d10 := (hc ⟨b2, o2 + k * 14 + 10, none⟩).trans (hy 10 _ rfl)
        have c11 := (hc ⟨b1, o1 + k * 14 + 11, none⟩).trans (hx 11 _ rfl)
        have d11 := (hc ⟨b2, o2 + k * 14 + 11, none⟩).trans (hy 11 _ rfl)
        have c12 := (hc ⟨b1, o1 + k * 14 + 12, none⟩).trans (hx 12 _ rfl)
        have d12 := (hc ⟨b2, o2 + k * 14 + 12, none⟩).trans (hy 12 _ rfl)
        have c13 := (hc ⟨b1, o1 + k * 14 + 13, none⟩).trans (hx 13 _ rfl)
        have d13 := (hc ⟨b2, o2 + k * 14 + 13, none⟩).trans (hy 13 _ rfl)
        have heq' : ∀ w, (Op.equalIn 10000 69 (.agg #[p0, p1, p2, p3, p4, p5, p6, p7, p8, p9, p10, p11, p12, p13]) (.agg #[r0, r1, r2, r3, r4, r5, r6, r7, r8, r9, r10, r11, r12, r13])).run Try.prog w = .ok (q k) w := heq
        clear hx hy hp hr hc heq
        by_cases hq : q k = true
        · rw [hq] at heq'
          have HQn : Hid ((List.range (k + 1)).all q = true) := by
            show _ = _
            rw [List.range_succ, List.all_append, HQ.out]
            simp [hq]
          clear hq
          go_wp2_with fail
          go_quiet (fail)
          clear c0 d0 c1 d1 c2 d2 c3 d3 c4 d4 c5 d5 c6 d6 c7 d7 c8 d8 c9 d9 c10 d10 c11 d11 c12 d12 c13 d13 heq'
          go_wp2_with fail
          go_roundw
          case rel => exact ⟨k + 1, m + _, by omega, by go_num, by unfold Hid; rw [HW.out, World.drewN_drewN], HQn⟩
          case measure => simp [intOf]; omega
        · have hq : q k = false := by simpa using hq
          rw [hq] at heq'
          have HQn : Hid ((List.range n1).all q = false) := by
            show _ = _
            rw [List.all_eq_false]
            exact ⟨k, List.mem_range.2 hlt, by simp [hq]⟩
          clear hq
          go_wp2_with fail
          go_quiet (fail)
          clear c0 d0 c1 d1 c2 d2 c3 d3 c4 d4 c5 d5 c6 d6 c7 d7 c8 d8 c9 d9 c10 d10 c11 d11 c12 d12 c13 d13 heq'
          go_wp2_with fail
          go_ret
          exact ⟨by rw [HQn.out]; rfl, m + _, by rw [HW.out, World.drewN_drewN]⟩
      · obtain rfl : k = n1 := by omega
        go_wp2_with fail
        go_ret
        exact ⟨by rw [HQ.out]; rfl, m, HW.out⟩
  · have hr : rowsB n1 n2 q = false := by unfold rowsB; simp [hn]
    rw [hr]
    have hne : ¬ ((n1 : Int) = (n2 : Int)) := by omega
    clear hA hB hE hr
    go_enter Try.func40, Try.ntmps40
    go_wp2_with fail
    go_ret
    exact ⟨rfl, 0, rfl⟩
end Go.Proofs.Ytghgkjollafeiaa
