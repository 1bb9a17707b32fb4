/-
  How plans and statements compare.
-/
import Derived.Test.YtghgkjollafeiaaPlH
namespace Go.Proofs.Ytghgkjollafeiaa
open Go.RowKit

/-- How two structs of a type compare. -/
def Eql (t : TypeId) (A B : Array Value) (r : Bool) : Prop := ∀ w, (Op.equalIn 10000 t (.agg A) (.agg B)).run Try.prog w = .ok r w
theorem Eql.bin {t : TypeId} {A B : Array Value} {r : Bool} (h : Eql t A B r) (w : World) : (binOp .eql t (.agg A) (.agg B)).run Try.prog w = .ok (.bool r) w := by
  rw [run_eql_struct, h w]
  rfl
theorem st23 : Try.prog.stoodInHeld 23 = false := by kernel_rfl
theorem st40 : Try.prog.stoodInHeld 40 = false := by kernel_rfl
theorem fo23 : Try.prog.underlying 23 = some (.struct (Try.prog.fieldsOf 23)) := by kernel_rfl
theorem fo40 : Try.prog.underlying 40 = some (.struct (Try.prog.fieldsOf 40)) := by kernel_rfl
set_option maxRecDepth 100000 in
theorem eql_pp (np : ByteArray) (x1 x2 x3 x4 x5 x6 x7 x8 x9 : Int) : Eql 23 #[Value.string np, .int .i64 x1, .int .i64 x2, .int .i64 x3, .int .i64 x4, .int .i64 x5, .int .i64 x6, .int .i64 x7, .int .i64 x8, .int .i64 x9] #[Value.string np, .int .i64 x1, .int .i64 x2, .int .i64 x3, .int .i64 x4, .int .i64 x5, .int .i64 x6, .int .i64 x7, .int .i64 x8, .int .i64 x9] true := fun w => by rw [run_equalIn_struct w 9999 23 _ _ fo23 st23]; go_simp
set_option maxRecDepth 100000 in
theorem eql_ss (ns : ByteArray) (z1 z2 z3 z4 z5 z6 z7 z8 : Int) : Eql 40 #[Value.string ns, .int .i64 z1, .int .i64 z2, .int .i64 z3, .int .i64 z4, .int .i64 z5, .int .i64 z6, .int .i64 z7, .int .i64 z8] #[Value.string ns, .int .i64 z1, .int .i64 z2, .int .i64 z3, .int .i64 z4, .int .i64 z5, .int .i64 z6, .int .i64 z7, .int .i64 z8] true := fun w => by rw [run_equalIn_struct w 9999 40 _ _ fo40 st40]; go_simp
set_option maxRecDepth 100000 in
theorem eql_pq (np nq : ByteArray) (x1 x2 x3 x4 x5 x6 x7 x8 x9 u1 u2 u3 u4 u5 u6 u7 u8 u9 : Int) : ∃ r, Eql 23 #[Value.string np, .int .i64 x1, .int .i64 x2, .int .i64 x3, .int .i64 x4, .int .i64 x5, .int .i64 x6, .int .i64 x7, .int .i64 x8, .int .i64 x9] #[Value.string nq, .int .i64 u1, .int .i64 u2, .int .i64 u3, .int .i64 u4, .int .i64 u5, .int .i64 u6, .int .i64 u7, .int .i64 u8, .int .i64 u9] r := by
  by_cases h0 : np.toList = nq.toList
  · by_cases h1 : x1 = u1
    · by_cases h2 : x2 = u2
      · by_cases h3 : x3 = u3
        · by_cases h4 : x4 = u4
          · by_cases h5 : x5 = u5
            · by_cases h6 : x6 = u6
              · by_cases h7 : x7 = u7
                · by_cases h8 : x8 = u8
                  · by_cases h9 : x9 = u9
                    · exact ⟨true, fun w => by rw [run_equalIn_struct w 9999 23 _ _ fo23 st23]; go_simp⟩
                    · exact ⟨false, fun w => by rw [run_equalIn_struct w 9999 23 _ _ fo23 st23]; go_simp⟩
                  · exact ⟨false, fun w => by rw [run_equalIn_struct w 9999 23 _ _ fo23 st23]; go_simp⟩
                · exact ⟨false, fun w => by rw [run_equalIn_struct w 9999 23 _ _ fo23 st23]; go_simp⟩
              · exact ⟨false, fun w => by rw [run_equalIn_struct w 9999 23 _ _ fo23 st23]; go_simp⟩
            · exact ⟨false, fun w => by rw [run_equalIn_struct w 9999 23 _ _ fo23 st23]; go_simp⟩
          · exact ⟨false, fun w => by rw [run_equalIn_struct w 9999 23 _ _ fo23 st23]; go_simp⟩
        · exact ⟨false, fun w => by rw [run_equalIn_struct w 9999 23 _ _ fo23 st23]; go_simp⟩
      · exact ⟨false, fun w => by rw [run_equalIn_struct w 9999 23 _ _ fo23 st23]; go_simp⟩
    · exact ⟨false, fun w => by rw [run_equalIn_struct w 9999 23 _ _ fo23 st23]; go_simp⟩
  · exact ⟨false, fun w => by rw [run_equalIn_struct w 9999 23 _ _ fo23 st23]; go_simp⟩

set_option maxRecDepth 100000 in
set_option maxHeartbeats 1600000 in
theorem same_any (w : World) (np nq : ByteArray) (x1 x2 x3 x4 x5 x6 x7 x8 x9 u1 u2 u3 u4 u5 u6 u7 u8 u9 : Int) (r : Bool) (hr : Eql 23 #[Value.string np, .int .i64 x1, .int .i64 x2, .int .i64 x3, .int .i64 x4, .int .i64 x5, .int .i64 x6, .int .i64 x7, .int .i64 x8, .int .i64 x9] #[Value.string nq, .int .i64 u1, .int .i64 u2, .int .i64 u3, .int .i64 u4, .int .i64 u5, .int .i64 u6, .int .i64 u7, .int .i64 u8, .int .i64 u9] r) :
    Calls Try.prog 21 #[.agg #[Value.string np, .int .i64 x1, .int .i64 x2, .int .i64 x3, .int .i64 x4, .int .i64 x5, .int .i64 x6, .int .i64 x7, .int .i64 x8, .int .i64 x9], .agg #[Value.string nq, .int .i64 u1, .int .i64 u2, .int .i64 u3, .int .i64 u4, .int .i64 u5, .int .i64 u6, .int .i64 u7, .int .i64 u8, .int .i64 u9]] w fun e w' => e = .returned (.bool r) ∧ Turn [] w w' := by
  have hb := hr.bin
  have hr' : ∀ w, (Op.equalIn 10000 23 (.agg #[Value.string np, .int .i64 x1, .int .i64 x2, .int .i64 x3, .int .i64 x4, .int .i64 x5, .int .i64 x6, .int .i64 x7, .int .i64 x8, .int .i64 x9]) (.agg #[Value.string nq, .int .i64 u1, .int .i64 u2, .int .i64 u3, .int .i64 u4, .int .i64 u5, .int .i64 u6, .int .i64 u7, .int .i64 u8, .int .i64 u9])).run Try.prog w = .ok r w := hr
  clear hr
  go_enter Try.func21, Try.ntmps21
  go_wp2_with fail
  go_ret
  exact ⟨rfl, ((Turn.refl [] w).alloc _).alloc _⟩

/-- The region of that number. -/
def regOf (n : Nat) : Code → Option Code
  | .region m o d => if m = n then some (.region m o d) else none
  | .seq a b => match regOf n a with
    | some c => some c
    | none => regOf n b
  | .cond _ a b => match regOf n a with
    | some c => some c
    | none => regOf n b
  | .block _ c => regOf n c
  | .loop c => regOf n c
  | .scope c => regOf n c
  | _ => none
/-- The code of the last line. -/
noncomputable def reg8 : Code := match Try.f4.body with
  | some c => (regOf 8 c).getD .skip
  | none => .skip

theorem gr_turn2 {w w' : World} {v' : Value} {l : List Nat} (hG : Gr w w' (.slice none 0 0) v' l) : Turn [] w w' := ⟨hG.grown.os, hG.grown.tape, hG.grown.output, hG.grown.size, fun k hk _ => hG.grown.block k hk (by simp [Value.ownBlock])⟩
theorem gr_turn {w w' : World} {v' : Value} {l : List Nat} (hG : Gr w.drew w' (.slice none 0 0) v' l) : Turn [] w w' := ⟨hG.grown.os, hG.grown.tape, hG.grown.output, hG.grown.size, fun k hk _ => hG.grown.block k hk (by simp [Value.ownBlock])⟩

/-- What lies in memory ahead of the last line. -/
structure Faces (w : World) (bp bq bs bx bby gb gc : Nat) (LB LC : List Nat) (P Q S : Array Value) : Prop where
  p : ∀ w', Turn [] w w' → ∀ i u, P[i]? = some u → w'.cell? ⟨bp, i, none⟩ = some u
  q : ∀ w', Turn [] w w' → ∀ i u, Q[i]? = some u → w'.cell? ⟨bq, i, none⟩ = some u
  s : ∀ w', Turn [] w w' → ∀ i u, S[i]? = some u → w'.cell? ⟨bs, i, none⟩ = some u
  x : ∀ w', Turn [] w w' → ∀ i u, P[i]? = some u → w'.cell? ⟨bx, i, none⟩ = some u
  y : ∀ w', Turn [] w w' → ∀ i u, S[i]? = some u → w'.cell? ⟨bby, i, none⟩ = some u
  b : BytesAt w (some ⟨gb, 0, none⟩) LB
  c : BytesAt w (some ⟨gc, 0, none⟩) LC
end Go.Proofs.Ytghgkjollafeiaa
