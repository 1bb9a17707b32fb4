/-
  FrameRequests: SameRequest of the program and of the reference, walked: both say whether what is kept of two requests is the same.
-/
import Derived.Test.YtkbboingeacgjaaFRPure
import Derived.Test.YtkbboingeacgjaaFReqKA
import Derived.Test.YtkbboingeacgjaaFReqKB
import Derived.Test.YtkbboingeacgjaaFReqKC
import Derived.Deep.RegionHeld
import Derived.Deep.RegionHeld3
namespace Go.Proofs.Ytkbboingeacgjaa
open Go.RowKit

theorem str_eq {a b : ByteArray} (h : a.toList = b.toList) : a = b := by
  have h2 : a.data.toList = b.data.toList := by simpa [ByteArray.toList_eq] using h
  cases a
  cases b
  congr 1
  exact Array.toList_inj.1 h2
theorem st25 : Try.prog.stoodInHeld 25 = false := by kernel_rfl
theorem fo25 : Try.prog.underlying 25 = some (.struct (Try.prog.fieldsOf 25)) := by kernel_rfl
theorem eqg25 : Try.prog.eqGuardType Try.prog.depth 25 = false := by kernel_rfl
theorem st23 : Try.prog.stoodInHeld 23 = false := by kernel_rfl
theorem fo23 : Try.prog.underlying 23 = some (.struct (Try.prog.fieldsOf 23)) := by kernel_rfl
theorem eqg23 : Try.prog.eqGuardType Try.prog.depth 23 = false := by kernel_rfl
set_option maxRecDepth 100000 in
set_option maxHeartbeats 3200000 in
theorem eq_reqs_if (a b : Rq) (w : World) : (Op.equalIn 10000 25 (.agg #[.int .i64 a.k, .string a.key, .int .i64 a.id, .int .i64 a.n, .int .i64 a.ttl, .int .i64 a.o, .string a.nm, .string a.sec, .string a.pn, .int .i64 a.p1, .int .i64 a.p2, .int .i64 a.p3, .int .i64 a.p4, .int .i64 a.p5, .int .i64 a.p6, .int .i64 a.p7, .int .i64 a.p8, .int .i64 a.p9]) (.agg #[.int .i64 b.k, .string b.key, .int .i64 b.id, .int .i64 b.n, .int .i64 b.ttl, .int .i64 b.o, .string b.nm, .string b.sec, .string b.pn, .int .i64 b.p1, .int .i64 b.p2, .int .i64 b.p3, .int .i64 b.p4, .int .i64 b.p5, .int .i64 b.p6, .int .i64 b.p7, .int .i64 b.p8, .int .i64 b.p9])).run Try.prog w = (if a.k = b.k then (if a.key.toList = b.key.toList then (if a.id = b.id then (if a.n = b.n then (if a.ttl = b.ttl then (if a.o = b.o then (if a.nm.toList = b.nm.toList then (if a.sec.toList = b.sec.toList then (if a.pn.toList = b.pn.toList then (if a.p1 = b.p1 then (if a.p2 = b.p2 then (if a.p3 = b.p3 then (if a.p4 = b.p4 then (if a.p5 = b.p5 then (if a.p6 = b.p6 then (if a.p7 = b.p7 then (if a.p8 = b.p8 then (if a.p9 = b.p9 then Result.ok true w else Result.ok false w) else Result.ok false w) else Result.ok false w) else Result.ok false w) else Result.ok false w) else Result.ok false w) else Result.ok false w) else Result.ok false w) else Result.ok false w) else Result.ok false w) else Result.ok false w) else Result.ok false w) else Result.ok false w) else Result.ok false w) else Result.ok false w) else Result.ok false w) else Result.ok false w) else Result.ok false w) := by
  rw [run_equalIn_struct w 9999 25 _ _ fo25 st25]
  go_simp
theorem eq_reqs (a b : Rq) : ∃ z : Bool, (z = true ↔ a.k = b.k ∧ a.key = b.key ∧ a.id = b.id ∧ a.n = b.n ∧ a.ttl = b.ttl ∧ a.o = b.o ∧ a.nm = b.nm ∧ a.sec = b.sec ∧ a.pn = b.pn ∧ a.p1 = b.p1 ∧ a.p2 = b.p2 ∧ a.p3 = b.p3 ∧ a.p4 = b.p4 ∧ a.p5 = b.p5 ∧ a.p6 = b.p6 ∧ a.p7 = b.p7 ∧ a.p8 = b.p8 ∧ a.p9 = b.p9) ∧ ∀ w, (binOp .eql 25 (.agg #[.int .i64 a.k, .string a.key, .int .i64 a.id, .int .i64 a.n, .int .i64 a.ttl, .int .i64 a.o, .string a.nm, .string a.sec, .string a.pn, .int .i64 a.p1, .int .i64 a.p2, .int .i64 a.p3, .int .i64 a.p4, .int .i64 a.p5, .int .i64 a.p6, .int .i64 a.p7, .int .i64 a.p8, .int .i64 a.p9]) (.agg #[.int .i64 b.k, .string b.key, .int .i64 b.id, .int .i64 b.n, .int .i64 b.ttl, .int .i64 b.o, .string b.nm, .string b.sec, .string b.pn, .int .i64 b.p1, .int .i64 b.p2, .int .i64 b.p3, .int .i64 b.p4, .int .i64 b.p5, .int .i64 b.p6, .int .i64 b.p7, .int .i64 b.p8, .int .i64 b.p9])).run Try.prog w = .ok (.bool z) w := by
  by_cases h0 : a.k = b.k
  rotate_left
  · refine ⟨false, ⟨fun h => (by cases h), fun h => absurd h.1 h0⟩, fun w => ?_⟩
    rw [run_eql_struct, eq_reqs_if, if_neg h0]
    rfl
  by_cases h1 : a.key = b.key
  rotate_left
  · refine ⟨false, ⟨fun h => (by cases h), fun h => absurd h.2.1 h1⟩, fun w => ?_⟩
    have g1 : ¬ a.key.toList = b.key.toList := fun e => h1 (str_eq e)
    rw [run_eql_struct, eq_reqs_if, if_pos h0, if_neg g1]
    rfl
  by_cases h2 : a.id = b.id
  rotate_left
  · refine ⟨false, ⟨fun h => (by cases h), fun h => absurd h.2.2.1 h2⟩, fun w => ?_⟩
    rw [run_eql_struct, eq_reqs_if, if_pos h0, if_pos (congrArg ByteArray.toList h1), if_neg h2]
    rfl
  by_cases h3 : a.n = b.n
  rotate_left
  · refine ⟨false, ⟨fun h => (by cases h), fun h => absurd h.2.2.2.1 h3⟩, fun w => ?_⟩
    rw [run_eql_struct, eq_reqs_if, if_pos h0, if_pos (congrArg ByteArray.toList h1), if_pos h2, if_neg h3]
    rfl
  by_cases h4 : a.ttl = b.ttl
  rotate_left
  · refine ⟨false, ⟨fun h => (by cases h), fun h => absurd h.2.2.2.2.1 h4⟩, fun w => ?_⟩
    rw [run_eql_struct, eq_reqs_if, if_pos h0, if_pos (congrArg ByteArray.toList h1), if_pos h2, if_pos h3, if_neg h4]
    rfl
  by_cases h5 : a.o = b.o
  rotate_left
  · refine ⟨false, ⟨fun h => (by cases h), fun h => absurd h.2.2.2.2.2.1 h5⟩, fun w => ?_⟩
    rw [run_eql_struct, eq_reqs_if, if_pos h0, if_pos (congrArg ByteArray.toList h1), if_pos h2, if_pos h3, if_pos h4, if_neg h5]
    rfl
  by_cases h6 : a.nm = b.nm
  rotate_left
  · refine ⟨false, ⟨fun h => (by cases h), fun h => absurd h.2.2.2.2.2.2.1 h6⟩, fun w => ?_⟩
    have g6 : ¬ a.nm.toList = b.nm.toList := fun e => h6 (str_eq e)
    rw [run_eql_struct, eq_reqs_if, if_pos h0, if_pos (congrArg ByteArray.toList h1), if_pos h2, if_pos h3, if_pos h4, if_pos h5, if_neg g6]
    rfl
  by_cases h7 : a.sec = b.sec
  rotate_left
  · refine ⟨false, ⟨fun h => (by cases h), fun h => absurd h.2.2.2.2.2.2.2.1 h7⟩, fun w => ?_⟩
    have g7 : ¬ a.sec.toList = b.sec.toList := fun e => h7 (str_eq e)
    rw [run_eql_struct, eq_reqs_if, if_pos h0, if_pos (congrArg ByteArray.toList h1), if_pos h2, if_pos h3, if_pos h4, if_pos h5, if_pos (congrArg ByteArray.toList h6), if_neg g7]
    rfl
  by_cases h8 : a.pn = b.pn
  rotate_left
  · refine ⟨false, ⟨fun h => (by cases h), fun h => absurd h.2.2.2.2.2.2.2.2.1 h8⟩, fun w => ?_⟩
    have g8 : ¬ a.pn.toList = b.pn.toList := fun e => h8 (str_eq e)
    rw [run_eql_struct, eq_reqs_if, if_pos h0, if_pos (congrArg ByteArray.toList h1), if_pos h2, if_pos h3, if_pos h4, if_pos h5, if_pos (congrArg ByteArray.toList h6), if_pos (congrArg ByteArray.toList h7), if_neg g8]
    rfl
  by_cases h9 : a.p1 = b.p1
  rotate_left
  · refine ⟨false, ⟨fun h => (by cases h), fun h => absurd h.2.2.2.2.2.2.2.2.2.1 h9⟩, fun w => ?_⟩
    rw [run_eql_struct, eq_reqs_if, if_pos h0, if_pos (congrArg ByteArray.toList h1), if_pos h2, if_pos h3, if_pos h4, if_pos h5, if_pos (congrArg ByteArray.toList h6), if_pos (congrArg ByteArray.toList h7), if_pos (congrArg ByteArray.toList h8), if_neg h9]
    rfl
  by_cases h10 : a.p2 = b.p2
  rotate_left
  · refine ⟨false, ⟨fun h => (by cases h), fun h => absurd h.2.2.2.2.2.2.2.2.2.2.1 h10⟩, fun w => ?_⟩
    rw [run_eql_struct, eq_reqs_if, if_pos h0, if_pos (congrArg ByteArray.toList h1), if_pos h2, if_pos h3, if_pos h4, if_pos h5, if_pos (congrArg ByteArray.toList h6), if_pos (congrArg ByteArray.toList h7), if_pos (congrArg ByteArray.toList h8), if_pos h9, if_neg h10]
    rfl
  by_cases h11 : a.p3 = b.p3
  rotate_left
  · refine ⟨false, ⟨fun h => (by cases h), fun h => absurd h.2.2.2.2.2.2.2.2.2.2.2.1 h11⟩, fun w => ?_⟩
    rw [run_eql_struct, eq_reqs_if, if_pos h0, if_pos (congrArg ByteArray.toList h1), if_pos h2, if_pos h3, if_pos h4, if_pos h5, if_pos (congrArg ByteArray.toList h6), if_pos (congrArg ByteArray.toList h7), if_pos (congrArg ByteArray.toList h8), if_pos h9, if_pos h10, if_neg h11]
    rfl
  by_cases h12 : a.p4 = b.p4
  rotate_left
  · refine ⟨false, ⟨fun h => (by cases h), fun h => absurd h.2.2.2.2.2.2.2.2.2.2.2.2.1 h12⟩, fun w => ?_⟩
    rw [run_eql_struct, eq_reqs_if, if_pos h0, if_pos (congrArg ByteArray.toList h1), if_pos h2, if_pos h3, if_pos h4, if_pos h5, if_pos (congrArg ByteArray.toList h6), if_pos (congrArg ByteArray.toList h7), if_pos (congrArg ByteArray.toList h8), if_pos h9, if_pos h10, if_pos h11, if_neg h12]
    rfl
  by_cases h13 : a.p5 = b.p5
  rotate_left
  · refine ⟨false, ⟨fun h => (by cases h), fun h => absurd h.2.2.2.2.2.2.2.2.2.2.2.2.2.1 h13⟩, fun w => ?_⟩
    rw [run_eql_struct, eq_reqs_if, if_pos h0, if_pos (congrArg ByteArray.toList h1), if_pos h2, if_pos h3, if_pos h4, if_pos h5, if_pos (congrArg ByteArray.toList h6), if_pos (congrArg ByteArray.toList h7), if_pos (congrArg ByteArray.toList h8), if_pos h9, if_pos h10, if_pos h11, if_pos h12, if_neg h13]
    rfl
  by_cases h14 : a.p6 = b.p6
  rotate_left
  · refine ⟨false, ⟨fun h => (by cases h), fun h => absurd h.2.2.2.2.2.2.2.2.2.2.2.2.2.2.1 h14⟩, fun w => ?_⟩
    rw [run_eql_struct, eq_reqs_if, if_pos h0, if_pos (congrArg ByteArray.toList h1), if_pos h2, if_pos h3, if_pos h4, if_pos h5, if_pos (congrArg ByteArray.toList h6), if_pos (congrArg ByteArray.toList h7), if_pos (congrArg ByteArray.toList h8), if_pos h9, if_pos h10, if_pos h11, if_pos h12, if_pos h13, if_neg h14]
    rfl
  by_cases h15 : a.p7 = b.p7
  rotate_left
  · refine ⟨false, ⟨fun h => (by cases h), fun h => absurd h.2.2.2.2.2.2.2.2.2.2.2.2.2.2.2.1 h15⟩, fun w => ?_⟩
    rw [run_eql_struct, eq_reqs_if, if_pos h0, if_pos (congrArg ByteArray.toList h1), if_pos h2, if_pos h3, if_pos h4, if_pos h5, if_pos (congrArg ByteArray.toList h6), if_pos (congrArg ByteArray.toList h7), if_pos (congrArg ByteArray.toList h8), if_pos h9, if_pos h10, if_pos h11, if_pos h12, if_pos h13, if_pos h14, if_neg h15]
    rfl
  by_cases h16 : a.p8 = b.p8
  rotate_left
  · refine ⟨false, ⟨fun h => (by cases h), fun h => absurd h.2.2.2.2.2.2.2.2.2.2.2.2.2.2.2.2.1 h16⟩, fun w => ?_⟩
    rw [run_eql_struct, eq_reqs_if, if_pos h0, if_pos (congrArg ByteArray.toList h1), if_pos h2, if_pos h3, if_pos h4, if_pos h5, if_pos (congrArg ByteArray.toList h6), if_pos (congrArg ByteArray.toList h7), if_pos (congrArg ByteArray.toList h8), if_pos h9, if_pos h10, if_pos h11, if_pos h12, if_pos h13, if_pos h14, if_pos h15, if_neg h16]
    rfl
  by_cases h17 : a.p9 = b.p9
  rotate_left
  · refine ⟨false, ⟨fun h => (by cases h), fun h => absurd h.2.2.2.2.2.2.2.2.2.2.2.2.2.2.2.2.2 h17⟩, fun w => ?_⟩
    rw [run_eql_struct, eq_reqs_if, if_pos h0, if_pos (congrArg ByteArray.toList h1), if_pos h2, if_pos h3, if_pos h4, if_pos h5, if_pos (congrArg ByteArray.toList h6), if_pos (congrArg ByteArray.toList h7), if_pos (congrArg ByteArray.toList h8), if_pos h9, if_pos h10, if_pos h11, if_pos h12, if_pos h13, if_pos h14, if_pos h15, if_pos h16, if_neg h17]
    rfl
  refine ⟨true, ⟨fun _ => ⟨h0, h1, h2, h3, h4, h5, h6, h7, h8, h9, h10, h11, h12, h13, h14, h15, h16, h17⟩, fun _ => rfl⟩, fun w => ?_⟩
  rw [run_eql_struct, eq_reqs_if, if_pos h0, if_pos (congrArg ByteArray.toList h1), if_pos h2, if_pos h3, if_pos h4, if_pos h5, if_pos (congrArg ByteArray.toList h6), if_pos (congrArg ByteArray.toList h7), if_pos (congrArg ByteArray.toList h8), if_pos h9, if_pos h10, if_pos h11, if_pos h12, if_pos h13, if_pos h14, if_pos h15, if_pos h16, if_pos h17]
  rfl

set_option maxRecDepth 100000 in
set_option maxHeartbeats 3200000 in
theorem eq_plans_if (a b : Rq) (w : World) : (Op.equalIn 10000 23 (.agg #[.string a.pn, .int .i64 a.p1, .int .i64 a.p2, .int .i64 a.p3, .int .i64 a.p4, .int .i64 a.p5, .int .i64 a.p6, .int .i64 a.p7, .int .i64 a.p8, .int .i64 a.p9]) (.agg #[.string b.pn, .int .i64 b.p1, .int .i64 b.p2, .int .i64 b.p3, .int .i64 b.p4, .int .i64 b.p5, .int .i64 b.p6, .int .i64 b.p7, .int .i64 b.p8, .int .i64 b.p9])).run Try.prog w = (if a.pn.toList = b.pn.toList then (if a.p1 = b.p1 then (if a.p2 = b.p2 then (if a.p3 = b.p3 then (if a.p4 = b.p4 then (if a.p5 = b.p5 then (if a.p6 = b.p6 then (if a.p7 = b.p7 then (if a.p8 = b.p8 then (if a.p9 = b.p9 then Result.ok true w else Result.ok false w) else Result.ok false w) else Result.ok false w) else Result.ok false w) else Result.ok false w) else Result.ok false w) else Result.ok false w) else Result.ok false w) else Result.ok false w) else Result.ok false w) := by
  rw [run_equalIn_struct w 9999 23 _ _ fo23 st23]
  go_simp
theorem eq_plans (a b : Rq) : ∃ z : Bool, (z = true ↔ a.pn = b.pn ∧ a.p1 = b.p1 ∧ a.p2 = b.p2 ∧ a.p3 = b.p3 ∧ a.p4 = b.p4 ∧ a.p5 = b.p5 ∧ a.p6 = b.p6 ∧ a.p7 = b.p7 ∧ a.p8 = b.p8 ∧ a.p9 = b.p9) ∧ ∀ w, (binOp .eql 23 (.agg #[.string a.pn, .int .i64 a.p1, .int .i64 a.p2, .int .i64 a.p3, .int .i64 a.p4, .int .i64 a.p5, .int .i64 a.p6, .int .i64 a.p7, .int .i64 a.p8, .int .i64 a.p9]) (.agg #[.string b.pn, .int .i64 b.p1, .int .i64 b.p2, .int .i64 b.p3, .int .i64 b.p4, .int .i64 b.p5, .int .i64 b.p6, .int .i64 b.p7, .int .i64 b.p8, .int .i64 b.p9])).run Try.prog w = .ok (.bool z) w := by
  by_cases h0 : a.pn = b.pn
  rotate_left
  · refine ⟨false, ⟨fun h => (by cases h), fun h => absurd h.1 h0⟩, fun w => ?_⟩
    have g0 : ¬ a.pn.toList = b.pn.toList := fun e => h0 (str_eq e)
    rw [run_eql_struct, eq_plans_if, if_neg g0]
    rfl
  by_cases h1 : a.p1 = b.p1
  rotate_left
  · refine ⟨false, ⟨fun h => (by cases h), fun h => absurd h.2.1 h1⟩, fun w => ?_⟩
    rw [run_eql_struct, eq_plans_if, if_pos (congrArg ByteArray.toList h0), if_neg h1]
    rfl
  by_cases h2 : a.p2 = b.p2
  rotate_left
  · refine ⟨false, ⟨fun h => (by cases h), fun h => absurd h.2.2.1 h2⟩, fun w => ?_⟩
    rw [run_eql_struct, eq_plans_if, if_pos (congrArg ByteArray.toList h0), if_pos h1, if_neg h2]
    rfl
  by_cases h3 : a.p3 = b.p3
  rotate_left
  · refine ⟨false, ⟨fun h => (by cases h), fun h => absurd h.2.2.2.1 h3⟩, fun w => ?_⟩
    rw [run_eql_struct, eq_plans_if, if_pos (congrArg ByteArray.toList h0), if_pos h1, if_pos h2, if_neg h3]
    rfl
  by_cases h4 : a.p4 = b.p4
  rotate_left
  · refine ⟨false, ⟨fun h => (by cases h), fun h => absurd h.2.2.2.2.1 h4⟩, fun w => ?_⟩
    rw [run_eql_struct, eq_plans_if, if_pos (congrArg ByteArray.toList h0), if_pos h1, if_pos h2, if_pos h3, if_neg h4]
    rfl
  by_cases h5 : a.p5 = b.p5
  rotate_left
  · refine ⟨false, ⟨fun h => (by cases h), fun h => absurd h.2.2.2.2.2.1 h5⟩, fun w => ?_⟩
    rw [run_eql_struct, eq_plans_if, if_pos (congrArg ByteArray.toList h0), if_pos h1, if_pos h2, if_pos h3, if_pos h4, if_neg h5]
    rfl
  by_cases h6 : a.p6 = b.p6
  rotate_left
  · refine ⟨false, ⟨fun h => (by cases h), fun h => absurd h.2.2.2.2.2.2.1 h6⟩, fun w => ?_⟩
    rw [run_eql_struct, eq_plans_if, if_pos (congrArg ByteArray.toList h0), if_pos h1, if_pos h2, if_pos h3, if_pos h4, if_pos h5, if_neg h6]
    rfl
  by_cases h7 : a.p7 = b.p7
  rotate_left
  · refine ⟨false, ⟨fun h => (by cases h), fun h => absurd h.2.2.2.2.2.2.2.1 h7⟩, fun w => ?_⟩
    rw [run_eql_struct, eq_plans_if, if_pos (congrArg ByteArray.toList h0), if_pos h1, if_pos h2, if_pos h3, if_pos h4, if_pos h5, if_pos h6, if_neg h7]
    rfl
  by_cases h8 : a.p8 = b.p8
  rotate_left
  · refine ⟨false, ⟨fun h => (by cases h), fun h => absurd h.2.2.2.2.2.2.2.2.1 h8⟩, fun w => ?_⟩
    rw [run_eql_struct, eq_plans_if, if_pos (congrArg ByteArray.toList h0), if_pos h1, if_pos h2, if_pos h3, if_pos h4, if_pos h5, if_pos h6, if_pos h7, if_neg h8]
    rfl
  by_cases h9 : a.p9 = b.p9
  rotate_left
  · refine ⟨false, ⟨fun h => (by cases h), fun h => absurd h.2.2.2.2.2.2.2.2.2 h9⟩, fun w => ?_⟩
    rw [run_eql_struct, eq_plans_if, if_pos (congrArg ByteArray.toList h0), if_pos h1, if_pos h2, if_pos h3, if_pos h4, if_pos h5, if_pos h6, if_pos h7, if_pos h8, if_neg h9]
    rfl
  refine ⟨true, ⟨fun _ => ⟨h0, h1, h2, h3, h4, h5, h6, h7, h8, h9⟩, fun _ => rfl⟩, fun w => ?_⟩
  rw [run_eql_struct, eq_plans_if, if_pos (congrArg ByteArray.toList h0), if_pos h1, if_pos h2, if_pos h3, if_pos h4, if_pos h5, if_pos h6, if_pos h7, if_pos h8, if_pos h9]
  rfl

theorem rq_ext (a b : Rq) : a = b ↔ a.k = b.k ∧ a.key = b.key ∧ a.id = b.id ∧ a.n = b.n ∧ a.ttl = b.ttl ∧ a.o = b.o ∧ a.nm = b.nm ∧ a.sec = b.sec ∧ a.pn = b.pn ∧ a.p1 = b.p1 ∧ a.p2 = b.p2 ∧ a.p3 = b.p3 ∧ a.p4 = b.p4 ∧ a.p5 = b.p5 ∧ a.p6 = b.p6 ∧ a.p7 = b.p7 ∧ a.p8 = b.p8 ∧ a.p9 = b.p9 := by
  cases a
  cases b
  simp
theorem eq_two (a b : Rq) : ∃ z : Bool, (z = true ↔ a = b) ∧ ∀ w, (binOp .eql 25 (.agg (rqC a).toArray) (.agg (rqC b).toArray)).run Try.prog w = .ok (.bool z) w := by
  obtain ⟨z, h1, h2⟩ := eq_reqs a b
  exact ⟨z, h1.trans (rq_ext a b).symm, h2⟩
theorem yieldsIf_eql2 {ops : Array Oper} {S : World → Prop} {op : Oper} {a : Act} (hw : Region.wanted op (yielded ops a.tmps) = true) (t t2 : TypeId) (x y : Operand) (ho : op.op = .binOp .eql t x y t2)
    (A B : Array Value) (hx : a.eval x = .agg A) (hy : a.eval y = .agg B) (r : Bool) (hg : Try.prog.eqGuardType Try.prog.depth t = false) (hE : ∀ W, (binOp .eql t (.agg A) (.agg B)).run Try.prog W = .ok (.bool r) W) : YieldsIf Try.prog ops S op (.bool r) a :=
  .inl ⟨hw, fun W _ => by
    unfold execOp
    simp only [ho, hx, hy, Sem.run_bind, Sem.run_pure, Result.andThen_ok, run_eqGuard_agg (hm := hg), hE]⟩

theorem eql_pl {ops : Array Oper} {rest : List Oper} {dst : Option Tmp} {ty : TypeId} {pos : String} {after : Array Edge} {a : Act} {w : World} {Q : Exit → Act → World → Prop} (x y : Tmp) (t2 : TypeId) {A B : Array Value} {z : Bool} (hx : a.eval (.tmp x) = .agg A) (hy : a.eval (.tmp y) = .agg B) (hg : Try.prog.eqGuardType Try.prog.depth 23 = false) (hE : ∀ W, (binOp .eql 23 (.agg A) (.agg B)).run Try.prog W = .ok (.bool z) W)
    (h : wpList Try.prog ops Q rest (a.put dst (.bool z)) w) : wpList Try.prog ops Q (⟨dst, .binOp .eql 23 (.tmp x) (.tmp y) t2, ty, pos, after, none⟩ :: rest) a w :=
  wpList_plain rfl fun K hK => by
    unfold Oper.wp execOp
    simp only [hx, hy, Sem.run_bind, Sem.run_pure, Result.andThen_ok, run_eqGuard_agg (hm := hg), hE]
    exact hK _ _ h

theorem reqk_any (w : World) (r : Rq) (hr : r.Ok) : Calls Try.prog 24 #[.agg #[.iface 87 (.agg #[])], .agg (rqC r).toArray] w fun e w' => e = .returned (.agg (rqC (keptR r)).toArray) ∧ Turn [] w w' := by
  have hT : ∀ e w', (e = Ending.returned (.agg (rqC (reqS kpC ⟨[], 0⟩ r).2).toArray) ∧ Keep (fun _ => True) w w') → e = .returned (.agg (rqC (keptR r)).toArray) ∧ Turn [] w w' := fun e w' h => ⟨by rw [h.1, kept_s], ⟨h.2.os, h.2.tape, h.2.output, h.2.size, fun k hk _ => h.2.block k hk trivial⟩⟩
  by_cases hk : isK r.k
  · rcases hk with h | h | h | h | h | h | h | h | h | h
    · exact (reqk1 (s := ⟨[], 0⟩) r hr h trivial).mono hT
    · exact (reqk4 (s := ⟨[], 0⟩) r hr h trivial).mono hT
    · exact (reqk2 (s := ⟨[], 0⟩) r hr h trivial).mono hT
    · exact (reqk3 (s := ⟨[], 0⟩) r hr h trivial).mono hT
    · exact (reqk5 (s := ⟨[], 0⟩) r hr h trivial).mono hT
    · exact (reqk16 (s := ⟨[], 0⟩) r hr h trivial).mono hT
    · exact (reqk17 (s := ⟨[], 0⟩) r hr h trivial).mono hT
    · exact (reqk18 (s := ⟨[], 0⟩) r hr h trivial).mono hT
    · exact (reqk19 (s := ⟨[], 0⟩) r hr h trivial).mono hT
    · exact (reqk20 (s := ⟨[], 0⟩) r hr h trivial).mono hT
  · exact (reqkno (s := ⟨[], 0⟩) r hr hk trivial).mono hT

set_option maxRecDepth 100000 in
set_option maxHeartbeats 6400000 in
/-- SameRequest of the program. -/
theorem psame (w : World) (a b : Rq) (ha : a.Ok) (hb : b.Ok) : Calls Try.prog 15 #[.agg (rqC a).toArray, .agg (rqC b).toArray] w fun e w' => ∃ z, e = .returned (.bool z) ∧ (z = true ↔ keptR a = keptR b) ∧ Turn [] w w' := by
  obtain ⟨z, hz, hE⟩ := eq_two (keptR a) (keptR b)
  have HZ := hide hz
  have HE := hide hE
  have hRa : ((w.alloc (.cells (rqC a).toArray 25)).alloc (.cells (rqC b).toArray 25)).rangeAt w.heap.size 0 (rqC a) := rangeAt_keep (rng_new w (rqC a) (rqC a).toArray 25 rfl) (Below.heap_alloc _ _ _ (by simp))
  have hRb : ((w.alloc (.cells (rqC a).toArray 25)).alloc (.cells (rqC b).toArray 25)).rangeAt (w.heap.size + 1) 0 (rqC b) := by
    have := rng_new (w.alloc (.cells (rqC a).toArray 25)) (rqC b) (rqC b).toArray 25 rfl
    rwa [show (w.alloc (.cells (rqC a).toArray 25)).heap.size = w.heap.size + 1 by simp] at this
  have HTw : Hid (Turn [] w ((w.alloc (.cells (rqC a).toArray 25)).alloc (.cells (rqC b).toArray 25))) := ((Turn.refl [] w).alloc _).alloc _
  have HRa := hide hRa
  have HRb := hide hRb
  have HCa := hide (fun V => reqk_any V a ha)
  have HCb := hide (fun V => reqk_any V b hb)
  have iA : Hid ((Try.prog.info? 25).map (·.size) = some (rqC a).length) := sz25.1
  have iB : Hid ((Try.prog.info? 25).map (·.size) = some (rqC b).length) := sz25.1
  have hla := rqC_len a
  have hlb := rqC_len b
  clear hRa hRb hz hE ha hb
  generalize hca : rqC a = ca at *
  generalize hcb : rqC b = cb at *
  generalize rqC (keptR a) = da at *
  generalize rqC (keptR b) = db at *
  clear hca hcb
  have hsz : (w.alloc (.cells ca.toArray 25)).heap.size = w.heap.size + 1 := by simp
  generalize hfb : w.heap.size = fb at *
  go_enter Try.func15, Try.ntmps15
  go_upto_region 1 with fail
  clear hfb hsz
  generalize (w.alloc (.cells ca.toArray 25)).alloc (.cells cb.toArray 25) = W at *
  refine wp_region_noPanic ?_
  refine wp_region_held_drew (S := fun V => V.rangeAt fb 0 ca ∧ V.rangeAt (fb + 1) 0 cb) (by kernel_rfl) ⟨HRa.out, HRb.out⟩ (fun hHeld => ?_)
  refine' wpAnyH_take (i := 0) (oi := { dst := some 5, op := Go.Op.build 87 #[], type := 87, pos := "frame.go:41", after := #[], guard := none }) (v := _) rfl (by kernel_rfl) (by kernel_rfl) (by kernel_rfl) (fun _ _ _ h => h) (Or.inl ⟨by rfl, ?_⟩) (by assumption) ?_
  rotate_left
  · intro w hSw; (try dsimp only at hSw); go_simp <;> with_reducible rfl
  simp only [Act.put, List.setIfInBounds_toArray, List.set_cons_zero, List.set_cons_succ]
  refine' wpAnyH_take (i := 1) (oi := { dst := some 6, op := Go.Op.makeInterface 87 (Go.Operand.tmp 5), type := 64, pos := "frame.go:41", after := #[{ on := 0, ground := Go.Ground.data }], guard := none }) (v := _) rfl (by kernel_rfl) (by kernel_rfl) (by kernel_rfl) (fun _ _ _ h => h) (Or.inl ⟨by rfl, ?_⟩) (by assumption) ?_
  rotate_left
  · intro w hSw; (try dsimp only at hSw); go_simp <;> with_reducible rfl
  simp only [Act.put, List.setIfInBounds_toArray, List.set_cons_zero, List.set_cons_succ]
  refine' wpAnyH_take (i := 2) (oi := { dst := some 7, op := Go.Op.build 66 #[(0, Go.Operand.tmp 6)], type := 66, pos := "frame.go:41", after := #[{ on := 1, ground := Go.Ground.data }], guard := none }) (v := _) rfl (by kernel_rfl) (by kernel_rfl) (by kernel_rfl) (fun _ _ _ h => h) (Or.inl ⟨by rfl, ?_⟩) (by assumption) ?_
  rotate_left
  · intro w hSw; (try dsimp only at hSw); go_simp <;> with_reducible rfl
  simp only [Act.put, List.setIfInBounds_toArray, List.set_cons_zero, List.set_cons_succ]
  refine' wpAnyH_take (i := 3) (oi := { dst := some 8, op := Go.Op.load 25 (Go.Operand.tmp 2), type := 25, pos := "frame.go:41", after := #[], guard := none }) (v := .agg ca.toArray) rfl (by kernel_rfl) (by kernel_rfl) (by kernel_rfl) (fun _ _ _ h => h) (yieldsIf_load_mid (by rfl) _ _ rfl _ _ rfl _ _ (fun V hV => hV.1) fo25 rfl iA.out) (by assumption) ?_
  simp only [Act.put, List.setIfInBounds_toArray, List.set_cons_zero, List.set_cons_succ]
  refine' wpAnyH_take (i := 5) (oi := { dst := some 10, op := Go.Op.build 87 #[], type := 87, pos := "frame.go:41", after := #[], guard := none }) (v := _) rfl (by kernel_rfl) (by kernel_rfl) (by kernel_rfl) (fun _ _ _ h => h) (Or.inl ⟨by rfl, ?_⟩) (by assumption) ?_
  rotate_left
  · intro w hSw; (try dsimp only at hSw); go_simp <;> with_reducible rfl
  simp only [Act.put, List.setIfInBounds_toArray, List.set_cons_zero, List.set_cons_succ]
  refine' wpAnyH_take (i := 6) (oi := { dst := some 11, op := Go.Op.makeInterface 87 (Go.Operand.tmp 10), type := 64, pos := "frame.go:41", after := #[{ on := 5, ground := Go.Ground.data }], guard := none }) (v := _) rfl (by kernel_rfl) (by kernel_rfl) (by kernel_rfl) (fun _ _ _ h => h) (Or.inl ⟨by rfl, ?_⟩) (by assumption) ?_
  rotate_left
  · intro w hSw; (try dsimp only at hSw); go_simp <;> with_reducible rfl
  simp only [Act.put, List.setIfInBounds_toArray, List.set_cons_zero, List.set_cons_succ]
  refine' wpAnyH_take (i := 7) (oi := { dst := some 12, op := Go.Op.build 66 #[(0, Go.Operand.tmp 11)], type := 66, pos := "frame.go:41", after := #[{ on := 6, ground := Go.Ground.data }], guard := none }) (v := _) rfl (by kernel_rfl) (by kernel_rfl) (by kernel_rfl) (fun _ _ _ h => h) (Or.inl ⟨by rfl, ?_⟩) (by assumption) ?_
  rotate_left
  · intro w hSw; (try dsimp only at hSw); go_simp <;> with_reducible rfl
  simp only [Act.put, List.setIfInBounds_toArray, List.set_cons_zero, List.set_cons_succ]
  refine' wpAnyH_take (i := 8) (oi := { dst := some 13, op := Go.Op.load 25 (Go.Operand.tmp 3), type := 25, pos := "frame.go:41", after := #[], guard := none }) (v := .agg cb.toArray) rfl (by kernel_rfl) (by kernel_rfl) (by kernel_rfl) (fun _ _ _ h => h) (yieldsIf_load_mid (by rfl) _ _ rfl _ _ rfl _ _ (fun V hV => hV.2) fo25 rfl iB.out) (by assumption) ?_
  simp only [Act.put, List.setIfInBounds_toArray, List.set_cons_zero, List.set_cons_succ]
  refine wpAnyH_ready (rs := [4]) (by kernel_rfl) (by simp) ?_
  refine AllReadyH.cons rfl (fun K hK => ?_) AllReadyH.nil
  go_simp
  go_wp2_with (first | (go_at_call 24; (with_reducible refine (HCa.out _).mono ?_); rintro e' w1 ⟨rfl, hT⟩; have HT1 := hide hT; clear hT) | fail)
  refine hK.out _ _ ?_ (fun hHeld => ?_)
  · exact ⟨rangeAt_keep HRa.out (HT1.out.block fb (lt_of_cell (HRa.out 0 _ (List.getElem?_eq_getElem (by have := hla; omega)))) (by simp)), rangeAt_keep HRb.out (HT1.out.block (fb + 1) (lt_of_cell (HRb.out 0 _ (List.getElem?_eq_getElem (by have := hlb; omega)))) (by simp))⟩
  clear hK K
  try simp only [Act.put, List.setIfInBounds_toArray, List.set_cons_zero, List.set_cons_succ]
  refine wpAnyH_ready (rs := [9]) (by kernel_rfl) (by simp) ?_
  refine AllReadyH.cons rfl (fun K hK => ?_) AllReadyH.nil
  go_simp
  go_wp2_with (first | (go_at_call 24; (with_reducible refine (HCb.out _).mono ?_); rintro e' w2 ⟨rfl, hT⟩; have HT2 := hide hT; clear hT) | fail)
  refine hK.out _ _ ?_ (fun hHeld => ?_)
  · exact ⟨rangeAt_keep hHeld.1 (HT2.out.block fb (lt_of_cell (hHeld.1 0 _ (List.getElem?_eq_getElem (by have := hla; omega)))) (by simp)), rangeAt_keep hHeld.2 (HT2.out.block (fb + 1) (lt_of_cell (hHeld.2 0 _ (List.getElem?_eq_getElem (by have := hlb; omega)))) (by simp))⟩
  clear hK K
  try simp only [Act.put, List.setIfInBounds_toArray, List.set_cons_zero, List.set_cons_succ]
  refine' wpAnyH_take (i := 10) (oi := { dst := some 15, op := Go.Op.binOp Go.BinOp.eql 25 (Go.Operand.tmp 9) (Go.Operand.tmp 14) 25, type := 4, pos := "frame.go:41", after := #[{ on := 4, ground := Go.Ground.data }, { on := 9, ground := Go.Ground.data }], guard := none }) (v := .bool z) rfl (by kernel_rfl) (by kernel_rfl) (by kernel_rfl) (fun _ _ _ h => h) (yieldsIf_eql2 (by rfl) _ _ _ _ rfl _ _ rfl rfl z eqg25 HE.out) (by assumption) ?_
  simp only [Act.put, List.setIfInBounds_toArray, List.set_cons_zero, List.set_cons_succ]
  refine' wpAnyH_take (i := 11) (oi := { dst := some 4, op := Go.Op.assign (Go.Operand.tmp 15), type := 4, pos := "frame.go:41", after := #[{ on := 10, ground := Go.Ground.data }, { on := 9, ground := Go.Ground.chain }, { on := 0, ground := Go.Ground.phase }, { on := 1, ground := Go.Ground.phase }, { on := 2, ground := Go.Ground.phase }, { on := 3, ground := Go.Ground.phase }, { on := 4, ground := Go.Ground.phase }, { on := 5, ground := Go.Ground.phase }, { on := 6, ground := Go.Ground.phase }, { on := 7, ground := Go.Ground.phase }, { on := 8, ground := Go.Ground.phase }, { on := 9, ground := Go.Ground.phase }, { on := 10, ground := Go.Ground.phase }], guard := none }) (v := _) rfl (by kernel_rfl) (by kernel_rfl) (by kernel_rfl) (fun _ _ _ h => h) (Or.inl ⟨by rfl, ?_⟩) (by assumption) ?_
  rotate_left
  · intro w hSw; (try dsimp only at hSw); go_simp <;> with_reducible rfl
  simp only [Act.put, List.setIfInBounds_toArray, List.set_cons_zero, List.set_cons_succ]
  refine wpAnyH_done (by kernel_rfl) ?_ _
  refine NoPanic.normal ?_
  go_wp2_with fail
  go_ret
  exact ⟨z, rfl, HZ.out, HTw.out.drew.trans (HT1.out.trans HT2.out)⟩

theorem kept_iff_1 (a b : Rq) (ha : a.k = 1) (hb : b.k = 1) : keptR a = keptR b ↔ a.key = b.key ∧ a.id = b.id ∧ a.n = b.n ∧ a.ttl = b.ttl := by
  obtain ⟨k, key, id, n, ttl, o, nm, sec, pn, p1, p2, p3, p4, p5, p6, p7, p8, p9⟩ := a
  obtain ⟨k', key', id', n', ttl', o', nm', sec', pn', q1, q2, q3, q4, q5, q6, q7, q8, q9⟩ := b
  dsimp only at ha hb
  subst ha hb
  unfold keptR reqS reqK kpC
  dsimp only
  simp

theorem kept_iff_4 (a b : Rq) (ha : a.k = 4) (hb : b.k = 4) : keptR a = keptR b ↔ a.key = b.key ∧ a.id = b.id ∧ a.n = b.n ∧ a.ttl = b.ttl := by
  obtain ⟨k, key, id, n, ttl, o, nm, sec, pn, p1, p2, p3, p4, p5, p6, p7, p8, p9⟩ := a
  obtain ⟨k', key', id', n', ttl', o', nm', sec', pn', q1, q2, q3, q4, q5, q6, q7, q8, q9⟩ := b
  dsimp only at ha hb
  subst ha hb
  unfold keptR reqS reqK kpC
  dsimp only
  simp

theorem kept_iff_2 (a b : Rq) (ha : a.k = 2) (hb : b.k = 2) : keptR a = keptR b ↔ a.key = b.key ∧ a.id = b.id ∧ a.o = b.o ∧ a.n = b.n := by
  obtain ⟨k, key, id, n, ttl, o, nm, sec, pn, p1, p2, p3, p4, p5, p6, p7, p8, p9⟩ := a
  obtain ⟨k', key', id', n', ttl', o', nm', sec', pn', q1, q2, q3, q4, q5, q6, q7, q8, q9⟩ := b
  dsimp only at ha hb
  subst ha hb
  unfold keptR reqS reqK kpC
  dsimp only
  simp
  exact fun _ _ => and_comm

theorem kept_iff_3 (a b : Rq) (ha : a.k = 3) (hb : b.k = 3) : keptR a = keptR b ↔ a.key = b.key ∧ a.id = b.id ∧ a.o = b.o := by
  obtain ⟨k, key, id, n, ttl, o, nm, sec, pn, p1, p2, p3, p4, p5, p6, p7, p8, p9⟩ := a
  obtain ⟨k', key', id', n', ttl', o', nm', sec', pn', q1, q2, q3, q4, q5, q6, q7, q8, q9⟩ := b
  dsimp only at ha hb
  subst ha hb
  unfold keptR reqS reqK kpC
  dsimp only
  simp

theorem kept_iff_5 (a b : Rq) (ha : a.k = 5) (hb : b.k = 5) : keptR a = keptR b ↔ a.key = b.key := by
  obtain ⟨k, key, id, n, ttl, o, nm, sec, pn, p1, p2, p3, p4, p5, p6, p7, p8, p9⟩ := a
  obtain ⟨k', key', id', n', ttl', o', nm', sec', pn', q1, q2, q3, q4, q5, q6, q7, q8, q9⟩ := b
  dsimp only at ha hb
  subst ha hb
  unfold keptR reqS reqK kpC
  dsimp only
  simp

theorem kept_iff_16 (a b : Rq) (ha : a.k = 16) (hb : b.k = 16) : keptR a = keptR b ↔ a.key = b.key ∧ a.pn = b.pn ∧ a.p1 = b.p1 ∧ a.p2 = b.p2 ∧ a.p3 = b.p3 ∧ a.p4 = b.p4 ∧ a.p5 = b.p5 ∧ a.p6 = b.p6 ∧ a.p7 = b.p7 ∧ a.p8 = b.p8 ∧ a.p9 = b.p9 := by
  obtain ⟨k, key, id, n, ttl, o, nm, sec, pn, p1, p2, p3, p4, p5, p6, p7, p8, p9⟩ := a
  obtain ⟨k', key', id', n', ttl', o', nm', sec', pn', q1, q2, q3, q4, q5, q6, q7, q8, q9⟩ := b
  dsimp only at ha hb
  subst ha hb
  unfold keptR reqS reqK kpC
  dsimp only
  simp [Rq.setP, Rq.px]

theorem kept_iff_17 (a b : Rq) (ha : a.k = 17) (hb : b.k = 17) : keptR a = keptR b ↔ a.key = b.key ∧ a.nm = b.nm ∧ a.sec = b.sec ∧ a.pn = b.pn ∧ a.p1 = b.p1 := by
  obtain ⟨k, key, id, n, ttl, o, nm, sec, pn, p1, p2, p3, p4, p5, p6, p7, p8, p9⟩ := a
  obtain ⟨k', key', id', n', ttl', o', nm', sec', pn', q1, q2, q3, q4, q5, q6, q7, q8, q9⟩ := b
  dsimp only at ha hb
  subst ha hb
  unfold keptR reqS reqK kpC
  dsimp only
  simp

theorem kept_iff_18 (a b : Rq) (ha : a.k = 18) (hb : b.k = 18) : keptR a = keptR b ↔ a.key = b.key ∧ a.nm = b.nm ∧ a.pn = b.pn ∧ a.p1 = b.p1 := by
  obtain ⟨k, key, id, n, ttl, o, nm, sec, pn, p1, p2, p3, p4, p5, p6, p7, p8, p9⟩ := a
  obtain ⟨k', key', id', n', ttl', o', nm', sec', pn', q1, q2, q3, q4, q5, q6, q7, q8, q9⟩ := b
  dsimp only at ha hb
  subst ha hb
  unfold keptR reqS reqK kpC
  dsimp only
  simp

theorem kept_iff_19 (a b : Rq) (ha : a.k = 19) (hb : b.k = 19) : keptR a = keptR b ↔ a.key = b.key ∧ a.n = b.n := by
  obtain ⟨k, key, id, n, ttl, o, nm, sec, pn, p1, p2, p3, p4, p5, p6, p7, p8, p9⟩ := a
  obtain ⟨k', key', id', n', ttl', o', nm', sec', pn', q1, q2, q3, q4, q5, q6, q7, q8, q9⟩ := b
  dsimp only at ha hb
  subst ha hb
  unfold keptR reqS reqK kpC
  dsimp only
  simp

theorem kept_iff_20 (a b : Rq) (ha : a.k = 20) (hb : b.k = 20) : keptR a = keptR b ↔ a.key = b.key ∧ a.nm = b.nm ∧ a.n = b.n := by
  obtain ⟨k, key, id, n, ttl, o, nm, sec, pn, p1, p2, p3, p4, p5, p6, p7, p8, p9⟩ := a
  obtain ⟨k', key', id', n', ttl', o', nm', sec', pn', q1, q2, q3, q4, q5, q6, q7, q8, q9⟩ := b
  dsimp only at ha hb
  subst ha hb
  unfold keptR reqS reqK kpC
  dsimp only
  simp
  exact fun _ => and_comm

end Go.Proofs.Ytkbboingeacgjaa
