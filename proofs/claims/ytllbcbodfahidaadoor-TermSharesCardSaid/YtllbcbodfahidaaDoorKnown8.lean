/-
  The laws' example.
-/
import Derived.Test.YtllbcbodfahidaaDoorTerm4
import Derived.Test.YtllbcbodfahidaaDoorRNum
namespace Go.Proofs.YtllbcbodfahidaaDoor
open Go.RowKit Cal

theorem rnumber_at {y m d n : Int} (hv : vldB y m d = true) (hn : num y m d = n) (w : World) :
    Calls Tryd.prog 19 #[.agg #[.int .i64 y, .int .i64 m, .int .i64 d]] w fun e w' => e = .returned (.tuple #[.int .i64 n, .int .i64 0]) ∧ Turn [] w w' := by
  subst hn; exact rnumber_yes y m d w hv
theorem ex1 (w : World) (hT : Tab w) : Calls Tryd.prog 10 #[.int .i64 0, .int .i64 31, .int .i64 0, .int .i64 19388] w fun e w' => e = .returned (.tuple #[.int .i64 19416, .int .i64 0]) ∧ Turn [] w w' := by
  have c := next_iv 31 0 24276 19388 w hT (by omega) (by omega) (by omega) (by omega) (by omega) (by decide) (by decide)
  rwa [show B 31 (24276 + 1) = 19416 by decide] at c
theorem ex2 (w : World) (hT : Tab w) : Calls Tryd.prog 10 #[.int .i64 0, .int .i64 31, .int .i64 0, .int .i64 19416] w fun e w' => e = .returned (.tuple #[.int .i64 19447, .int .i64 0]) ∧ Turn [] w w' := by
  have c := next_iv 31 0 24277 19416 w hT (by omega) (by omega) (by omega) (by omega) (by omega) (by decide) (by decide)
  rwa [show B 31 (24277 + 1) = 19447 by decide] at c

set_option maxRecDepth 100000 in
set_option maxHeartbeats 1000000 in
theorem known_any (w : World) (hT : Tab w) : Calls Tryd.prog 9 #[] w fun e w' => e = .returned (.bool true) ∧ Turn [] w w' := by
  have HT := hide hT
  clear hT
  go_enter Tryd.func9, Tryd.ntmps9
  go_wp2_with fail
  refine (rnumber_at (y := 2023) (m := 1) (d := 31) (n := 19388) (by decide) (by decide) w).mono ?_
  rintro e w1 ⟨rfl, hT1⟩
  have HT1 := hide hT1
  clear hT1
  go_wp2_with fail
  refine (rnumber_at (y := 2023) (m := 2) (d := 28) (n := 19416) (by decide) (by decide) w1).mono ?_
  rintro e w2 ⟨rfl, hT2⟩
  have HT2 := hide (HT1.out.trans hT2)
  clear hT2 HT1
  go_wp2_with fail
  refine (rnumber_at (y := 2023) (m := 3) (d := 31) (n := 19447) (by decide) (by decide) w2).mono ?_
  rintro e w3 ⟨rfl, hT3⟩
  have HT3 := hide (HT2.out.trans hT3)
  clear hT3 HT2
  go_wp2_with fail
  refine (ex1 w3 (HT.out.turn HT3.out)).mono ?_
  rintro e w4 ⟨rfl, hT4⟩
  have HT4 := hide (HT3.out.trans hT4)
  clear hT4 HT3
  go_wp2_with fail
  refine (ex2 w4 (HT.out.turn HT4.out)).mono ?_
  rintro e w5 ⟨rfl, hT5⟩
  have HT5 := hide (HT4.out.trans hT5)
  clear hT5 HT4
  go_wp2
  go_ret
  exact ⟨rfl, HT5.out⟩

end Go.Proofs.YtllbcbodfahidaaDoor
