/-
  RecPlans where a name is too long.
-/
import Derived.Test.YtghgkjollafeiaaPlH
namespace Go.Proofs.Ytghgkjollafeiaa
open Go.RowKit

set_option maxRecDepth 100000 in
set_option maxHeartbeats 1600000 in
theorem plans_long (w : World) (np nq ns : ByteArray) (x1 x2 x3 x4 x5 x6 x7 x8 x9 u1 u2 u3 u4 u5 u6 u7 u8 u9 z1 z2 z3 z4 z5 z6 z7 z8 : Int) (h : 255 < np.size ∨ 255 < nq.size ∨ 255 < ns.size) (h1 : np.size ≤ maxLen) (h2 : nq.size ≤ maxLen) (h3 : ns.size ≤ maxLen) :
    Calls Try.prog 4 #[.agg #[Value.string np, .int .i64 x1, .int .i64 x2, .int .i64 x3, .int .i64 x4, .int .i64 x5, .int .i64 x6, .int .i64 x7, .int .i64 x8, .int .i64 x9], .agg #[Value.string nq, .int .i64 u1, .int .i64 u2, .int .i64 u3, .int .i64 u4, .int .i64 u5, .int .i64 u6, .int .i64 u7, .int .i64 u8, .int .i64 u9], .agg #[Value.string ns, .int .i64 z1, .int .i64 z2, .int .i64 z3, .int .i64 z4, .int .i64 z5, .int .i64 z6, .int .i64 z7, .int .i64 z8]] w fun e w' => e = .returned (.bool true) ∧ Turn [] w w' := by
  unfold maxLen at h1 h2 h3
  have hb0 := boxes w (.cells #[Value.string np, .int .i64 x1, .int .i64 x2, .int .i64 x3, .int .i64 x4, .int .i64 x5, .int .i64 x6, .int .i64 x7, .int .i64 x8, .int .i64 x9] 23) (.cells #[Value.string nq, .int .i64 u1, .int .i64 u2, .int .i64 u3, .int .i64 u4, .int .i64 u5, .int .i64 u6, .int .i64 u7, .int .i64 u8, .int .i64 u9] 23) (.cells #[Value.string ns, .int .i64 z1, .int .i64 z2, .int .i64 z3, .int .i64 z4, .int .i64 z5, .int .i64 z6, .int .i64 z7, .int .i64 z8] 40)
  have hb1 := boxes1 w (.cells #[Value.string np, .int .i64 x1, .int .i64 x2, .int .i64 x3, .int .i64 x4, .int .i64 x5, .int .i64 x6, .int .i64 x7, .int .i64 x8, .int .i64 x9] 23) (.cells #[Value.string nq, .int .i64 u1, .int .i64 u2, .int .i64 u3, .int .i64 u4, .int .i64 u5, .int .i64 u6, .int .i64 u7, .int .i64 u8, .int .i64 u9] 23) (.cells #[Value.string ns, .int .i64 z1, .int .i64 z2, .int .i64 z3, .int .i64 z4, .int .i64 z5, .int .i64 z6, .int .i64 z7, .int .i64 z8] 40)
  have hb2 := boxes2 w (.cells #[Value.string np, .int .i64 x1, .int .i64 x2, .int .i64 x3, .int .i64 x4, .int .i64 x5, .int .i64 x6, .int .i64 x7, .int .i64 x8, .int .i64 x9] 23) (.cells #[Value.string nq, .int .i64 u1, .int .i64 u2, .int .i64 u3, .int .i64 u4, .int .i64 u5, .int .i64 u6, .int .i64 u7, .int .i64 u8, .int .i64 u9] 23) (.cells #[Value.string ns, .int .i64 z1, .int .i64 z2, .int .i64 z3, .int .i64 z4, .int .i64 z5, .int .i64 z6, .int .i64 z7, .int .i64 z8] 40)
  have hT0 : Turn [] w (((w.alloc (.cells #[Value.string np, .int .i64 x1, .int .i64 x2, .int .i64 x3, .int .i64 x4, .int .i64 x5, .int .i64 x6, .int .i64 x7, .int .i64 x8, .int .i64 x9] 23)).alloc (.cells #[Value.string nq, .int .i64 u1, .int .i64 u2, .int .i64 u3, .int .i64 u4, .int .i64 u5, .int .i64 u6, .int .i64 u7, .int .i64 u8, .int .i64 u9] 23)).alloc (.cells #[Value.string ns, .int .i64 z1, .int .i64 z2, .int .i64 z3, .int .i64 z4, .int .i64 z5, .int .i64 z6, .int .i64 z7, .int .i64 z8] 40)) := (((Turn.refl [] w).alloc _).alloc _).alloc _
  have HB0 := hide hb0
  have HB1 := hide hb1
  have HB2 := hide hb2
  have HT0 := hide hT0
  clear hb0 hb1 hb2 hT0
  go_enter Try.func4, Try.ntmps4
  go_wp2_with fail
  generalize (((w.alloc (.cells #[Value.string np, .int .i64 x1, .int .i64 x2, .int .i64 x3, .int .i64 x4, .int .i64 x5, .int .i64 x6, .int .i64 x7, .int .i64 x8, .int .i64 x9] 23)).alloc (.cells #[Value.string nq, .int .i64 u1, .int .i64 u2, .int .i64 u3, .int .i64 u4, .int .i64 u5, .int .i64 u6, .int .i64 u7, .int .i64 u8, .int .i64 u9] 23)).alloc (.cells #[Value.string ns, .int .i64 z1, .int .i64 z2, .int .i64 z3, .int .i64 z4, .int .i64 z5, .int .i64 z6, .int .i64 z7, .int .i64 z8] 40)) = w0 at *
  refine (known_any w0).mono ?_
  rintro e w1 ⟨rfl, hT1⟩
  have cp0 := box_cells HB0.out hT1 0 _ rfl
  have cq0 := box_cells HB1.out hT1 0 _ rfl
  have cs0 := box_cells HB2.out hT1 0 _ rfl
  have HT1 := hide (HT0.out.trans hT1)
  clear hT1
  by_cases k1 : 255 < np.size
  · go_wp2_with fail
    go_ret
    exact ⟨rfl, HT1.out⟩
  · by_cases k2 : 255 < nq.size
    · go_wp2_with fail
      go_ret
      exact ⟨rfl, HT1.out⟩
    · have k3 : 255 < ns.size := by
        rcases h with h | h | h
        · exact absurd h k1
        · exact absurd h k2
        · exact h
      go_wp2_with fail
      go_ret
      exact ⟨rfl, HT1.out⟩
end Go.Proofs.Ytghgkjollafeiaa
