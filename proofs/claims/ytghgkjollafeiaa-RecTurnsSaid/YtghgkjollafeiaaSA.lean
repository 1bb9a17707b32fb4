/-
  Accounts held against one another, walked.
-/
import Derived.Test.YtghgkjollafeiaaSG
import Derived.Test.YtghgkjollafeiaaPlE
namespace Go.Proofs.Ytghgkjollafeiaa
open Go.RowKit

set_option maxRecDepth 100000 in
set_option maxHeartbeats 12800000 in
theorem refSame (w : World) (an ak ap bn bk bp : ByteArray) (x1 x2 x3 x4 x5 x6 x7 x8 x9 y1 y2 y3 y4 y5 y6 y7 y8 y9 at1 at2 at3 aq1 aq2 bt1 bt2 bt3 bq1 bq2 : Int) (e1 e2 e3 f1 f2 f3 : Option Addr) (em1 em2 em3 ec1 ec2 ec3 fm1 fm2 fm3 fc1 fc2 fc3 : Nat) (rp r1 r2 r3 : Bool)
    (hP : EqlS 23 #[Value.string ap, .int .i64 x1, .int .i64 x2, .int .i64 x3, .int .i64 x4, .int .i64 x5, .int .i64 x6, .int .i64 x7, .int .i64 x8, .int .i64 x9] #[Value.string bp, .int .i64 y1, .int .i64 y2, .int .i64 y3, .int .i64 y4, .int .i64 y5, .int .i64 y6, .int .i64 y7, .int .i64 y8, .int .i64 y9] rp)
    (h1C : ∀ w', Turn [] w w' → Calls Try.prog 34 #[.slice e1 em1 ec1, .slice f1 fm1 fc1] w' fun e w'' => e = .returned (.bool r1) ∧ Turn [] w' w'')
    (h2C : ∀ w', Turn [] w w' → Calls Try.prog 35 #[.slice e2 em2 ec2, .slice f2 fm2 fc2] w' fun e w'' => e = .returned (.bool r2) ∧ Turn [] w' w'')
    (h3C : ∀ w', Turn [] w w' → Calls Try.prog 36 #[.slice e3 em3 ec3, .slice f3 fm3 fc3] w' fun e w'' => e = .returned (.bool r3) ∧ Turn [] w' w'') :
    Calls Try.prog 12 #[.agg #[Value.string an, .string ak, .string ap, .int .i64 x1, .int .i64 x2, .int .i64 x3, .int .i64 x4, .int .i64 x5, .int .i64 x6, .int .i64 x7, .int .i64 x8, .int .i64 x9, .int .i64 at1, .int .i64 at2, .int .i64 at3, .slice e1 em1 ec1, .int .i64 aq1, .int .i64 aq2, .slice e2 em2 ec2, .slice e3 em3 ec3], .agg #[Value.string bn, .string bk, .string bp, .int .i64 y1, .int .i64 y2, .int .i64 y3, .int .i64 y4, .int .i64 y5, .int .i64 y6, .int .i64 y7, .int .i64 y8, .int .i64 y9, .int .i64 bt1, .int .i64 bt2, .int .i64 bt3, .slice f1 fm1 fc1, .int .i64 bq1, .int .i64 bq2, .slice f2 fm2 fc2, .slice f3 fm3 fc3]] w fun e w' => e = .returned (.bool (decide (an.toList = bn.toList) && (decide (ak.toList = bk.toList) && (rp && (decide (at1 = bt1) && (decide (at2 = bt2) && (decide (at3 = bt3) && (decide (aq1 = bq1) && (decide (aq2 = bq2) && (r1 && (r2 && r3))))))))))) ∧ Turn [] w w' := by
  have hT : Turn [] w ((w.alloc (.cells #[Value.string an, .string ak, .string ap, .int .i64 x1, .int .i64 x2, .int .i64 x3, .int .i64 x4, .int .i64 x5, .int .i64 x6, .int .i64 x7, .int .i64 x8, .int .i64 x9, .int .i64 at1, .int .i64 at2, .int .i64 at3, .slice e1 em1 ec1, .int .i64 aq1, .int .i64 aq2, .slice e2 em2 ec2, .slice e3 em3 ec3] 28)).alloc (.cells #[Value.string bn, .string bk, .string bp, .int .i64 y1, .int .i64 y2, .int .i64 y3, .int .i64 y4, .int .i64 y5, .int .i64 y6, .int .i64 y7, .int .i64 y8, .int .i64 y9, .int .i64 bt1, .int .i64 bt2, .int .i64 bt3, .slice f1 fm1 fc1, .int .i64 bq1, .int .i64 bq2, .slice f2 fm2 fc2, .slice f3 fm3 fc3] 28)) := ((Turn.refl [] w).alloc _).alloc _
  have HT := hide hT
  have H1C := hide h1C
  have H2C := hide h2C
  have H3C := hide h3C
  have HS := hide (fun w' => same_any w' ap bp x1 x2 x3 x4 x5 x6 x7 x8 x9 y1 y2 y3 y4 y5 y6 y7 y8 y9 rp hP)
  have hb : ∀ w, (binOp .eql 23 (.agg #[Value.string ap, .int .i64 x1, .int .i64 x2, .int .i64 x3, .int .i64 x4, .int .i64 x5, .int .i64 x6, .int .i64 x7, .int .i64 x8, .int .i64 x9]) (.agg #[Value.string bp, .int .i64 y1, .int .i64 y2, .int .i64 y3, .int .i64 y4, .int .i64 y5, .int .i64 y6, .int .i64 y7, .int .i64 y8, .int .i64 y9])).run Try.prog w = .ok (.bool rp) w := Eql.bin hP
  have hr' : ∀ w, (Op.equalIn 10000 23 (.agg #[Value.string ap, .int .i64 x1, .int .i64 x2, .int .i64 x3, .int .i64 x4, .int .i64 x5, .int .i64 x6, .int .i64 x7, .int .i64 x8, .int .i64 x9]) (.agg #[Value.string bp, .int .i64 y1, .int .i64 y2, .int .i64 y3, .int .i64 y4, .int .i64 y5, .int .i64 y6, .int .i64 y7, .int .i64 y8, .int .i64 y9])).run Try.prog w = .ok rp w := hP
  clear hT h1C h2C h3C hP
  obtain ⟨W, hW⟩ : ∃ W, (w.alloc (.cells #[Value.string an, .string ak, .string ap, .int .i64 x1, .int .i64 x2, .int .i64 x3, .int .i64 x4, .int .i64 x5, .int .i64 x6, .int .i64 x7, .int .i64 x8, .int .i64 x9, .int .i64 at1, .int .i64 at2, .int .i64 at3, .slice e1 em1 ec1, .int .i64 aq1, .int .i64 aq2, .slice e2 em2 ec2, .slice e3 em3 ec3] 28)).alloc (.cells #[Value.string bn, .string bk, .string bp, .int .i64 y1, .int .i64 y2, .int .i64 y3, .int .i64 y4, .int .i64 y5, .int .i64 y6, .int .i64 y7, .int .i64 y8, .int .i64 y9, .int .i64 bt1, .int .i64 bt2, .int .i64 bt3, .slice f1 fm1 fc1, .int .i64 bq1, .int .i64 bq2, .slice f2 fm2 fc2, .slice f3 fm3 fc3] 28) = W := ⟨_, rfl⟩
  have hs1 : (w.alloc (.cells #[Value.string an, .string ak, .string ap, .int .i64 x1, .int .i64 x2, .int .i64 x3, .int .i64 x4, .int .i64 x5, .int .i64 x6, .int .i64 x7, .int .i64 x8, .int .i64 x9, .int .i64 at1, .int .i64 at2, .int .i64 at3, .slice e1 em1 ec1, .int .i64 aq1, .int .i64 aq2, .slice e2 em2 ec2, .slice e3 em3 ec3] 28)).heap.size = w.heap.size + 1 := by simp
  have hsW : W.heap.size = w.heap.size + 2 := by rw [← hW]; simp
  have HA : Hid (∀ i u, (#[Value.string an, .string ak, .string ap, .int .i64 x1, .int .i64 x2, .int .i64 x3, .int .i64 x4, .int .i64 x5, .int .i64 x6, .int .i64 x7, .int .i64 x8, .int .i64 x9, .int .i64 at1, .int .i64 at2, .int .i64 at3, .slice e1 em1 ec1, .int .i64 aq1, .int .i64 aq2, .slice e2 em2 ec2, .slice e3 em3 ec3] : Array Value)[i]? = some u → ∀ w', Turn [] W w' → w'.cell? ⟨w.heap.size, i, none⟩ = some u) := fun i u hu w' hT => by
    refine (World.cell?_of_block (a := ⟨w.heap.size, i, none⟩) (hT.block w.heap.size (by omega) (by simp))).trans ?_
    rw [← hW]
    refine (World.cell?_of_block (a := ⟨w.heap.size, i, none⟩) (Below.heap_alloc _ _ w.heap.size (by omega))).trans ?_
    rw [World.cell?_alloc_at _ _ _ _ rfl]
    exact hu
  have HB : Hid (∀ i u, (#[Value.string bn, .string bk, .string bp, .int .i64 y1, .int .i64 y2, .int .i64 y3, .int .i64 y4, .int .i64 y5, .int .i64 y6, .int .i64 y7, .int .i64 y8, .int .i64 y9, .int .i64 bt1, .int .i64 bt2, .int .i64 bt3, .slice f1 fm1 fc1, .int .i64 bq1, .int .i64 bq2, .slice f2 fm2 fc2, .slice f3 fm3 fc3] : Array Value)[i]? = some u → ∀ w', Turn [] W w' → w'.cell? ⟨w.heap.size + 1, i, none⟩ = some u) := fun i u hu w' hT => by
    refine (World.cell?_of_block (a := ⟨w.heap.size + 1, i, none⟩) (hT.block (w.heap.size + 1) (by omega) (by simp))).trans ?_
    rw [← hW, ← hs1, World.cell?_alloc_at _ _ _ _ rfl]
    exact hu
  rw [hW] at HT
  have HW := hide hW
  clear hsW hs1 hW
  by_cases h0 : an.toList = bn.toList
  case neg =>
    rw [show (decide (an.toList = bn.toList) && (decide (ak.toList = bk.toList) && (rp && (decide (at1 = bt1) && (decide (at2 = bt2) && (decide (at3 = bt3) && (decide (aq1 = bq1) && (decide (aq2 = bq2) && (r1 && (r2 && r3)))))))))) = false by simp [h0]]
    go_enter Try.func12, Try.ntmps12
    go_wp2_with fail
    go_ret
    exact ⟨rfl, by rw [HW.out]; exact HT.out⟩
  case pos =>
    by_cases h1 : ak.toList = bk.toList
    case neg =>
      rw [show (decide (an.toList = bn.toList) && (decide (ak.toList = bk.toList) && (rp && (decide (at1 = bt1) && (decide (at2 = bt2) && (decide (at3 = bt3) && (decide (aq1 = bq1) && (decide (aq2 = bq2) && (r1 && (r2 && r3)))))))))) = false by simp [h1]]
      go_enter Try.func12, Try.ntmps12
      go_wp2_with fail
      go_ret
      exact ⟨rfl, by rw [HW.out]; exact HT.out⟩
    case pos =>
      cases rp with
      | false =>
        rw [show (decide (an.toList = bn.toList) && (decide (ak.toList = bk.toList) && (false && (decide (at1 = bt1) && (decide (at2 = bt2) && (decide (at3 = bt3) && (decide (aq1 = bq1) && (decide (aq2 = bq2) && (r1 && (r2 && r3)))))))))) = false by simp]
        go_enter Try.func12, Try.ntmps12
        go_wp2_with fail
        go_ret
        exact ⟨rfl, by rw [HW.out]; exact HT.out⟩
      | true =>
        by_cases h3 : at1 = bt1
        case neg =>
          rw [show (decide (an.toList = bn.toList) && (decide (ak.toList = bk.toList) && (true && (decide (at1 = bt1) && (decide (at2 = bt2) && (decide (at3 = bt3) && (decide (aq1 = bq1) && (decide (aq2 = bq2) && (r1 && (r2 && r3)))))))))) = false by simp [h3]]
          go_enter Try.func12, Try.ntmps12
          go_wp2_with fail
          go_ret
          exact ⟨rfl, by rw [HW.out]; exact HT.out⟩
        case pos =>
          subst h3
          by_cases h4 : at2 = bt2
          case neg =>
            rw [show (decide (an.toList = bn.toList) && (decide (ak.toList = bk.toList) && (true && (decide (at1 = at1) && (decide (at2 = bt2) && (decide (at3 = bt3) && (decide (aq1 = bq1) && (decide (aq2 = bq2) && (r1 && (r2 && r3)))))))))) = false by simp [h4]]
            go_enter Try.func12, Try.ntmps12
            go_wp2_with fail
            go_ret
            exact ⟨rfl, by rw [HW.out]; exact HT.out⟩
          case pos =>
            subst h4
            by_cases h5 : at3 = bt3
            case neg =>
              rw [show (decide (an.toList = bn.toList) && (decide (ak.toList = bk.toList) && (true && (decide (at1 = at1) && (decide (at2 = at2) && (decide (at3 = bt3) && (decide (aq1 = bq1) && (decide (aq2 = bq2) && (r1 && (r2 && r3)))))))))) = false by simp [h5]]
              go_enter Try.func12, Try.ntmps12
              go_wp2_with fail
              go_ret
              exact ⟨rfl, by rw [HW.out]; exact HT.out⟩
            case pos =>
              subst h5
              by_cases h6 : aq1 = bq1
              case neg =>
                rw [show (decide (an.toList = bn.toList) && (decide (ak.toList = bk.toList) && (true && (decide (at1 = at1) && (decide (at2 = at2) && (decide (at3 = at3) && (decide (aq1 = bq1) && (decide (aq2 = bq2) && (r1 && (r2 && r3)))))))))) = false by simp [h6]]
                go_enter Try.func12, Try.ntmps12
                go_wp2_with fail
                go_ret
                exact ⟨rfl, by rw [HW.out]; exact HT.out⟩
              case pos =>
                subst h6
                by_cases h7 : aq2 = bq2
                case neg =>
                  rw [show (decide (an.toList = bn.toList) && (decide (ak.toList = bk.toList) && (true && (decide (at1 = at1) && (decide (at2 = at2) && (decide (at3 = at3) && (decide (aq1 = aq1) && (decide (aq2 = bq2) && (r1 && (r2 && r3)))))))))) = false by simp [h7]]
                  go_enter Try.func12, Try.ntmps12
                  go_wp2_with fail
                  go_ret
                  exact ⟨rfl, by rw [HW.out]; exact HT.out⟩
                case pos =>
                  subst h7
                  cases r1 with
                  | false =>
                    rw [show (decide (an.toList = bn.toList) && (decide (ak.toList = bk.toList) && (true && (decide (at1 = at1) && (decide (at2 = at2) && (decide (at3 = at3) && (decide (aq1 = aq1) && (decide (aq2 = aq2) && (false && (r2 && r3)))))))))) = false by simp]
                    go_enter Try.func12, Try.ntmps12
                    go_wp2_with fail
                    rw [HW.out]
                    refine (H1C.out _ HT.out).mono ?_
                    rintro e w1 ⟨rfl, hT1⟩
                    have HU1 := hide (show Turn [] W w1 from hT1)
                    have HT1 := hide (HT.out.trans hT1)
                    have ga18_1 := HA.out 18 _ rfl w1 HU1.out
                    have gb18_1 := HB.out 18 _ rfl w1 HU1.out
                    have ga19_1 := HA.out 19 _ rfl w1 HU1.out
                    have gb19_1 := HB.out 19 _ rfl w1 HU1.out
                    clear hT1
                    go_wp2_with fail
                    go_ret
                    exact ⟨rfl, HT1.out⟩
                  | true =>
                    cases r2 with
                    | false =>
                      rw [show (decide (an.toList = bn.toList) && (decide (ak.toList = bk.toList) && (true && (decide (at1 = at1) && (decide (at2 = at2) && (decide (at3 = at3) && (decide (aq1 = aq1) && (decide (aq2 = aq2) && (true && (false && r3)))))))))) = false by simp]
                      go_enter Try.func12, Try.ntmps12
                      go_wp2_with fail
                      rw [HW.out]
                      refine (H1C.out _ HT.out).mono ?_
                      rintro e w1 ⟨rfl, hT1⟩
                      have HU1 := hide (show Turn [] W w1 from hT1)
                      have HT1 := hide (HT.out.trans hT1)
                      have ga18_1 := HA.out 18 _ rfl w1 HU1.out
                      have gb18_1 := HB.out 18 _ rfl w1 HU1.out
                      have ga19_1 := HA.out 19 _ rfl w1 HU1.out
                      have gb19_1 := HB.out 19 _ rfl w1 HU1.out
                      clear hT1
                      go_wp2_with fail
                      refine (H2C.out _ HT1.out).mono ?_
                      rintro e w2 ⟨rfl, hT2⟩
                      have HU2 := hide (show Turn [] W w2 from HU1.out.trans hT2)
                      have HT2 := hide (HT1.out.trans hT2)
                      have ga19_2 := HA.out 19 _ rfl w2 HU2.out
                      have gb19_2 := HB.out 19 _ rfl w2 HU2.out
                      clear hT2
                      go_wp2_with fail
                      go_ret
                      exact ⟨rfl, HT2.out⟩
                    | true =>
                      cases r3 with
                      | false =>
                        rw [show (decide (an.toList = bn.toList) && (decide (ak.toList = bk.toList) && (true && (decide (at1 = at1) && (decide (at2 = at2) && (decide (at3 = at3) && (decide (aq1 = aq1) && (decide (aq2 = aq2) && (true && (true && false)))))))))) = false by simp]
                        go_enter Try.func12, Try.ntmps12
                        go_wp2_with fail
                        rw [HW.out]
                        refine (H1C.out _ HT.out).mono ?_
                        rintro e w1 ⟨rfl, hT1⟩
                        have HU1 := hide (show Turn [] W w1 from hT1)
                        have HT1 := hide (HT.out.trans hT1)
                        have ga18_1 := HA.out 18 _ rfl w1 HU1.out
                        have gb18_1 := HB.out 18 _ rfl w1 HU1.out
                        have ga19_1 := HA.out 19 _ rfl w1 HU1.out
                        have gb19_1 := HB.out 19 _ rfl w1 HU1.out
                        clear hT1
                        go_wp2_with fail
                        refine (H2C.out _ HT1.out).mono ?_
                        rintro e w2 ⟨rfl, hT2⟩
                        have HU2 := hide (show Turn [] W w2 from HU1.out.trans hT2)
                        have HT2 := hide (HT1.out.trans hT2)
                        have ga19_2 := HA.out 19 _ rfl w2 HU2.out
                        have gb19_2 := HB.out 19 _ rfl w2 HU2.out
                        clear hT2
                        go_wp2_with fail
                        refine (H3C.out _ HT2.out).mono ?_
                        rintro e w3 ⟨rfl, hT3⟩
                        have HU3 := hide (show Turn [] W w3 from HU2.out.trans hT3)
                        have HT3 := hide (HT2.out.trans hT3)
                        clear hT3
                        go_wp2_with fail
                        go_ret
                        exact ⟨rfl, HT3.out⟩
                      | true =>
                        rw [show (decide (an.toList = bn.toList) && (decide (ak.toList = bk.toList) && (true && (decide (at1 = at1) && (decide (at2 = at2) && (decide (at3 = at3) && (decide (aq1 = aq1) && (decide (aq2 = aq2) && (true && (true && true)))))))))) = true by simp [h0, h1]]
                        go_enter Try.func12, Try.ntmps12
                        go_wp2_with fail
                        rw [HW.out]
                        refine (H1C.out _ HT.out).mono ?_
                        rintro e w1 ⟨rfl, hT1⟩
                        have HU1 := hide (show Turn [] W w1 from hT1)
                        have HT1 := hide (HT.out.trans hT1)
                        have ga18_1 := HA.out 18 _ rfl w1 HU1.out
                        have gb18_1 := HB.out 18 _ rfl w1 HU1.out
                        have ga19_1 := HA.out 19 _ rfl w1 HU1.out
                        have gb19_1 := HB.out 19 _ rfl w1 HU1.out
                        clear hT1
                        go_wp2_with fail
                        refine (H2C.out _ HT1.out).mono ?_
                        rintro e w2 ⟨rfl, hT2⟩
                        have HU2 := hide (show Turn [] W w2 from HU1.out.trans hT2)
                        have HT2 := hide (HT1.out.trans hT2)
                        have ga19_2 := HA.out 19 _ rfl w2 HU2.out
                        have gb19_2 := HB.out 19 _ rfl w2 HU2.out
                        clear hT2
                        go_wp2_with fail
                        refine (H3C.out _ HT2.out).mono ?_
                        rintro e w3 ⟨rfl, hT3⟩
                        have HU3 := hide (show Turn [] W w3 from HU2.out.trans hT3)
                        have HT3 := hide (HT2.out.trans hT3)
                        clear hT3
                        go_wp2_with fail
                        go_ret
                        exact ⟨rfl, HT3.out⟩
end Go.Proofs.Ytghgkjollafeiaa
