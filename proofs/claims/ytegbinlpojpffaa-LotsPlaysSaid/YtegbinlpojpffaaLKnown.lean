/-
  The example, walked.
-/
import Derived.Test.YtegbinlpojpffaaLTake
import Derived.Test.YtegbinlpojpffaaLSame
import Derived.Test.YtegbinlpojpffaaLUniq
namespace Go.Proofs.Ytegbinlpojpffaa
open Go.RowKit Go.Maps Lo

set_option maxRecDepth 100000 in
set_option maxHeartbeats 4000000 in
theorem known_any (w : World) : Calls Try.prog 9 #[] w fun e w' => e = .returned (.bool true) ∧ Turn [] w w' := by
  have HT0 := hide ((Turn.refl [] w).alloc (.cells (flatL exL).toArray 29))
  have HL0 : Hid (LotsIn (w.alloc (.cells (flatL exL).toArray 29)) w.heap.size 0 exL) := lotsIn_src fun j u hj => by
    rw [Nat.zero_add, World.cell?_alloc_at _ _ _ _ rfl]
    simpa using hj
  have e1 := fun w => eq_part 2 2 2 2 w
  have e2 := fun w => eq_part 1 2 1 2 w
  simp only [and_self, decide_true] at e1 e2
  go_enter Try.func9, Try.ntmps9
  go_wp2_with fail
  simp only [flatL, exL, lotC, List.cons_append, List.nil_append] at HT0 HL0
  generalize w.alloc _ = w1 at *
  refine (take_any (some ⟨w.heap.size, 0, none⟩) 2 exL 4 1 w1 exL_rises (by decide) exL_bh HL0.out.at (fun h => by cases h) (by omega) (by omega)).mono ?_
  rintro e w2 ⟨is, g, L, P, N, pa, pc, hTd, htk, rfl, hLl, _, _, _, hP, _, _, hpc1, hpc2, _, hT2⟩
  rw [exL_tk hTd] at htk
  obtain ⟨rfl, rfl, rfl⟩ : L = _ ∧ P = [(2, 2), (1, 2)] ∧ N = 0 := by
    simp only [Prod.mk.injEq] at htk
    exact ⟨htk.1.symm, htk.2.1.symm, htk.2.2.symm⟩
  have HT2 := hide (HT0.out.trans hT2)
  obtain ⟨b, off, rfl, c0, c1⟩ := hP.at (i := 0) (by decide)
  obtain ⟨b', off', he, d0, d1⟩ := hP.at (i := 1) (by decide)
  obtain ⟨rfl, rfl⟩ : b' = b ∧ off' = off := by
    have := Option.some.inj he
    exact ⟨(congrArg Addr.block this).symm, (congrArg Addr.off this).symm⟩
  simp at c0 c1 d0 d1
  have hb := lt_of_cell c0
  clear hTd htk hT2 hP he hLl
  go_wp2_with fail
  go_ret
  exact ⟨rfl, HT2.out⟩

end Go.Proofs.Ytegbinlpojpffaa
