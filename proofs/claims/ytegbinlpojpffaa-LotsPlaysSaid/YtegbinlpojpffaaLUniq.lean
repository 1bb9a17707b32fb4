/-
  There is one order in turn; what is taken, by itself.
-/
import Derived.Test.YtegbinlpojpffaaLGoodP
namespace Go.Proofs.Ytegbinlpojpffaa
namespace Lo

theorem lt2_asymm {x y : Lt} (h : lt2 x y) : ¬ lt2 y x := by unfold lt2 at *; omega
theorem lt2_irrefl (x : Lt) : ¬ lt2 x x := by unfold lt2; omega
theorem sorted_unique {r : Nat → Nat → Prop} (hi : ∀ x, ¬ r x x) (ha : ∀ x y, r x y → ¬ r y x) : ∀ {is js : List Nat}, is.Pairwise r → js.Pairwise r → (∀ i, i ∈ is ↔ i ∈ js) → is = js
  | [], [], _, _, _ => rfl
  | [], b :: js, _, _, h => absurd ((h b).2 (List.mem_cons_self ..)) (by simp)
  | a :: is, [], _, _, h => absurd ((h a).1 (List.mem_cons_self ..)) (by simp)
  | a :: is, b :: js, h1, h2, h => by
    rw [List.pairwise_cons] at h1 h2
    have hab : a = b := by
      rcases List.mem_cons.1 ((h a).1 (List.mem_cons_self ..)) with e | e
      · exact e
      · rcases List.mem_cons.1 ((h b).2 (List.mem_cons_self ..)) with e' | e'
        · exact e'.symm
        · exact absurd (h2.1 a e) (ha _ _ (h1.1 b e'))
    subst hab
    congr 1
    refine sorted_unique hi ha h1.2 h2.2 fun i => ⟨fun hm => ?_, fun hm => ?_⟩
    · rcases List.mem_cons.1 ((h i).1 (List.mem_cons_of_mem _ hm)) with e | e
      · subst e; exact absurd (h1.1 i hm) (hi i)
      · exact e
    · rcases List.mem_cons.1 ((h i).2 (List.mem_cons_of_mem _ hm)) with e | e
      · subst e; exact absurd (h2.1 i hm) (hi i)
      · exact e
theorem Turned.unique {l : List Lt} {now : Int} {is js : List Nat} (h1 : Turned l now is) (h2 : Turned l now js) : is = js :=
  sorted_unique (fun _ => lt2_irrefl _) (fun _ _ => lt2_asymm) h1.ord h2.ord (fun i => by rw [h1.mem, h2.mem])

/-- The lots of the example. -/
def exL : List Lt := [⟨1, 0, 0, 10, 3, 0, 0, 0, 0⟩, ⟨2, 0, 0, 5, 2, 0, 0, 0, 0⟩]
theorem exL_turned : Turned exL 1 [1, 0] := by
  refine ⟨?_, fun i => ?_⟩
  · simp [exL, lt2]
  · constructor
    · intro h
      simp at h
      rcases h with rfl | rfl <;> exact ⟨by decide, by decide⟩
    · rintro ⟨h, _⟩
      simp [exL] at h ⊢
      omega
theorem exL_tk {is : List Nat} (h : Turned exL 1 is) : tk exL is 4 [] = ([⟨1, 0, 0, 10, 3, 0, 2, 0, 0⟩, ⟨2, 0, 0, 5, 2, 0, 2, 0, 0⟩], [(2, 2), (1, 2)], 0) := by
  rw [h.unique exL_turned]
  rfl
theorem exL_rises : Rises exL := by
  intro i j hij hj
  simp [exL] at hj
  obtain ⟨rfl, rfl⟩ : i = 0 ∧ j = 1 := by omega
  decide
theorem exL_bh : Bhs exL := by
  intro x hx
  simp [exL] at hx
  rcases hx with rfl | rfl
  · exact ⟨by decide, by decide, by decide, by decide, by decide, by decide, by decide, by decide⟩
  · exact ⟨by decide, by decide, by decide, by decide, by decide, by decide, by decide, by decide⟩

end Lo
end Go.Proofs.Ytegbinlpojpffaa
