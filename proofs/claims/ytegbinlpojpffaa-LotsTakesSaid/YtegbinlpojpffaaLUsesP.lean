/-
  What is used of what was taken: by itself.
-/
import Derived.Test.YtegbinlpojpffaaLTakeP
namespace Go.Proofs.Ytegbinlpojpffaa
namespace Lo

def coS : List Lt → Int
  | [] => 0
  | x :: l => x.co + coS l
def exS : List Lt → Int
  | [] => 0
  | x :: l => x.ex + exS l
theorem coS_set : ∀ {l : List Lt} {i : Nat} {y : Lt}, i < l.length → coS (l.set i y) = coS l - (l.getD i Lt.nil).co + y.co
  | [], i, _, h => by simp at h
  | x :: l, 0, y, _ => by simp [coS]; omega
  | x :: l, i + 1, y, h => by
    have := coS_set (l := l) (i := i) (y := y) (by simpa using h)
    simp only [List.set_cons_succ, coS, this]
    simp
    omega
theorem exS_set : ∀ {l : List Lt} {i : Nat} {y : Lt}, i < l.length → exS (l.set i y) = exS l - (l.getD i Lt.nil).ex + y.ex
  | [], i, _, h => by simp at h
  | x :: l, 0, y, _ => by simp [exS]; omega
  | x :: l, i + 1, y, h => by
    have := exS_set (l := l) (i := i) (y := y) (by simpa using h)
    simp only [List.set_cons_succ, exS, this]
    simp
    omega

/-- x is G, with these parts still held. -/
structure Pend (G x : List Lt) (p : List (Int × Int)) : Prop where
  len : x.length = G.length
  same : ∀ i, i < G.length → (x.getD i Lt.nil).id = (G.getD i Lt.nil).id ∧ (x.getD i Lt.nil).kd = (G.getD i Lt.nil).kd ∧ (x.getD i Lt.nil).fr = (G.getD i Lt.nil).fr ∧ (x.getD i Lt.nil).un = (G.getD i Lt.nil).un ∧ (x.getD i Lt.nil).gr = (G.getD i Lt.nil).gr ∧ (x.getD i Lt.nil).ro = (G.getD i Lt.nil).ro
  held : ∀ i, i < G.length → (∃ q ∈ p, q.1 = (G.getD i Lt.nil).id ∧ (x.getD i Lt.nil).he = q.2) ∨ ((x.getD i Lt.nil).he = 0 ∧ ∀ q ∈ p, q.1 ≠ (G.getD i Lt.nil).id)
  there : ∀ q ∈ p, 1 ≤ q.2 ∧ ∃ i, i < G.length ∧ (G.getD i Lt.nil).id = q.1
  ids : (p.map Prod.fst).Nodup

theorem ix_same {G x : List Lt} (hl : x.length = G.length) (hs : ∀ i, i < G.length → (x.getD i Lt.nil).id = (G.getD i Lt.nil).id) (hR : Rises G) {i : Nat} (hi : i < G.length) : ix (G.getD i Lt.nil).id x = i := by
  refine ix_eq (by omega) (fun j hj => ?_) (fun _ => hs i hi)
  rw [hs j (by omega)]
  have := hR j i hj hi
  omega

/-- What is so behind a use. -/
structure Useds (now : Int) (G x : List Lt) (p : List (Int × Int)) (m : Int) (b : List Lt) (N : Int) : Prop where
  pend : Pend G b []
  co : coS b = coS x + min (sumP p) m
  ex : exS x ≤ exS b ∧ exS b - exS x ≤ sumP p - min (sumP p) m
  over : N = m - min (sumP p) m
  each : ∀ i, i < G.length → (x.getD i Lt.nil).co ≤ (b.getD i Lt.nil).co ∧ (x.getD i Lt.nil).ex ≤ (b.getD i Lt.nil).ex ∧ (b.getD i Lt.nil).co + (b.getD i Lt.nil).ex ≤ (x.getD i Lt.nil).co + (x.getD i Lt.nil).ex + (x.getD i Lt.nil).he ∧ ((b.getD i Lt.nil).ex ≠ (x.getD i Lt.nil).ex → (G.getD i Lt.nil).un ≤ now ∧ 0 < (x.getD i Lt.nil).he)
  none : m = 0 → ∀ i, i < G.length → (b.getD i Lt.nil).co = (x.getD i Lt.nil).co

theorem sumP_nonneg : ∀ {p : List (Int × Int)}, (∀ q ∈ p, 1 ≤ q.2) → 0 ≤ sumP p
  | [], _ => Int.le_refl 0
  | q :: p, h => by
    have a := h q (List.mem_cons_self ..)
    have b := sumP_nonneg (p := p) (fun z hz => h z (List.mem_cons_of_mem _ hz))
    simp only [sumP]
    omega

theorem useds {now : Int} {G : List Lt} (hR : Rises G) : ∀ (p : List (Int × Int)) (x : List Lt) (m : Int), 0 ≤ m → Pend G x p → Useds now G x p m (us now x p m).1 (us now x p m).2
  | [], x, m, hm, h => ⟨h, by simp [us, sumP]; omega, by simp [us, sumP]; omega, by simp [us, sumP]; omega, fun i hi => by
      have := h.held i hi
      simp only [us]
      rcases this with ⟨q, hq, _⟩ | ⟨h0, _⟩
      · simp at hq
      · refine ⟨Int.le_refl _, Int.le_refl _, by omega, fun e => absurd rfl e⟩, fun _ _ _ => rfl⟩
  | (id, k) :: p, x, m, hm, h => by
    obtain ⟨hk, i, hi, hid⟩ := h.there (id, k) (List.mem_cons_self ..)
    simp only at hk hid
    have hix : ix id x = i := by rw [← hid]; exact ix_same h.len (fun j hj => (h.same j hj).1) hR hi
    have hxl : i < x.length := by rw [h.len]; exact hi
    have hnd := h.ids
    simp only [List.map_cons, List.nodup_cons, List.mem_map, not_exists, not_and] at hnd
    have hoff : ∀ q ∈ p, q.1 ≠ id := fun q hq e => hnd.1 q hq e
    have hhe : (x.getD i Lt.nil).he = k := by
      rcases h.held i hi with ⟨q, hq, h1, h2⟩ | ⟨_, h2⟩
      · rcases List.mem_cons.1 hq with rfl | hq
        · exact h2
        · exact absurd (h1.trans hid) (hoff q hq)
      · exact absurd hid.symm (h2 (id, k) (List.mem_cons_self ..))
    have hge := sumP_nonneg (p := p) (fun q hq => (h.there q (List.mem_cons_of_mem _ hq)).1)
    have e : us now x ((id, k) :: p) m = us now (x.set i (endp (x.getD i Lt.nil) k (min k m) now)) p (m - min k m) := by
      rw [us, hix, if_pos hxl]
    rw [e]
    obtain ⟨y, hy⟩ : ∃ y, y = endp (x.getD i Lt.nil) k (min k m) now := ⟨_, rfl⟩
    rw [← hy]
    have y1 : y.he = 0 := by rw [hy]; simp only [endp]; omega
    have y2 : y.co = (x.getD i Lt.nil).co + min k m := by rw [hy]; rfl
    have y3 : y.ex = if (x.getD i Lt.nil).un ≤ now then (x.getD i Lt.nil).ex + (k - min k m) else (x.getD i Lt.nil).ex := by rw [hy]; rfl
    have y4 : y.id = (x.getD i Lt.nil).id ∧ y.kd = (x.getD i Lt.nil).kd ∧ y.fr = (x.getD i Lt.nil).fr ∧ y.un = (x.getD i Lt.nil).un ∧ y.gr = (x.getD i Lt.nil).gr ∧ y.ro = (x.getD i Lt.nil).ro := by rw [hy]; exact ⟨rfl, rfl, rfl, rfl, rfl, rfl⟩
    clear hy e
    have hP : Pend G (x.set i y) p := by
      refine ⟨by rw [List.length_set]; exact h.len, fun j hj => ?_, fun j hj => ?_, fun q hq => h.there q (List.mem_cons_of_mem _ hq), hnd.2⟩
      · rw [getD_set hxl]
        split
        · rename_i e; subst e
          have := h.same j hj
          exact ⟨y4.1.trans this.1, y4.2.1.trans this.2.1, y4.2.2.1.trans this.2.2.1, y4.2.2.2.1.trans this.2.2.2.1, y4.2.2.2.2.1.trans this.2.2.2.2.1, y4.2.2.2.2.2.trans this.2.2.2.2.2⟩
        · exact h.same j hj
      · rw [getD_set hxl]
        split
        · rename_i e; subst e
          exact .inr ⟨y1, fun q hq e => hoff q hq (e.trans hid)⟩
        · rcases h.held j hj with ⟨q, hq, h1, h2⟩ | ⟨h1, h2⟩
          · rcases List.mem_cons.1 hq with rfl | hq
            · rename_i e
              exfalso
              simp only at h1
              rcases Nat.lt_trichotomy i j with h3 | h3 | h3
              · have := hR i j h3 hj; omega
              · exact e h3.symm
              · have := hR j i h3 hi; omega
            · exact .inl ⟨q, hq, h1, h2⟩
          · exact .inr ⟨h1, fun q hq => h2 q (List.mem_cons_of_mem _ hq)⟩
    obtain ⟨u1, u2, u3, u4, u5, u6⟩ := useds hR p (x.set i y) (m - min k m) (by omega) hP
    generalize (us now (x.set i y) p (m - min k m)).1 = b at *
    generalize (us now (x.set i y) p (m - min k m)).2 = N at *
    have hun : (x.getD i Lt.nil).un = (G.getD i Lt.nil).un := (h.same i hi).2.2.2.1
    rw [coS_set hxl] at u2
    rw [exS_set hxl] at u3
    refine ⟨u1, ?_, ?_, ?_, fun j hj => ?_, fun hm0 j hj => ?_⟩
    · simp only [sumP]; omega
    · simp only [sumP]; split at y3 <;> omega
    · simp only [sumP]; omega
    · have := u5 j hj
      rw [getD_set hxl] at this
      split at this
      · rename_i ej; subst ej
        obtain ⟨a1, a2, a3, a4⟩ := this
        refine ⟨by omega, by split at y3 <;> omega, by split at y3 <;> omega, fun hne => ?_⟩
        by_cases hb : (b.getD j Lt.nil).ex = y.ex
        · split at y3
          · exact ⟨by omega, by omega⟩
          · exact absurd (hb.trans y3) hne
        · have := a4 hb; omega
      · exact this
    · have := u6 (by omega) j hj
      rw [getD_set hxl] at this
      split at this
      · rename_i ej; subst ej; omega
      · exact this

end Lo
end Go.Proofs.Ytegbinlpojpffaa
