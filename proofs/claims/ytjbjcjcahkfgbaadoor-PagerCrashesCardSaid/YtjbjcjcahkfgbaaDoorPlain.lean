/-
  The law's two rows of pages beside a pager's state: what each operation makes of them.
-/
import Derived.Test.YtjbjcjcahkfgbaaDoorPages2
namespace Go.Proofs.YtjbjcjcahkfgbaaDoor

/-- 'all': the pages that there are now; 'done': those that are committed. -/
structure Plain (s : St) (q : Pg) (all done : List (Nat × List Nat)) : Prop where
  nd : (all.map Prod.fst).Nodup
  a : ∀ n, q.there n = true ↔ n ∈ all.map Prod.fst
  af : ∀ x ∈ all, x.2.length ≤ 496 ∧ s.f x.1 = bytesOf 512 (pageB x.2)
  dd : (done.map Prod.fst).Nodup
  d : ∀ n, q.K n = true ↔ n ∈ done.map Prod.fst
  df : ∀ x ∈ done, x.2.length ≤ 496 ∧ s.f x.1 = bytesOf 512 (pageB x.2)

theorem Plain.rd {s : St} {q : Pg} {all done : List (Nat × List Nat)} (h : Plain s q all done) (r : Bool) : Plain s { q with rd := r } all done := ⟨h.nd, h.a, h.af, h.dd, h.d, h.df⟩

theorem Plain.alloced {s s' : St} {q : Pg} {all done : List (Nat × List Nat)} (h : Plain s q all done) {k : Nat} (hk : q.Next s.n k) (l : List Nat) (hl : l.length ≤ 496) (hs : ∀ n, n ≠ k → s'.f n = s.f n) (hsk : s'.f k = bytesOf 512 (pageB l)) :
    Plain s' (q.alloced k) (all ++ [(k, l)]) done := by
  obtain ⟨_, _, hK, hsi⟩ := hk.range
  have hka : k ∉ all.map Prod.fst := fun hm => by
    have := (h.a k).2 hm
    unfold Pg.there at this
    simp [hK, hsi] at this
  have hkd : k ∉ done.map Prod.fst := fun hm => by
    rw [(h.d k).2 hm] at hK
    cases hK
  refine ⟨?_, fun n => ?_, fun x hx => ?_, h.dd, h.d, fun x hx => ?_⟩
  · rw [List.map_append, List.nodup_append]
    refine ⟨h.nd, by simp, ?_⟩
    intro x hx y hy
    simp at hy
    subst hy
    exact fun e => hka (e ▸ hx)
  · by_cases e : n = k
    · subst e
      rw [Pg.alloced_there]
      simp
    · have : (q.alloced k).there n = q.there n := by
        unfold Pg.there Pg.alloced setB
        simp [e]
      rw [this, h.a n, List.map_append, List.mem_append]
      simp [e]
  · rcases List.mem_append.1 hx with hx | hx
    · have hne : x.1 ≠ k := fun e => hka (e ▸ List.mem_map_of_mem hx)
      rw [hs _ hne]
      exact h.af x hx
    · simp at hx
      subst hx
      exact ⟨hl, hsk⟩
  · have hne : x.1 ≠ k := fun e => hkd (e ▸ List.mem_map_of_mem hx)
    rw [hs _ hne]
    exact h.df x hx

theorem mem_sans {l : List (Nat × List Nat)} {n : Int} {x : Nat} : x ∈ (sans l n).map Prod.fst ↔ x ∈ l.map Prod.fst ∧ (x : Int) ≠ n := by
  unfold sans
  simp only [List.mem_map, List.mem_filter, decide_eq_true_eq]
  constructor
  · rintro ⟨y, ⟨h1, h2⟩, rfl⟩
    exact ⟨⟨y, h1, rfl⟩, h2⟩
  · rintro ⟨⟨y, h1, rfl⟩, h2⟩
    exact ⟨y, ⟨h1, h2⟩, rfl⟩

theorem Plain.freed {s : St} {q : Pg} {all done : List (Nat × List Nat)} (h : Plain s q all done) (hs1 : ∀ n, q.si n = 1 → q.K n = false) (k : Nat) : Plain s (q.freed k) (sans all k) done := by
  refine ⟨(h.nd.sublist (List.Sublist.map _ List.filter_sublist)), fun n => ?_, fun x hx => h.af x (List.mem_filter.1 hx).1, h.dd, fun n => ?_, h.df⟩
  · rw [mem_sans, ← h.a n]
    unfold Pg.freed Pg.there
    by_cases e : n = k
    · subst e
      by_cases h1 : q.si n = 1
      · simp [h1, setB, hs1 n h1]
      · simp [h1, setB]
    · have e' : ¬ ((n : Int) = (k : Int)) := by omega
      by_cases h1 : q.si k = 1
      · simp [h1, setB, e, e']
      · simp [h1, setB, e, e']
  · rw [← h.d n]
    unfold Pg.freed
    by_cases h1 : q.si k = 1 <;> simp [h1]

theorem Plain.committed {s s' : St} {q : Pg} {all done : List (Nat × List Nat)} (h : Plain s q all done) (root : List Nat) (hs : ∀ x ∈ all, s'.f x.1 = s.f x.1) : Plain s' (q.committed root) all all := by
  have hf : ∀ x ∈ all, x.2.length ≤ 496 ∧ s'.f x.1 = bytesOf 512 (pageB x.2) := fun x hx => by rw [hs x hx]; exact h.af x hx
  refine ⟨h.nd, fun n => ?_, hf, h.nd, fun n => h.a n, hf⟩
  rw [← h.a n]
  unfold Pg.committed
  show ((q.there n || _) && _) = true ↔ _
  simp

/-- Forgotten, or opened anew: what is committed is what there is. -/
theorem Plain.back {s : St} {q : Pg} {all done : List (Nat × List Nat)} (h : Plain s q all done) (q' : Pg) (hK : q'.K = q.K) (hsi : ∀ n, q'.si n = 0) : Plain s q' done done := by
  refine ⟨h.dd, fun n => ?_, h.df, h.dd, fun n => by rw [hK]; exact h.d n, h.df⟩
  rw [← h.d n]
  unfold Pg.there
  simp [hK, hsi n]

/-- Those of 'all' that are not in 'done'. -/
def newOnes (all done : List (Nat × List Nat)) : List (Nat × List Nat) := all.filter fun x => decide (x.1 ∉ done.map Prod.fst)

/-- There is room for all but these. -/
theorem Plain.left {s : St} {q : Pg} {all done : List (Nat × List Nat)} (h : Plain s q all done) (N : Nat) (hN : N ≤ 16384) : N - 4 ≤ q.left N + (done.length + (newOnes all done).length) := by
  have := left_ge q N hN (done.map Prod.fst ++ (newOnes all done).map Prod.fst) fun k _ _ hk => by
    by_cases hd : k ∈ done.map Prod.fst
    · exact List.mem_append_left _ hd
    · have hK : q.K k = false := by
        cases e : q.K k with
        | false => rfl
        | true => exact absurd ((h.d k).1 e) hd
      have hsi : q.si k = 1 := by simpa [hK] using hk
      have ht : q.there k = true := by
        unfold Pg.there
        simp [hsi]
      obtain ⟨x, hx, rfl⟩ := List.mem_map.1 ((h.a k).1 ht)
      exact List.mem_append_right _ (List.mem_map_of_mem (List.mem_filter.2 ⟨hx, decide_eq_true hd⟩))
  rw [List.length_append, List.length_map, List.length_map] at this
  exact this
end Go.Proofs.YtjbjcjcahkfgbaaDoor
