/-
  Lots such as may be, made of any: by themselves.
-/
import Derived.Test.YtegbinlpojpffaaLPure
namespace Go.Proofs.Ytegbinlpojpffaa
namespace Lo

/-- One of them behind one of an id. -/
def gd (now id : Int) (x : Lt) : Lt :=
  ⟨id + 1 + x.id % 3, x.kd % 3, max 0 (now - 5 + x.fr % 8), max 0 (now - 5 + x.fr % 8) + 1 + x.un % 9, x.co % 1000 + x.ex % 9 + x.ro % 9 + x.gr % 1000, x.co % 1000, 0, x.ex % 9, x.ro % 9⟩
def goodFrom (now : Int) : Int → List Lt → List Lt
  | _, [] => []
  | id, x :: l => gd now id x :: goodFrom now (gd now id x).id l
def good (now : Int) (l : List Lt) : List Lt := goodFrom now 0 (l.take 14)

theorem goodFrom_length (now : Int) : ∀ (id : Int) (l : List Lt), (goodFrom now id l).length = l.length
  | _, [] => rfl
  | id, x :: l => by rw [goodFrom, List.length_cons, goodFrom_length now _ l, List.length_cons]
theorem good_length (now : Int) (l : List Lt) : (good now l).length ≤ 14 := by
  unfold good
  rw [goodFrom_length, List.length_take]
  omega

/-- What is so of each of them. -/
structure Gd (now : Int) (x : Lt) : Prop where
  kd : 0 ≤ x.kd ∧ x.kd ≤ 2
  fr : 0 ≤ x.fr ∧ x.fr ≤ now + 3
  un : x.fr < x.un ∧ x.un ≤ x.fr + 9
  co : 0 ≤ x.co ∧ x.co < 1000
  he : x.he = 0
  ex : 0 ≤ x.ex ∧ x.ex < 9
  ro : 0 ≤ x.ro ∧ x.ro < 9
  gr : x.co + x.ex + x.ro ≤ x.gr ∧ x.gr < x.co + x.ex + x.ro + 1000
theorem gd_gd {now id : Int} (x : Lt) (hn : 0 ≤ now) : Gd now (gd now id x) := by
  refine ⟨?_, ?_, ?_, ?_, rfl, ?_, ?_, ?_⟩ <;> simp only [gd] <;> omega

/-- Ids rise from one on, by three at most. -/
def Ids : Int → List Lt → Prop
  | _, [] => True
  | id, x :: l => (id < x.id ∧ x.id ≤ id + 3) ∧ Ids x.id l
theorem goodFrom_ids (now : Int) : ∀ (id : Int) (l : List Lt), Ids id (goodFrom now id l)
  | _, [] => trivial
  | id, x :: l => ⟨by simp only [gd]; omega, goodFrom_ids now _ l⟩
theorem goodFrom_gd {now : Int} (hn : 0 ≤ now) : ∀ (id : Int) (l : List Lt), ∀ x ∈ goodFrom now id l, Gd now x
  | _, [] => by intro x hx; simp [goodFrom] at hx
  | id, y :: l => by
    intro x hx
    rw [goodFrom] at hx
    rcases List.mem_cons.1 hx with rfl | h
    · exact gd_gd y hn
    · exact goodFrom_gd hn _ l x h
theorem ids_get : ∀ {id : Int} {l : List Lt}, Ids id l → ∀ i, i < l.length → id < (l.getD i Lt.nil).id ∧ (l.getD i Lt.nil).id ≤ id + 3 * (i + 1)
  | _, [], _, i, hi => by simp at hi
  | id, x :: l, h, i, hi => by
    cases i with
    | zero => have := h.1; simp; omega
    | succ i =>
      have := ids_get h.2 i (by simpa using hi)
      have := h.1
      simp
      simp at *
      omega
theorem ids_rise : ∀ {id : Int} {l : List Lt}, Ids id l → Rises l
  | _, [], _ => fun i j _ hj => by simp at hj
  | id, x :: l, h => by
    intro i j hij hj
    cases j with
    | zero => omega
    | succ j =>
      have hj' : j < l.length := by simpa using hj
      cases i with
      | zero => simpa using (ids_get h.2 j hj').1
      | succ i => simpa using ids_rise h.2 i j (by omega) hj'

/-- All that is so of such lots. -/
structure Good (now : Int) (l : List Lt) : Prop where
  len : l.length ≤ 14
  ids : Ids 0 l
  all : ∀ x ∈ l, Gd now x
theorem good_good {now : Int} (hn : 0 ≤ now) (l : List Lt) : Good now (good now l) := ⟨good_length now l, goodFrom_ids now 0 _, goodFrom_gd hn 0 _⟩
theorem Good.at {now : Int} {l : List Lt} (h : Good now l) {i : Nat} (hi : i < l.length) : Gd now (l.getD i Lt.nil) := by
  rw [getD_get hi]
  exact h.all _ (List.getElem_mem hi)
theorem Good.rises {now : Int} {l : List Lt} (h : Good now l) : Rises l := ids_rise h.ids
theorem Good.bd {now : Int} {l : List Lt} (h : Good now l) (h0 : 0 ≤ now) (hn : now ≤ 200000) : Bds 1000000 l := by
  intro x hx
  obtain ⟨i, hi, rfl⟩ := List.getElem_of_mem hx
  have h1 := ids_get h.ids i hi
  have h2 := h.all _ hx
  rw [getD_get hi] at h1
  have hl := h.len
  obtain ⟨a1, a2, a3, a4, a5, a6, a7, a8⟩ := h2
  exact ⟨by omega, by omega, by omega, by omega, by omega, by omega, by omega, by omega⟩
theorem Good.bh {now : Int} {l : List Lt} (h : Good now l) (h0 : 0 ≤ now) (hn : now ≤ 200000) : Bhs l := (h.bd h0 hn).h (by omega)

theorem one_gd {now id : Int} {x : Lt} (h : Gd now x) (hid : id < x.id) (hid2 : x.id ≤ 1099511627776) (hn : now ≤ 200000) : one id x = 0 := by
  obtain ⟨a1, a2, a3, a4, a5, a6, a7, a8⟩ := h
  unfold one
  rw [if_neg (by omega), if_neg (by omega), if_neg (by omega), if_pos]
  rw [adds_five]
  refine ⟨fun m hm => ?_, by unfold rest; omega⟩
  rw [fit_iff]
  obtain rfl | rfl | rfl | rfl | rfl : m = 0 ∨ m = 1 ∨ m = 2 ∨ m = 3 ∨ m = 4 := by omega
  all_goals simp only [five]; omega
theorem chkFrom_good {now : Int} (hn : now ≤ 200000) : ∀ {id : Int} {l : List Lt}, Ids id l → (∀ x ∈ l, Gd now x) → id + 3 * l.length ≤ 1000000 → chkFrom id l = 0
  | _, [], _, _, _ => rfl
  | id, x :: l, h, hg, hl => by
    have h1 := h.1
    simp only [List.length_cons] at hl
    rw [chkFrom, if_pos (one_gd (hg x (List.mem_cons_self ..)) h1.1 (by omega) hn)]
    exact chkFrom_good hn h.2 (fun y hy => hg y (List.mem_cons_of_mem _ hy)) (by omega)
theorem Good.chk {now : Int} {l : List Lt} (h : Good now l) (hn : now ≤ 200000) : chk l = 0 := by
  have := h.len
  unfold Lo.chk
  rw [if_neg (by omega)]
  exact chkFrom_good hn h.ids h.all (by omega)

theorem goodFrom_append (now : Int) : ∀ (id : Int) (k : Nat) (l : List Lt), k < l.length → goodFrom now id (l.drop k) = gd now id (l.getD k Lt.nil) :: goodFrom now (gd now id (l.getD k Lt.nil)).id (l.drop (k + 1)) := by
  intro id k l hk
  rw [List.drop_eq_getElem_cons hk, getD_get hk]
  rfl

end Lo
end Go.Proofs.Ytegbinlpojpffaa
