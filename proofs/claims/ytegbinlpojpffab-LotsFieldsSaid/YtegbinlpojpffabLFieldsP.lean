/-
  Lots of which one number is out of its bounds: by themselves.
-/
import Derived.Test.YtegbinlpojpffabLUniq
namespace Go.Proofs.Ytegbinlpojpffab
namespace Lo

theorem chkFrom_set {now : Int} (hn : now ≤ 200000) {e : Int} (he : e ≠ 0) {y : Lt} : ∀ {id : Int} {l : List Lt} {k : Nat}, 0 ≤ id → Ids id l → (∀ x ∈ l, Gd now x) → id + 3 * l.length ≤ 1000000 → k < l.length → (∀ p, 0 ≤ p → p < (l.getD k Lt.nil).id → (l.getD k Lt.nil).id ≤ 1000000 → one p y = e) → chkFrom id (l.set k y) = e
  | _, [], k, _, _, _, _, hk, _ => by simp at hk
  | id, x :: l, 0, h0, h, _, hl, _, hy => by
    have h1 := h.1
    simp only [List.length_cons] at hl
    have := hy id h0 (by simpa using h1.1) (by simp; omega)
    simp only [List.set_cons_zero, chkFrom]
    rw [if_neg (by rw [this]; exact he), this]
  | id, x :: l, k + 1, h0, h, hg, hl, hk, hy => by
    have h1 := h.1
    simp only [List.length_cons] at hl
    simp only [List.set_cons_succ, chkFrom]
    rw [if_pos (one_gd (hg x (List.mem_cons_self ..)) h1.1 (by omega) hn)]
    exact chkFrom_set hn he (by omega) h.2 (fun z hz => hg z (List.mem_cons_of_mem _ hz)) (by omega) (by simpa using hk) (fun p hp1 hp2 hp3 => hy p hp1 (by simpa using hp2) (by simpa using hp3))
theorem Good.chk_set {now : Int} {l : List Lt} (h : Good now l) (hn : now ≤ 200000) {k : Nat} (hk : k < l.length) {e : Int} (he : e ≠ 0) {y : Lt} (hy : ∀ p, 0 ≤ p → p < (l.getD k Lt.nil).id → (l.getD k Lt.nil).id ≤ 1000000 → one p y = e) : Lo.chk (l.set k y) = e := by
  have := h.len
  unfold Lo.chk
  rw [List.length_set, if_neg (by omega)]
  exact chkFrom_set hn he (Int.le_refl 0) h.ids h.all (by omega) hk hy

theorem not_adds {x : Lt} (m : Nat) (hm : m < 5) (h : five x m < 0 ∨ 1099511627776 < five x m) : adds x = false := by
  rw [Bool.eq_false_iff]
  intro e
  have := (fit_iff _).1 (((adds_five x).1 e).1 m hm)
  omega
theorem not_adds_rest {x : Lt} (h : rest x < 0) : adds x = false := by
  rw [Bool.eq_false_iff]
  intro e
  have := ((adds_five x).1 e).2
  omega
theorem bad0 {x : Lt} {b p : Int} (hb : 1 ≤ b) (hp : 0 ≤ p) : one p { x with id := -b } = 1 := by
  unfold one; rw [if_pos (by simp only; omega)]
theorem bad1 {x : Lt} {c p : Int} (hc : c < 0 ∨ 2 < c) (h1 : p < x.id) (h2 : x.id ≤ 1000000) : one p { x with kd := c } = 3 := by
  unfold one; rw [if_neg (by simp only; omega), if_pos (by simp only; omega)]
theorem bad2 {now : Int} {x : Lt} {b p : Int} (hg : Gd now x) (hb : 1 ≤ b) (h1 : p < x.id) (h2 : x.id ≤ 1000000) : one p { x with fr := -b } = 1 := by
  have := hg.kd
  unfold one; rw [if_neg (by simp only; omega), if_neg (by simp only; omega), if_pos (by simp only; omega)]
theorem bad3 {now : Int} {x : Lt} {p : Int} (hg : Gd now x) (h1 : p < x.id) (h2 : x.id ≤ 1000000) : one p { x with un := x.fr } = 1 := by
  have := hg.kd
  unfold one; rw [if_neg (by simp only; omega), if_neg (by simp only; omega), if_pos (by simp only; omega)]
theorem bad7 {now : Int} {x : Lt} {b p : Int} (hg : Gd now x) (hb : 1 ≤ b) (h1 : p < x.id) (h2 : x.id ≤ 1000000) : one p { x with un := 1099511627776 + b } = 1 := by
  have := hg.kd
  unfold one; rw [if_neg (by simp only; omega), if_neg (by simp only; omega), if_pos (by simp only; omega)]
theorem badA {now : Int} {x y : Lt} {p : Int} (hg : Gd now x) (hn : now ≤ 200000) (h1 : p < x.id) (h2 : x.id ≤ 1000000) (e1 : y.id = x.id) (e2 : y.kd = x.kd) (e3 : y.fr = x.fr) (e4 : y.un = x.un) (ha : adds y = false) : one p y = 11 := by
  have a := hg.kd
  have b := hg.fr
  have c := hg.un
  unfold one; rw [if_neg (by omega), if_neg (by omega), if_neg (by omega), if_neg (by rw [ha]; simp)]

end Lo
end Go.Proofs.Ytegbinlpojpffab
