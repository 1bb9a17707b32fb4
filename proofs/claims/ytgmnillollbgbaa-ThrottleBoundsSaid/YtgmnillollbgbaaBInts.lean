/-
  Rows of ints of the call's own; what passed, by itself.
-/
import Derived.Test.YtgmnillollbgbaaBwStill
import Derived.Laws.AppendOwnNone
import Derived.Maps.AppendAt
namespace Go.Proofs.Ytgmnillollbgbaa.Th
open Go.RowKit Go.Maps

def ic (x : Int) : Value := .int .i64 x
/-- A row of ints of the call's own. -/
def OwnI (w : World) (base : Nat) (v : Value) (xs : List Int) : Prop := w.ownsRow base 3 1 v xs.length (xs.map ic)
/-- The block of a row of the call's own. -/
def obs (v : Value) : List Nat := v.ownBlock.toList

theorem OwnI.nil (w : World) (base : Nat) : OwnI w base (.slice none 0 0) [] := World.ownsRow_nil _ _ _ _

theorem OwnI.ge {w : World} {base : Nat} {v : Value} {xs : List Int} (h : OwnI w base v xs) : ∀ q ∈ obs v, base ≤ q ∧ q < w.heap.size := by
  obtain ⟨hl, ⟨rfl, _⟩ | ⟨g', cap, cur, rfl, hb, hg', rest⟩⟩ := h
  · simp [obs, Value.ownBlock]
  · intro q hq
    have e : q = g' := by simpa [obs, Value.ownBlock] using hq
    subst e
    refine ⟨hb, ?_⟩
    rcases Nat.lt_or_ge q w.heap.size with h | h
    · exact h
    · rw [Array.getElem?_eq_none h] at hg'; cases hg'

theorem OwnI.turn {S : List Nat} {w w' : World} {base : Nat} {v : Value} {xs : List Int} (h : OwnI w base v xs) (hT : Turn S w w') (hn : ∀ q ∈ obs v, q ∉ S) : OwnI w' base v xs := by
  have hge := h.ge
  obtain ⟨hl, h | ⟨g, cap, cur, rfl, hb, hg, rest⟩⟩ := h
  · exact ⟨hl, .inl h⟩
  · have hm : g ∈ obs (.slice (some ⟨g, 0, none⟩) xs.length cap) := by simp [obs, Value.ownBlock]
    exact ⟨hl, .inr ⟨g, cap, cur, rfl, hb, (hT.block g (hge g hm).2 (hn g hm)).trans hg, rest⟩⟩

theorem OwnI.get {w : World} {base : Nat} {v : Value} {xs : List Int} (h : OwnI w base v xs) {i : Nat} (hi : i < xs.length) : ∃ g cap, v = .slice (some ⟨g, 0, none⟩) xs.length cap ∧ w.cell? ⟨g, i, none⟩ = some (.int .i64 (xs.getD i 0)) := by
  obtain ⟨hl, ⟨_, h0⟩ | ⟨g, cap, cur, rfl, hb, hg, hnc, hm, hsz, hcur⟩⟩ := h
  · omega
  · refine ⟨g, cap, rfl, ?_⟩
    unfold World.cell?
    rw [hg]
    show cur[i]? = _
    have h1 : (cur.toList.take (xs.length * 1))[i]? = (xs.map ic)[i]? := by rw [hcur]
    rw [List.getElem?_take, if_pos (by omega), List.getElem?_map, List.getElem?_eq_getElem hi] at h1
    rw [← Array.getElem?_toList, h1, List.getD_eq_getElem?_getD, List.getElem?_eq_getElem hi]
    rfl

theorem OwnI.slice {w : World} {base : Nat} {v : Value} {xs : List Int} (h : OwnI w base v xs) : ∃ a cap, v = .slice a xs.length cap := by
  obtain ⟨hl, ⟨rfl, h0⟩ | ⟨g, cap, cur, rfl, hb, hg, rest⟩⟩ := h
  · exact ⟨none, 0, by rw [h0]⟩
  · exact ⟨_, cap, rfl⟩

theorem info_int : (Try.prog.info? 3).map (fun i => (i.zero, i.size, i.bytes)) = some (some (.int .i64 0), 1, 8) := by kernel_rfl

theorem info_parts {P : Program} {t : Nat} {z : Value} {n b : Nat} (h : (P.info? t).map (fun i => (i.zero, i.size, i.bytes)) = some (some z, n, b)) : ∃ i, P.info? t = some i ∧ i.zero = some z ∧ i.size = n ∧ i.bytes = b := by
  cases hi : P.info? t with
  | none => rw [hi] at h; simp at h
  | some i => rw [hi] at h; simp at h; exact ⟨i, rfl, h.1, h.2.1, h.2.2⟩

theorem append_int {ops : Array Oper} {rest : List Oper} {o : Oper} {a : Act} {Q : Exit → Act → World → Prop} {w : World} (hgd : o.guard = none) (s x : Operand)
    (ho : o.op = .call { callee := .builtin .append, args := #[s, x], argTypes := #[35, 35] }) (base : Nat) (v : Value) (xs : List Int) (k : Int) (hs : a.eval s = v) (hown : OwnI w base v xs) (b0 : Nat) (hb0 : b0 = w.heap.size) (hx : a.eval x = .slice (some ⟨b0, 0, none⟩) 1 1) (hb : xs.length < 1000000) (hbase : base ≤ w.heap.size)
    (h : ∀ v' w', OwnI w' base v' (xs ++ [k]) → Turn (obs v) w w' → (∀ q ∈ obs v', q ∈ obs v ∨ w.heap.size ≤ q) → wpList Try.prog ops Q rest (a.put o.dst v') w') :
    wpList Try.prog ops Q (o :: rest) a (w.alloc (.cells #[.int .i64 k] 3)) := by
  subst hb0
  obtain ⟨i0, hi, hz0, hz1, hz2⟩ := info_parts info_int
  have hown' : OwnI (w.alloc (.cells #[.int .i64 k] 3)) base v xs := hown.turn ((Turn.refl [] w).alloc _) (by simp)
  refine wpList_append_own_at (w.alloc (.cells #[.int .i64 k] 3)) hgd s x 35 ho base 3 i0 (.int .i64 0) 1 8 Try.underlying35 hi hz0 hz1 hz2 rfl (by decide) v xs.length (xs.map ic) hs hown' ⟨w.heap.size, 0, none⟩ 1 1 [.int .i64 k] hx rfl (fun j u hj => ?_) (by simp [Value.oneCell']) (by unfold maxLen; omega) (by omega) (by simp; omega) ?_
  · rw [Addr.add_mid, Nat.zero_add, World.cell?_alloc_at _ _ _ _ rfl]
    simpa using hj
  · intro v' w' h1 h2 _ h4
    refine h v' w' ?_ ?_ ?_
    · show w'.ownsRow base 3 1 v' (xs ++ [k]).length ((xs ++ [k]).map ic)
      rw [List.length_append, List.map_append]
      exact h1
    · exact ((Turn.refl (obs v) w).alloc _).grown h2 (fun q hq => .inl (by simp [obs, hq]))
    · intro q hq
      rcases h4 with h4 | h4
      · left; unfold obs at hq ⊢; rw [h4] at hq; exact hq
      · right
        unfold obs at hq
        rw [h4] at hq
        simp at hq
        omega

/-- Since when it is counted. -/
def since (l : List Int) (f : Nat) : Int := if f = 0 then 0 else l.getD (f - 1) 0

/-- A bucket that stands so at a tick. -/
structure Mid (b : Bk) (u r t h : Int) : Prop where
  ok : b.Ok
  burst : b.burst = u
  rate : b.rate = r
  now : b.now ≤ t
  has : b.has ≤ b.burst
  to : b.to t = ⟨u, r, t, h⟩

theorem Mid.le {b : Bk} {u r t h : Int} (m : Mid b u r t h) : h ≤ u := by
  have e := m.to
  rw [to_eq m.has m.now] at e
  injection e with e1 e2 e3 e4
  omega
theorem Mid.ge {b : Bk} {u r t h : Int} (m : Mid b u r t h) : 0 ≤ h := by
  have h0 := m.ok.h0
  have h1 := m.ok.b0
  have h2 := Int.mul_nonneg (a := t - b.now) (b := b.rate) (by have := m.now; omega) m.ok.r0
  have e := m.to
  rw [to_eq m.has m.now] at e
  injection e with e1 e2 e3 e4
  omega
theorem Mid.at {u r t h : Int} (hok : (⟨u, r, t, h⟩ : Bk).Ok) (hl : h ≤ u) : Mid ⟨u, r, t, h⟩ u r t h := ⟨hok, rfl, rfl, Int.le_refl _, hl, to_le (Int.le_refl _)⟩

/-- Some ticks later. -/
theorem Mid.later {b : Bk} {u r t h : Int} (m : Mid b u r t h) {d : Int} (hd : 0 ≤ d) : ∃ H, Mid b u r (t + d) H ∧ H ≤ h + r * d := by
  have h2 : (t + d - b.now) * b.rate = (t - b.now) * b.rate + d * b.rate := by rw [← Int.add_mul]; congr 1; omega
  have h3 := Int.mul_nonneg (a := d) (b := b.rate) hd m.ok.r0
  refine ⟨min (b.has + (t + d - b.now) * b.rate) b.burst, ⟨m.ok, m.burst, m.rate, by have := m.now; omega, m.has, ?_⟩, ?_⟩
  · rw [to_eq m.has (by have := m.now; omega), m.burst, m.rate]
  · have e := m.to
    rw [to_eq m.has m.now] at e
    injection e with e1 e2 e3 e4
    rw [h2, ← m.rate, Int.mul_comm b.rate d]
    omega

theorem Mid.pass {b : Bk} {u r t h : Int} (m : Mid b u r t h) (h0 : 0 ≤ t) (h1 : t ≤ 4000000000) : if 1 ≤ h then Mid (b.pass t) u r t (h - 1) else Mid (b.pass t) u r t h := by
  have hp := m.ok.pass h0 h1
  have hl := m.le
  unfold Bk.pass at hp ⊢
  rw [m.to] at hp ⊢
  simp only at hp ⊢
  by_cases hh : h < 1
  · rw [if_pos hh] at hp ⊢
    rw [if_neg (by omega)]
    exact Mid.at hp hl
  · rw [if_neg hh] at hp ⊢
    rw [if_pos (by omega)]
    exact Mid.at (u := u) (r := r) (t := t) (h := h - 1) hp (by omega)

/-- What passed so far, and what there is. -/
structure Inv (u r : Int) (ts ns : List Int) (t h : Int) : Prop where
  len : ts.length = ns.length
  low : ∀ i, i < ns.length → 0 ≤ ns.getD i 0 ∧ ns.getD i 0 ≤ 30
  tick : ∀ i, i < ts.length → 0 ≤ ts.getD i 0 ∧ ts.getD i 0 ≤ t
  all : ∀ f, f ≤ ns.length → (ns.drop f).sum + h ≤ u + r * (t - since ts f)

theorem Inv.nil {u r : Int} (hu : 0 ≤ u) : Inv u r [] [] 0 0 := by
  refine ⟨rfl, fun i hi => by simp at hi, fun i hi => by simp at hi, fun f hf => ?_⟩
  have : f = 0 := by simpa using hf
  subst this
  simp [since]
  omega

theorem getD_app_lt (l : List Int) (x : Int) {i : Nat} (h : i < l.length) : (l ++ [x]).getD i 0 = l.getD i 0 := by
  rw [List.getD_eq_getElem?_getD, List.getD_eq_getElem?_getD, List.getElem?_append_left h]
theorem getD_app_eq (l : List Int) (x : Int) {i : Nat} (h : i = l.length) : (l ++ [x]).getD i 0 = x := by
  subst h
  rw [List.getD_eq_getElem?_getD]
  simp

theorem Inv.step {u r : Int} {ts ns : List Int} {t h : Int} (v : Inv u r ts ns t h) {d p H : Int} (ht : 0 ≤ t) (hd : 0 ≤ d) (hp : 0 ≤ p) (hp1 : p ≤ 30) (hH : H ≤ h + r * d) (hHu : H ≤ u) : Inv u r (ts ++ [t + d]) (ns ++ [p]) (t + d) (H - p) := by
  refine ⟨by simp [v.len], fun i hi => ?_, fun i hi => ?_, fun f hf => ?_⟩
  · rw [List.length_append] at hi
    by_cases e : i < ns.length
    · rw [getD_app_lt _ _ e]; exact v.low i e
    · rw [getD_app_eq _ _ (by simp at hi; omega)]; exact ⟨hp, hp1⟩
  · rw [List.length_append] at hi
    by_cases e : i < ts.length
    · rw [getD_app_lt _ _ e]; have := v.tick i e; omega
    · rw [getD_app_eq _ _ (by simp at hi; omega)]; omega
  · rw [List.length_append] at hf
    by_cases e : f ≤ ns.length
    · have h1 := v.all f e
      have h2 : since (ts ++ [t + d]) f = since ts f := by
        unfold since
        by_cases e0 : f = 0
        · rw [if_pos e0, if_pos e0]
        · rw [if_neg e0, if_neg e0, getD_app_lt _ _ (by rw [v.len]; omega)]
      rw [h2, List.drop_append_of_le_length e, List.sum_append]
      have h3 : r * (t + d - since ts f) = r * (t - since ts f) + r * d := by rw [← Int.mul_add]; congr 1; omega
      simp only [List.sum_cons, List.sum_nil]
      rw [h3]
      omega
    · have e1 : f = ns.length + 1 := by simp at hf; omega
      subst e1
      have h2 : since (ts ++ [t + d]) (ns.length + 1) = t + d := by
        unfold since
        rw [if_neg (by omega), getD_app_eq _ _ (by rw [v.len]; omega)]
      rw [h2, List.drop_eq_nil_of_le (by simp), Int.sub_self, Int.mul_zero]
      simp only [List.sum_nil]
      omega

/-- The sum from f, so far as k. -/
def part (ns : List Int) (f k : Nat) : Int := ((ns.drop f).take (k - f)).sum
theorem part_start (ns : List Int) (f : Nat) : part ns f f = 0 := by unfold part; simp
theorem part_step {ns : List Int} {f k : Nat} (h : f ≤ k) (hk : k < ns.length) : part ns f (k + 1) = part ns f k + ns.getD k 0 := by
  unfold part
  rw [show k + 1 - f = (k - f) + 1 by omega, List.take_add_one, List.sum_append, List.getElem?_drop, show f + (k - f) = k by omega, List.getElem?_eq_getElem hk, List.getD_eq_getElem?_getD, List.getElem?_eq_getElem hk]
  simp
theorem part_end {ns : List Int} {f k : Nat} (hk : ns.length ≤ k) : part ns f k = (ns.drop f).sum := by
  unfold part
  rw [List.take_of_length_le (by simp; omega)]

end Go.Proofs.Ytgmnillollbgbaa.Th
