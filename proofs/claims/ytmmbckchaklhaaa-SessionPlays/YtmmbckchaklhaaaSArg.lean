/-
  Rows of requests and rows of bytes, as they come in as arguments; a request's frame by the reference.
-/
import Derived.Test.YtmmbckchaklhaaaSFrm
import Derived.Test.YtmmbckchaklhaaaFFrame
import Derived.Test.YtmmbckchaklhaaaFRow
import Derived.Deep.Matrix
import Derived.SizedLaws
import Derived.ProofKit
namespace Go.Proofs.Ytmmbckchaklhaaa.Se
open Go.ChangeShapes Go.WideShapes Go.ChangeAt Go.RowKit Go.Maps
open Go.Deep

theorem app_8 {a b : List Nat} (ha : ∀ x ∈ a, x < 256) (hb : ∀ x ∈ b, x < 256) : ∀ x ∈ a ++ b, x < 256 := fun x hx => (List.mem_append.1 hx).elim (ha x) (hb x)
theorem txB_8 {t : ByteArray} (h : t.size ≤ 255) : ∀ x ∈ txB t, x < 256 := fun x hx => by
  unfold txB at hx
  rcases List.mem_append.1 hx with k | k
  · rw [List.mem_singleton.1 k]
    omega
  · exact natBytes_lt t x k
theorem tiB_8 {t : ByteArray} (h : t.size ≤ 255) (xs : List Int) : ∀ x ∈ tiB t xs, x < 256 := fun x hx => by
  unfold tiB at hx
  rcases List.mem_append.1 hx with k | k
  · exact txB_8 h x k
  · obtain ⟨y, _, hy⟩ := List.mem_flatMap.1 k
    exact be8_lt y x hy
theorem reqB_8 (r : Rq) (hk : isK r.k) (hf : Fit (txts r)) : ∀ x ∈ reqB r, x < 256 := by
  obtain ⟨k, key, id, n, ttl, o, nm, sec, pn, p1, p2, p3, p4, p5, p6, p7, p8, p9⟩ := r
  unfold Fit txts at hf
  dsimp only at hk hf
  have hb := fun x => be8_lt x
  unfold reqB bodyB
  dsimp only
  refine app_8 (app_8 ?_ ?_) ?_
  · intro x hx
    rw [List.mem_singleton.1 hx]
    rcases hk with rfl | rfl | rfl | rfl | rfl | rfl | rfl | rfl | rfl | rfl <;> decide
  · refine txB_8 (hf _ ?_)
    rcases hk with rfl | rfl | rfl | rfl | rfl | rfl | rfl | rfl | rfl | rfl <;> simp
  · rcases hk with rfl | rfl | rfl | rfl | rfl | rfl | rfl | rfl | rfl | rfl <;> simp at hf <;> simp only [reduceIte, Int.reduceEq, or_false, or_true, or_self] <;> first
      | exact app_8 (app_8 (hb _) (hb _)) (hb _)
      | exact app_8 (hb _) (hb _)
      | exact hb _
      | (intro x hx; cases hx; done)
      | exact tiB_8 hf.2 _
      | exact app_8 (app_8 (app_8 (txB_8 hf.2.1) (txB_8 hf.2.2.1)) (txB_8 hf.2.2.2)) (hb _)
      | exact app_8 (app_8 (txB_8 hf.2.1) (txB_8 hf.2.2)) (hb _)
      | exact app_8 (txB_8 hf.2) (hb _)
theorem enc_8 (r : Rq) (h : (reqS wrC ⟨[], 0⟩ r).1.e = 0) : ∀ x ∈ (reqS wrC ⟨[], 0⟩ r).1.l, x < 256 := by
  by_cases hk : isK r.k
  · by_cases hf : Fit (txts r)
    · rw [enc_ok r hk hf]
      exact reqB_8 r hk hf
    · rw [enc_long r hk hf] at h
      cases h
  · rw [enc_no r hk] at h
    cases h

/-- Requests that a slice leads to. -/
def RqsAt (w : World) (a : Option Addr) (l : List Rq) : Prop := l = [] ∨ ∃ b off, a = some ⟨b, off, none⟩ ∧ ∀ i (hi : i < l.length), w.rangeAt b (off + i * 18) (rqC l[i])
theorem RqsAt.turn0 {w w' : World} {a : Option Addr} {l : List Rq} (h : RqsAt w a l) (hT : Turn [] w w') : RqsAt w' a l := by
  rcases h with rfl | ⟨b, off, rfl, h⟩
  · exact .inl rfl
  · refine .inr ⟨b, off, rfl, fun i hi => ?_⟩
    have hc : w.cell? ⟨b, off + i * 18 + 0, none⟩ = some (.int .i64 l[i].k) := h i hi 0 _ rfl
    exact rangeAt_keep (h i hi) (hT.block b (lt_of_cell hc) (by simp))
theorem RqsAt.at {w : World} {a : Option Addr} {l : List Rq} (h : RqsAt w a l) {i : Nat} (hi : i < l.length) : ∃ b off, a = some ⟨b, off, none⟩ ∧ w.rangeAt b (off + i * 18) (rqC l[i]) ∧ b < w.heap.size := by
  rcases h with rfl | ⟨b, off, rfl, h⟩
  · simp at hi
  · have hc : w.cell? ⟨b, off + i * 18 + 0, none⟩ = some (.int .i64 l[i].k) := h i hi 0 _ rfl
    exact ⟨b, off, rfl, h i hi, lt_of_cell hc⟩

theorem weights_all_mem {H : Type} {P : Program} {e : TypeId} : ∀ {ds : List (DataW H)} {d : DataW H}, d ∈ ds → ∀ n ∈ d.weights P e, n ∈ DataW.weightsAll P e ds
  | d0 :: ds, d, hd, n, hn => by
    simp only [DataW.weightsAll, List.mem_append]
    rcases List.mem_cons.1 hd with rfl | hd
    · exact .inl hn
    · exact .inr (weights_all_mem hd n hn)

/-- The requests that came in, out of how they are read. -/
theorem reqs_of {H : Type} {enc : TypeId × Value → H} {W : World} {fuel : Nat} {a : Option Addr} {n c : Nat} {y : DataW H × List MemPlace} (h : DataW.trod enc Try.prog W 0 (fun _ => true) true fuel 22 [.slice a n c] = some y) (hs : ∀ x ∈ y.1.weights Try.prog 22, x ≤ reachBytes) :
    ∃ l : List Rq, n = l.length ∧ RqsAt W a l ∧ (∀ r ∈ l, r.Fits) ∧ l.length ≤ 9223372036854775807 := by
  rcases open_slice Try.underlying22 h with ⟨hcs, _⟩ | ⟨x, len, cap, m, nf, D, Pl, hcs, _, hl, hm, hmm, rfl, hx⟩
  · have e := List.singleton_inj.1 hcs
    injection e with e1 e2 e3
    subst e1 e2 e3
    exact ⟨[], rfl, .inl rfl, fun r hr => (by cases hr), by simp⟩
  · have e := List.singleton_inj.1 hcs
    injection e with e1 e2 e3
    subst e1 e2 e3
    simp only [if_true] at hmm
    subst hmm
    have hmx : n ≤ 9223372036854775807 := by unfold maxLen at hm; omega
    by_cases hn : n = 0
    · subst hn
      exact ⟨[], rfl, .inl rfl, fun r hr => (by cases hr), by simp⟩
    have hone : ∀ k, k < n → ∃ q : Rq, (∀ j, j < 18 → W.cell? ((x.add (k * 18)).add j) = (rqC q)[j]?) ∧ q.Fits := fun k hk => by
      obtain ⟨cs', h1, h2⟩ := hx k (by omega)
      rw [cellsR] at h1
      obtain ⟨_, hlen, hcell⟩ := World.cells?_some h1
      have hin : ∀ z ∈ (D k).weights Try.prog 43, z ≤ reachBytes := fun z hz => hs z (by
        simp only [DataW.weights, Try.underlying22, List.mem_cons, List.mem_append]
        exact .inr (.inl (weights_all_mem (List.mem_map.2 ⟨k, List.mem_range.2 hk, rfl⟩) z hz)))
      obtain ⟨q, rfl, _, hq⟩ := open_req h2 hin
      exact ⟨q, fun j hj => hcell j hj, hq⟩
    obtain ⟨u0, e00, _⟩ := hone 0 (by omega)
    have e00' : W.cell? x = some (.int .i64 u0.k) := e00 0 (by omega)
    obtain ⟨_, _, _, _, hsp⟩ := World.shape?_of_cell? e00'
    obtain ⟨b, off, sp⟩ := x
    obtain rfl : sp = none := hsp
    have hall : ∀ k, ∃ q : Rq, k < n → W.rangeAt b (off + k * 18) (rqC q) ∧ q.Fits := fun k => by
      by_cases hk : k < n
      · obtain ⟨q, hu, hq⟩ := hone k hk
        simp only [Addr.add_mid] at hu
        refine ⟨q, fun _ => ⟨fun j v hj => ?_, hq⟩⟩
        have hj18 : j < 18 := (List.getElem?_eq_some_iff.1 hj).1
        rw [hu j hj18]
        exact hj
      · exact ⟨Rq.zero, fun h => absurd h hk⟩
    obtain ⟨f, hf⟩ := Classical.skolem.1 hall
    refine ⟨(List.range n).map f, by simp, .inr ⟨b, off, rfl, fun i hi => ?_⟩, fun r hr => ?_, by simp; exact hmx⟩
    · simp only [List.length_map, List.length_range] at hi
      rw [List.getElem_map, List.getElem_range]
      exact (hf i hi).1
    · obtain ⟨i, hi, rfl⟩ := List.mem_map.1 hr
      exact (hf i (List.mem_range.1 hi)).2

/-- Bytes that lie somewhere, as an append and Frame want them. -/
structure Bya (w : World) (a : Option Addr) (c : Nat) (l : List Nat) : Prop where
  bt : BytesAt w a l
  nil : a = none → c = 0
  by8 : ∀ x ∈ l, x < 256
  lc : l.length ≤ c
  cm : c ≤ maxLen
theorem Bya.turn {w w' : World} {a : Option Addr} {c : Nat} {l : List Nat} (h : Bya w a c l) (hT : Turn [] w w') : Bya w' a c l := ⟨h.bt.turn hT (by simp), h.nil, h.by8, h.lc, h.cm⟩
/-- Rows of bytes that a slice leads to. -/
def RowsAt (w : World) (a : Option Addr) (l : List (List Nat)) : Prop := l = [] ∨ ∃ b off, a = some ⟨b, off, none⟩ ∧ ∀ i (hi : i < l.length), ∃ A C, w.cell? ⟨b, off + i, none⟩ = some (.slice A l[i].length C) ∧ Bya w A C l[i]
theorem RowsAt.turn0 {w w' : World} {a : Option Addr} {l : List (List Nat)} (h : RowsAt w a l) (hT : Turn [] w w') : RowsAt w' a l := by
  rcases h with rfl | ⟨b, off, rfl, h⟩
  · exact .inl rfl
  · refine .inr ⟨b, off, rfl, fun i hi => ?_⟩
    obtain ⟨A, C, hc, hB⟩ := h i hi
    exact ⟨A, C, (hT.cell (p := ⟨b, off + i, none⟩) (lt_of_cell hc) (by simp)).trans hc, hB.turn hT⟩
theorem RowsAt.at {w : World} {a : Option Addr} {l : List (List Nat)} (h : RowsAt w a l) {i : Nat} (hi : i < l.length) : ∃ b off A C, a = some ⟨b, off, none⟩ ∧ w.cell? ⟨b, off + i, none⟩ = some (.slice A l[i].length C) ∧ Bya w A C l[i] ∧ b < w.heap.size := by
  rcases h with rfl | ⟨b, off, rfl, h⟩
  · simp at hi
  · obtain ⟨A, C, hc, hB⟩ := h i hi
    exact ⟨b, off, A, C, rfl, hc, hB, lt_of_cell hc⟩

/-- The rows of bytes that came in. -/
theorem brows_of {H : Type} {enc : TypeId × Value → H} {W : World} {fuel : Nat} {a : Option Addr} {n c : Nat} {y : DataW H × List MemPlace} (h : DataW.trod enc Try.prog W 0 (fun _ => true) true fuel 23 [.slice a n c] = some y) :
    ∃ l : List (List Nat), n = l.length ∧ RowsAt W a l ∧ l.length ≤ 9223372036854775807 := by
  rcases open_int_rows Try.underlying23 Try.underlying26 Try.underlying5 (by kernel_rfl) (by kernel_rfl) h with ⟨hcs, _⟩ | ⟨x, len, cap, A, L, C, Z, hcs, _, hl, hm, _, hcell⟩
  · have e := List.singleton_inj.1 hcs
    injection e with e1 e2 e3
    subst e1 e2 e3
    exact ⟨[], rfl, .inl rfl, by simp⟩
  · have e := List.singleton_inj.1 hcs
    injection e with e1 e2 e3
    subst e1 e2 e3
    have hmx : n ≤ 9223372036854775807 := by unfold maxLen at hm; omega
    by_cases hn : n = 0
    · subst hn
      exact ⟨[], rfl, .inl rfl, by simp⟩
    have hc0 := (hcell 0 (by omega)).1
    rw [show x.add 0 = x from rfl] at hc0
    obtain ⟨_, _, _, _, hsp⟩ := World.shape?_of_cell? hc0
    obtain ⟨b, off, sp⟩ := x
    obtain rfl : sp = none := hsp
    have hall : ∀ k, ∃ l : List Nat, k < n → W.cell? ⟨b, off + k, none⟩ = some (.slice (A k) l.length (C k)) ∧ Bya W (A k) (C k) l := fun k => by
      by_cases hk : k < n
      · obtain ⟨hc, h1, h2, h3, h4, h5, h6⟩ := hcell k (by omega)
        rw [Addr.add_mid] at hc
        have hrow : (A k = none ∧ L k = 0 ∧ C k = 0 ∧ Z k = []) ∨ ∃ x, A k = some x ∧ L k ≤ C k ∧ C k ≤ maxLen ∧ (Z k).length = C k ∧ (∀ i, i < (Z k).length → W.cell? (x.add i) = some (.int .u8 ((Z k).getD i 0))) ∧ ∀ n ∈ Z k, (Lit.int .u8 n).wf = true := by
          cases hA : A k with
          | none =>
            have hC := h5 hA
            exact .inl ⟨rfl, by omega, hC, List.eq_nil_of_length_eq_zero (by omega)⟩
          | some x => exact .inr ⟨x, rfl, h1, h2, h3, fun i hi => (h6 x hA).2 i (by omega), h4⟩
        obtain ⟨l, hl1, hl2, hl3, hl4, hl5⟩ := row_bytes hrow
        exact ⟨l, fun _ => ⟨by rw [hl1]; exact hc, hl5, h5, hl4, by rw [hl1]; exact h1, h2⟩⟩
      · exact ⟨[], fun h => absurd h hk⟩
    obtain ⟨f, hf⟩ := Classical.skolem.1 hall
    refine ⟨(List.range n).map f, by simp, .inr ⟨b, off, rfl, fun i hi => ?_⟩, by simp; exact hmx⟩
    simp only [List.length_map, List.length_range] at hi
    rw [List.getElem_map, List.getElem_range]
    exact ⟨A i, C i, hf i hi⟩

/-- EncodeRequest: the bytes, or none and an error. -/
theorem enc_row (w : World) (r : Rq) (hr : r.Fits) :
    Calls Try.prog 16 #[.agg (rqC r).toArray] w fun e w' => ∃ (a : Option Addr) (c : Nat) (L : List Nat) (k : Nat), e = .returned (.tuple #[.slice a L.length c, .int .i64 (k : Nat)]) ∧ Bya w' a c L ∧ (k ≠ 0 → L = []) ∧ Turn [] w w' := by
  refine (rencreq w r hr.ok).mono ?_
  rintro e w' ⟨v, rfl, hP⟩
  by_cases h0 : (reqS wrC ⟨[], 0⟩ r).1.e = 0
  · obtain ⟨a, c, rfl, hB⟩ := Byr.of (hP.own h0) (enc_8 r h0)
    refine ⟨a, c, _, 0, by rw [h0], ⟨hB.bt, fun e => ?_, hB.by8, hB.lc, hB.cm⟩, fun h => absurd rfl h, hP.old⟩
    rcases hB.ad with ⟨_, h⟩ | ⟨_, _, h⟩
    · exact h
    · rw [e] at h
      cases h
  · obtain rfl := hP.no h0
    exact ⟨none, 0, [], _, rfl, ⟨.inl rfl, fun _ => rfl, fun x hx => (by cases hx), Nat.le_refl _, by decide⟩, fun _ => rfl, hP.old⟩

/-- Bytes that a frame may have. -/
def Good (l : List Nat) : Prop := 0 < l.length ∧ l.length ≤ 512 ∧ ∀ x ∈ l, x < 256
/-- Frame: a row of the call's own, or none and an error. -/
theorem frm_row (w : World) (a : Option Addr) (c : Nat) (l : List Nat) (hB : Bya w a c l) :
    Calls Try.prog 17 #[.slice a l.length c] w fun e w' => ∃ (a' : Option Addr) (c' : Nat) (F : List Nat) (k : Int), e = .returned (.tuple #[.slice a' F.length c', .int .i64 k]) ∧ (Good l ∧ k = 0 ∧ F = frm l ∨ l.length = 0 ∧ k = 5 ∧ F = [] ∨ 512 < l.length ∧ k = 5 ∧ F = []) ∧ Bya w' a' c' F ∧ Turn [] w w' := by
  have hcm := hB.cm
  have hlc := hB.lc
  unfold maxLen at hcm
  refine (rframe_any w a c l (by omega) hB.bt hB.nil).mono ?_
  rintro e w' ⟨v, k, rfl, hP⟩
  by_cases h : l.length = 0 ∨ 512 < l.length
  · obtain ⟨rfl, rfl⟩ := hP.no h
    refine ⟨none, 0, [], 5, rfl, ?_, ⟨.inl rfl, fun _ => rfl, fun x hx => (by cases hx), Nat.le_refl _, by decide⟩, hP.old⟩
    rcases h with h | h
    · exact .inr (.inl ⟨h, rfl, rfl⟩)
    · exact .inr (.inr ⟨h, rfl, rfl⟩)
  · obtain ⟨hO, rfl⟩ := hP.yes h
    have hg : Good l := ⟨by omega, by omega, hB.by8⟩
    obtain ⟨a', c', rfl, hR⟩ := Byr.of (l := frm l) hO (frm_8 hB.by8 hg.2.1)
    refine ⟨a', c', frm l, 0, rfl, .inl ⟨hg, rfl, rfl⟩, ⟨hR.bt, fun e => ?_, hR.by8, hR.lc, hR.cm⟩, hP.old⟩
    rcases hR.ad with ⟨_, h⟩ | ⟨_, _, h⟩
    · exact h
    · rw [e] at h
      cases h

end Go.Proofs.Ytmmbckchaklhaaa.Se
