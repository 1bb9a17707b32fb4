/-
  The law PagerCrashes' code, cut into parts; its frame by slots; what holds while the power is there, and when it went.
-/
import Derived.Test.YtjbjcjcahkfgbaaDoorPlFree
namespace Go.Proofs.YtjbjcjcahkfgbaaDoor
open Go.RowKit Go.Maps

namespace Cr
noncomputable def body : Code := (Tryd.f4.body.bind Cut.firstLoop).getD .skip
noncomputable def head : Code := Cut.l body
noncomputable def b1 : Code := Cut.i (Cut.l (Cut.r body))
noncomputable def r13 : Code := Cut.r (Cut.r body)
noncomputable def r14 : Code := Cut.l b1
noncomputable def r15 : Code := Cut.l (Cut.r b1)
noncomputable def sw : Code := Cut.i (Cut.r (Cut.r b1))
noncomputable def e0 : Code := Cut.e (Cut.r sw)
noncomputable def e1 : Code := Cut.e (Cut.r e0)
noncomputable def arm0 : Code := Cut.t (Cut.r sw)
noncomputable def arm1 : Code := Cut.t (Cut.r e0)
noncomputable def two : Code := Cut.r (Cut.r e1)
noncomputable def arm2 : Code := Cut.t two
noncomputable def e2 : Code := Cut.e two
noncomputable def arm4 : Code := Cut.t (Cut.r e2)

set_option maxRecDepth 100000 in
theorem lit (L : Array Value) (h : L.size = 179) : L = #[g L 0, g L 1, g L 2, g L 3, g L 4, g L 5, g L 6, g L 7, g L 8, g L 9, g L 10, g L 11, g L 12, g L 13, g L 14, g L 15, g L 16, g L 17, g L 18, g L 19, g L 20, g L 21, g L 22, g L 23, g L 24, g L 25, g L 26, g L 27, g L 28, g L 29, g L 30, g L 31, g L 32, g L 33, g L 34, g L 35, g L 36, g L 37, g L 38, g L 39, g L 40, g L 41, g L 42, g L 43, g L 44, g L 45, g L 46, g L 47, g L 48, g L 49, g L 50, g L 51, g L 52, g L 53, g L 54, g L 55, g L 56, g L 57, g L 58, g L 59, g L 60, g L 61, g L 62, g L 63, g L 64, g L 65, g L 66, g L 67, g L 68, g L 69, g L 70, g L 71, g L 72, g L 73, g L 74, g L 75, g L 76, g L 77, g L 78, g L 79, g L 80, g L 81, g L 82, g L 83, g L 84, g L 85, g L 86, g L 87, g L 88, g L 89, g L 90, g L 91, g L 92, g L 93, g L 94, g L 95, g L 96, g L 97, g L 98, g L 99, g L 100, g L 101, g L 102, g L 103, g L 104, g L 105, g L 106, g L 107, g L 108, g L 109, g L 110, g L 111, g L 112, g L 113, g L 114, g L 115, g L 116, g L 117, g L 118, g L 119, g L 120, g L 121, g L 122, g L 123, g L 124, g L 125, g L 126, g L 127, g L 128, g L 129, g L 130, g L 131, g L 132, g L 133, g L 134, g L 135, g L 136, g L 137, g L 138, g L 139, g L 140, g L 141, g L 142, g L 143, g L 144, g L 145, g L 146, g L 147, g L 148, g L 149, g L 150, g L 151, g L 152, g L 153, g L 154, g L 155, g L 156, g L 157, g L 158, g L 159, g L 160, g L 161, g L 162, g L 163, g L 164, g L 165, g L 166, g L 167, g L 168, g L 169, g L 170, g L 171, g L 172, g L 173, g L 174, g L 175, g L 176, g L 177, g L 178] := by
  have e : L.toList = (List.range 179).map (g L) := list_nth L.toList 179 (by simpa using h)
  have e2 : L = ((List.range 179).map (g L)).toArray := by rw [← e]
  exact e2.trans rfl

/-- The law's own variables, by their slots. -/
structure Slots (L : Array Value) (ca : Option Addr) (cn cc : Nat) (va : Value) (b p : Nat) (vA vD : Value) (root : ByteArray) (j : Nat) : Prop where
  size : L.size = 179
  s0 : g L 0 = .slice ca cn cc
  s2 : g L 2 = va
  s7 : g L 7 = .pointer (some ⟨b, 0, none⟩)
  s9 : g L 9 = .pointer (some ⟨p, 0, none⟩)
  s11 : g L 11 = vA
  s12 : g L 12 = vD
  s14 : g L 14 = .string root
  s17 : g L 17 = .int .i64 (j : Nat)

/-- While the power is there. -/
structure C3 (w0 w : World) (b m p sm rb j : Nat) (s : St) (q : Pg) (vA vD : Value) (all done : List (Nat × List Nat)) : Prop where
  pat : PAt w p b m sm rb s q
  live : s.dead = false
  qlive : q.dead = false
  k : s.k ≤ 2 * j
  u : q.u ≤ j
  rl : q.root.length ≤ 64
  rowA : PagesOf w vA all
  rowD : PagesOf w vD done
  lenA : all.length ≤ j
  lenD : done.length ≤ j
  offA : ∀ x, vA.ownBlock = some x → x ≠ p ∧ x ≠ b ∧ x ≠ m ∧ x ≠ sm ∧ x ≠ rb ∧ w0.heap.size ≤ x
  offD : ∀ x, vD.ownBlock = some x → x ≠ p ∧ x ≠ b ∧ x ≠ m ∧ x ≠ sm ∧ x ≠ rb ∧ w0.heap.size ≤ x
  two : ∀ x, vA.ownBlock = some x → vD.ownBlock ≠ some x
  plain : Plain s q all done
  rbl : rb < w.heap.size
  ge : w0.heap.size ≤ p ∧ w0.heap.size ≤ b ∧ w0.heap.size ≤ m ∧ w0.heap.size ≤ sm
  w0p : 0 < w0.heap.size
  turn : Turn [] w0 w

/-- What lies on the disk, whether the power is there or not. -/
structure G3 (w0 w : World) (b m : Nat) (s : St) (root : List Nat) (vD : Value) (done : List (Nat × List Nat)) : Prop where
  disk : DiskAt w b m s
  laid : ∃ c K, Laid s c root K ∧ ∀ n, K n = true ↔ n ∈ done.map Prod.fst
  df : ∀ x ∈ done, x.2.length ≤ 496 ∧ s.f x.1 = bytesOf 512 (pageB x.2)
  rowD : PagesOf w vD done
  lenD : done.length ≤ 100
  offD : ∀ x, vD.ownBlock = some x → x ≠ b ∧ x ≠ m
  tab : Tab w
  pos : 0 < b ∧ 0 < m
  ge : w0.heap.size ≤ b ∧ w0.heap.size ≤ m
  turn : Turn [] w0 w

variable {w0 w : World} {b m p sm rb j : Nat} {s : St} {q : Pg} {vA vD : Value} {all done : List (Nat × List Nat)}

theorem C3.gone (h : C3 w0 w b m p sm rb j s q vA vD all done) (hj : j ≤ 60) {w' : World} {s' : St} (hD : DiskAt w' b m s') (hL : Laid s' q.c q.root q.K) (hf : ∀ k, 4 ≤ k → s'.f k = s.f k) {S : List Nat} (hT : Turn S w w') (hS : ∀ x ∈ S, x = p ∨ x = b ∨ x = m ∨ x = sm) : G3 w0 w' b m s' q.root vD done := by
  have hge := h.ge
  have hw0 := h.w0p
  refine ⟨hD, ⟨q.c, q.K, hL, h.plain.d⟩, fun x hx => ?_, h.rowD.turn hT (fun x hx hm => by have := h.offD x hx; have := hS x hm; omega), by have := h.lenD; omega, fun x hx => ⟨(h.offD x hx).2.1, (h.offD x hx).2.2.1⟩, h.pat.tab.turn hT (fun hm => by have := hS 0 hm; omega), ⟨h.pat.pos.2.1, h.pat.pos.2.2.1⟩, ⟨hge.2.1, hge.2.2.1⟩, h.turn.then hT (fun x hm => by have := hS x hm; right; omega)⟩
  have hk := h.pat.laid.kr x.1 ((h.plain.d x.1).2 (List.mem_map_of_mem hx))
  rw [hf _ hk.1]
  exact h.plain.df x hx

/-- Where the loop stands. -/
def Stands (w0 w : World) (b m p j : Nat) (vA vD : Value) (root : List Nat) : Prop :=
  (∃ sm rb s q all done, C3 w0 w b m p sm rb j s q vA vD all done ∧ root = q.root) ∨ ∃ s done, s.dead = true ∧ G3 w0 w b m s root vD done

theorem there_in (h : C3 w0 w b m p sm rb j s q vA vD all done) (n : Nat) : q.thereI s.n (n : Nat) = true ↔ n ∈ all.map Prod.fst := by
  rw [← h.plain.a n]
  constructor
  · intro ht
    obtain ⟨n', e, _, _, h4⟩ := Pg.there_range ht
    obtain rfl : n = n' := by omega
    exact h4
  · intro ht
    have h4 : 4 ≤ n ∧ n < s.n := by
      unfold Pg.there at ht
      simp at ht
      rcases ht.1 with h1 | h1
      · exact h.pat.laid.kr n h1
      · exact (h.pat.s1 n h1).2
    exact Pg.thereI_nat h4.1 h4.2 ht

theorem C3.next (h : C3 w0 w b m p sm rb j s q vA vD all done) : C3 w0 w b m p sm rb (j + 1) s q vA vD all done :=
  ⟨h.pat, h.live, h.qlive, by have := h.k; omega, by have := h.u; omega, h.rl, h.rowA, h.rowD, by have := h.lenA; omega, by have := h.lenD; omega, h.offA, h.offD, h.two, h.plain, h.rbl, h.ge, h.w0p, h.turn⟩

theorem C3.turn0 (h : C3 w0 w b m p sm rb j s q vA vD all done) {w' : World} (hT : Turn [] w w') : C3 w0 w' b m p sm rb j s q vA vD all done :=
  ⟨h.pat.turn0 hT, h.live, h.qlive, h.k, h.u, h.rl, h.rowA.turn hT (by simp), h.rowD.turn hT (by simp), h.lenA, h.lenD, h.offA, h.offD, h.two, h.plain, Nat.lt_of_lt_of_le h.rbl hT.size, h.ge, h.w0p, h.turn.then hT (by simp)⟩

theorem C3.full (h : C3 w0 w b m p sm rb j s q vA vD all done) {w' : World} {r : Bool} (hA : PAt w' p b m sm rb s { q with rd := r }) (hT : Turn [p, b, m, sm] w w') : C3 w0 w' b m p sm rb j s { q with rd := r } vA vD all done :=
  ⟨hA, h.live, h.qlive, h.k, h.u, h.rl, h.rowA.turn hT (fun x hx => by have := h.offA x hx; simp; omega), h.rowD.turn hT (fun x hx => by have := h.offD x hx; simp; omega), h.lenA, h.lenD, h.offA, h.offD, h.two, h.plain.rd r, Nat.lt_of_lt_of_le h.rbl hT.size, h.ge, h.w0p, h.turn.then hT (by have := h.ge; simp; omega)⟩

theorem C3.freed (h : C3 w0 w b m p sm rb j s q vA vD all done) {w1 w2 : World} {n : Nat} {v : Value}
    (hA : PAt w1 p b m sm rb s (q.freed n)) (hT : Turn [p, sm] w w1) (hR : PagesOf w2 v (sans all n)) (hT2 : Turn [] w1 w2) (hv : ∀ x, v.ownBlock = some x → w1.heap.size ≤ x) :
    C3 w0 w2 b m p sm rb (j + 1) s (q.freed n) v vD (sans all n) done := by
  obtain ⟨e1, _, e3, e4⟩ := Pl.Pg.freed_root q n
  have hge := h.ge
  have hsz := hT.size
  have hsl := sans_length all n
  have hl1 := h.lenA
  have hl2 := h.lenD
  have h1 := hA.pg.lt
  have h2 := hA.disk.lt
  have h3 := hA.disk.ltm
  have h4 := hA.pg.lts
  have h5 := h.rbl
  have h0 := h.turn.size
  refine ⟨hA.turn0 hT2, h.live, e3.trans h.qlive, by have := h.k; omega, by have := h.u; omega, by rw [e1]; exact h.rl, hR, (h.rowD.turn hT (fun x hx => by have := h.offD x hx; simp; omega)).turn hT2 (by simp), by omega, by omega, fun x hx => ?_, h.offD, fun x hx hd => ?_, h.plain.freed (fun n hn => (h.pat.s1 n hn).1) n, Nat.lt_of_lt_of_le h.rbl (Nat.le_trans hT.size hT2.size), hge, h.w0p, (h.turn.then hT (by simp; omega)).then hT2 (by simp)⟩
  · have := hv x hx
    omega
  · have := hv x hx
    have := h.rowD.lt x hd
    omega

theorem C3.back (h : C3 w0 w b m p sm rb j s q vA vD all done) {w1 w2 : World} {v : Value} {sm' : Nat} {q' : Pg}
    (hA : PAt w1 p b m sm' rb s q') (hT : Turn [p] w w1) (hsm : w.heap.size ≤ sm') (hqd : q'.dead = false) (hqu : q'.u ≤ j) (hqr : q'.root.length ≤ 64) (hK : q'.K = q.K) (hsi : ∀ n, q'.si n = 0)
    (hR : PagesOf w2 v done) (hT2 : Turn [] w1 w2) (hv : ∀ x, v.ownBlock = some x → w1.heap.size ≤ x) : C3 w0 w2 b m p sm' rb j s q' v vD done done := by
  have h1 := hA.pg.lt
  have h2 := hA.disk.lt
  have h3 := hA.disk.ltm
  have h4 := hA.pg.lts
  have hsz := hT.size
  have h0 := h.turn.size
  have hge := h.ge
  have hrl := h.rbl
  have hofD : ∀ x, vD.ownBlock = some x → x ≠ p ∧ x ≠ b ∧ x ≠ m ∧ x ≠ sm' ∧ x ≠ rb ∧ w0.heap.size ≤ x := fun x hx => by
    have := h.offD x hx
    have := h.rowD.lt x hx
    omega
  refine ⟨hA.turn0 hT2, h.live, hqd, h.k, hqu, hqr, hR, (h.rowD.turn hT (fun x hx => by have := h.offD x hx; simp; omega)).turn hT2 (by simp), h.lenD, h.lenD, fun x hx => ?_, hofD, fun x hx hd => ?_, h.plain.back q' hK hsi, by have := hT2.size; omega, ⟨hge.1, hge.2.1, hge.2.2.1, by omega⟩, h.w0p, (h.turn.then hT (by simp; omega)).then hT2 (by simp)⟩
  · have := hv x hx
    omega
  · have := hv x hx
    have := h.rowD.lt x hd
    omega

/-- v: the copy of all that was made ahead. -/
theorem C3.committed (h : C3 w0 w b m p sm rb j s q vA vD all done) {w2 : World} {v : Value} {sm' rb' : Nat} {s' : St} {root : List Nat}
    (hA : PAt w2 p b m sm' rb' s' (q.committed root)) (hT : Turn [p, b, m] w w2) (hsm : w.heap.size ≤ sm') (hrb : w.heap.size ≤ rb') (hrl : rb' < w2.heap.size) (hr : root.length ≤ 64) (hd : s'.dead = false) (hk : s'.k = s.k + 2) (hf : ∀ k, 4 ≤ k → s'.f k = s.f k)
    (hR : PagesOf w v all) (hv : ∀ x, v.ownBlock = some x → x ≠ p ∧ x ≠ b ∧ x ≠ m ∧ w0.heap.size ≤ x ∧ vA.ownBlock ≠ some x) : C3 w0 w2 b m p sm' rb' (j + 1) s' (q.committed root) vA v all all := by
  have h1 := hA.pg.lt
  have h4 := hA.pg.lts
  have hsz := hT.size
  have h0 := h.turn.size
  have hge := h.ge
  have hAl : ∀ x, vA.ownBlock = some x → x < w.heap.size := fun x hx => h.rowA.lt x hx
  have hVl : ∀ x, v.ownBlock = some x → x < w.heap.size := fun x hx => hR.lt x hx
  refine ⟨hA, hd, h.qlive, by have := h.k; omega, Nat.zero_le _, hr, h.rowA.turn hT (fun x hx => by have := h.offA x hx; simp; omega), hR.turn hT (fun x hx => by have := hv x hx; simp; omega), by have := h.lenA; omega, by have := h.lenA; omega, fun x hx => ?_, fun x hx => ?_, fun x hx hd => (hv x hd).2.2.2.2 hx, h.plain.committed root (fun x hx => hf _ ?_), hrl, ⟨hge.1, hge.2.1, hge.2.2.1, by omega⟩, h.w0p, h.turn.then hT (by simp; omega)⟩
  · have := h.offA x hx
    have := hAl x hx
    omega
  · have := hv x hx
    have := hVl x hx
    omega
  · obtain ⟨_, e, h4, _⟩ := Pg.there_range ((there_in h x.1).2 (List.mem_map_of_mem hx))
    omega

theorem C3.alloced (h : C3 w0 w b m p sm rb j s q vA vD all done) {w1 w2 : World} {v : Value} {k : Nat} {lk : List Nat}
    (hk : q.Next s.n k) (hl : lk.length ≤ 496) (hA : PAt w1 p b m sm rb (s.did k (bytesOf 512 (pageB lk))) (q.alloced k)) (hT : Turn [p, b, m, sm] w w1)
    (hR : PagesOf w2 v (all ++ [(k, lk)])) (hT2 : Turn [] w1 w2 ∨ (∃ x, vA.ownBlock = some x ∧ Turn [x] w1 w2)) (hv : v.ownBlock = vA.ownBlock ∨ ∃ x, v.ownBlock = some x ∧ w1.heap.size ≤ x) :
    C3 w0 w2 b m p sm rb (j + 1) (s.did k (bytesOf 512 (pageB lk))) (q.alloced k) v vD (all ++ [(k, lk)]) done := by
  have h1 := hA.pg.lt
  have h2 := hA.disk.lt
  have h3 := hA.disk.ltm
  have h4 := hA.pg.lts
  have h5 := h.rbl
  have hsz := hT.size
  have h0 := h.turn.size
  have hge := h.ge
  have hw0 := h.w0p
  have hsz2 : w1.heap.size ≤ w2.heap.size := by
    rcases hT2 with h | ⟨_, _, h⟩ <;> exact h.size
  have hD1 := h.rowD.turn hT (fun x hx => by have := h.offD x hx; simp; omega)
  have hT02 : Turn [] w0 w1 := h.turn.then hT (by simp; omega)
  have hoff : ∀ x, v.ownBlock = some x → x ≠ p ∧ x ≠ b ∧ x ≠ m ∧ x ≠ sm ∧ x ≠ rb ∧ w0.heap.size ≤ x := fun x hx => by
    rcases hv with e | ⟨y, e, hy⟩
    · exact h.offA x (e ▸ hx)
    · obtain rfl : y = x := by rw [e] at hx; exact Option.some.inj hx
      omega
  have htwo : ∀ x, v.ownBlock = some x → vD.ownBlock ≠ some x := fun x hx hd => by
    rcases hv with e | ⟨y, e, hy⟩
    · exact h.two x (e ▸ hx) hd
    · obtain rfl : y = x := by rw [e] at hx; exact Option.some.inj hx
      have := h.rowD.lt y hd
      omega
  obtain ⟨hA2, hD2, hT3⟩ : PAt w2 p b m sm rb (s.did k (bytesOf 512 (pageB lk))) (q.alloced k) ∧ PagesOf w2 vD done ∧ Turn [] w0 w2 := by
    rcases hT2 with hh | ⟨x, hx, hh⟩
    · exact ⟨hA.turn0 hh, hD1.turn hh (by simp), hT02.then hh (by simp)⟩
    · have ho := h.offA x hx
      exact ⟨hA.turn hh (by simp; omega) (by simp; omega) (by simp; omega) (by simp; omega) (by simp; omega) (by simp; omega), hD1.turn hh (fun y hy => by simp; exact fun e => h.two x hx (e ▸ hy)), hT02.then hh (by simp; omega)⟩
  exact ⟨hA2, h.live, h.qlive, by have := h.k; show s.k + 1 ≤ _; omega, by have := h.u; show q.u + 1 ≤ _; omega, h.rl, hR, hD2, by rw [List.length_append]; have := h.lenA; show all.length + 1 ≤ _; omega, by have := h.lenD; omega, hoff, h.offD, htwo, h.plain.alloced hk lk hl (fun n hn => by show put s.f k _ n = _; unfold put; rw [if_neg hn]) (St.did_f_same _ _ _), by omega, hge, h.w0p, hT3⟩

theorem Laid.dead {s : St} {c : Nat} {root : List Nat} {K : Nat → Bool} (h : Laid s c root K) : Laid { s with dead := true } c root K :=
  ⟨⟨h.good.n1, h.good.k1, h.good.l1, h.good.l2, h.good.len⟩, h.n64, h.n4096, h.byte, h.num, h.ck, h.zero, h.some, h.map, h.kr, h.rl, h.rbytes⟩
theorem Laid.start {s : St} {c : Nat} {root : List Nat} {K : Nat → Bool} (h : Laid s c root K) : Laid s.start c root K :=
  ⟨h.good.start, h.n64, h.n4096, h.byte, h.num, h.ck, h.zero, h.some, h.map, h.kr, h.rl, h.rbytes⟩
theorem Laid.cut {s : St} {c : Nat} {root : List Nat} {K : Nat → Bool} (h : Laid s c root K) {i : Int} (hi : i ≤ 9223372036854775807) : Laid (s.cut i) c root K :=
  ⟨h.good.cut hi, h.n64, h.n4096, h.byte, h.num, h.ck, h.zero, h.some, h.map, h.kr, h.rl, h.rbytes⟩
end Cr
end Go.Proofs.YtjbjcjcahkfgbaaDoor
