/-
  The law PagerPlays, the arm that frees.
-/
import Derived.Test.YtjbjcjcahkfgbaaDoorPlCode
namespace Go.Proofs.YtjbjcjcahkfgbaaDoor.Pl
open Go.RowKit Go.Maps

theorem place_yes {l : List (Nat × List Nat)} {n v : Int} (h : IsPlace l n v) (k : Nat) (e : n = (k : Int)) (hk : k ∈ l.map Prod.fst) : 0 ≤ v ∧ v < l.length ∧ ∃ (j : Nat) (h : j < l.length), v = (j : Int) ∧ l[j].1 = k := by
  rcases h with ⟨j, hj, rfl, h2⟩ | ⟨_, h2⟩
  · exact ⟨by omega, by omega, j, hj, rfl, by omega⟩
  · obtain ⟨x, hx, e2⟩ := List.mem_map.1 hk
    obtain ⟨i, hi, e3⟩ := List.getElem_of_mem hx
    exact absurd (by rw [e3, e2, e]) (h2 i hi)

theorem place_no {l : List (Nat × List Nat)} {n v : Int} (h : IsPlace l n v) (hk : ∀ k : Nat, n = (k : Int) → k ∉ l.map Prod.fst) : v = -1 := by
  rcases h with ⟨j, hj, rfl, h2⟩ | ⟨h1, _⟩
  · exact absurd (List.mem_map_of_mem (List.getElem_mem hj)) (hk _ h2.symm)
  · exact h1

theorem sans_none {l : List (Nat × List Nat)} {n : Int} (hk : ∀ k : Nat, n = (k : Int) → k ∉ l.map Prod.fst) : sans l n = l := by
  unfold sans
  rw [List.filter_eq_self]
  intro x hx
  simp
  exact fun e => hk _ e.symm (List.mem_map_of_mem hx)

/-- What is there, by the rows. -/
theorem there_in {w0 w : World} {N b m p sm rb j : Nat} {s : St} {q : Pg} {vA vD : Value} {all done : List (Nat × List Nat)} {news wrote : Nat} (h : P3 w0 w N b m p sm rb j s q vA vD all done news wrote) (n : Nat) : q.thereI s.n (n : Nat) = true ↔ n ∈ all.map Prod.fst := by
  rw [← h.plain.a n]
  constructor
  · intro ht
    obtain ⟨n', e, _, _, h4⟩ := Pg.there_range ht
    obtain rfl : n = n' := by omega
    exact h4
  · intro ht
    have h4 : 4 ≤ n ∧ n < s.n := by
      unfold Pg.there at ht
      simp at ht
      rcases ht.1 with h1 | h1
      · exact h.pat.laid.kr n h1
      · exact (h.pat.s1 n h1).2
    exact Pg.thereI_nat h4.1 h4.2 ht

theorem Pg.freed_root (q : Pg) (n : Nat) : (q.freed n).root = q.root ∧ (q.freed n).c = q.c ∧ (q.freed n).dead = q.dead ∧ (q.freed n).u ≤ q.u + 1 := by
  unfold Pg.freed
  split
  · exact ⟨rfl, rfl, rfl, Nat.le_succ _⟩
  · exact ⟨rfl, rfl, rfl, Nat.le_refl _⟩

theorem P3.freed {w0 w : World} {N b m p sm rb j : Nat} {s : St} {q : Pg} {vA vD : Value} {all done : List (Nat × List Nat)} {news wrote : Nat} (h : P3 w0 w N b m p sm rb j s q vA vD all done news wrote) {w1 w2 : World} {n : Nat} {v : Value}
    (hA : PAt w1 p b m sm rb s (q.freed n)) (hT : Turn [p, sm] w w1) (hR : PagesOf w2 v (sans all n)) (hT2 : Turn [] w1 w2) (hv : ∀ x, v.ownBlock = some x → w1.heap.size ≤ x) :
    P3 w0 w2 N b m p sm rb (j + 1) s (q.freed n) v vD (sans all n) done news wrote := by
  obtain ⟨e1, _, e3, e4⟩ := Pg.freed_root q n
  have hge := h.ge
  have hsz := hT.size
  have hsl := sans_length all n
  have hl1 := h.lenA
  have hl2 := h.lenD
  have h1 := hA.pg.lt
  have h2 := hA.disk.lt
  have h3 := hA.disk.ltm
  have h4 := hA.pg.lts
  have h5 := h.rbl
  have h0 := h.turn.size
  refine ⟨hA.turn0 hT2, h.live, e3.trans h.qlive, h.n, by have := h.k; omega, h.left, by have := h.u; omega, by rw [e1]; exact h.rl, hR, (h.rowD.turn hT (fun x hx => by have := h.offD x hx; simp; omega)).turn hT2 (by simp), by omega, by omega, fun x hx => ?_, h.offD, fun x hx hd => ?_, h.plain.freed (fun n hn => (h.pat.s1 n hn).1) n, h.wr, Nat.lt_of_lt_of_le h.rbl (Nat.le_trans hT.size hT2.size), hge, (h.turn.then hT (by simp; omega)).then hT2 (by simp)⟩
  · have := hv x hx
    omega
  · have := hv x hx
    have := h.rowD.lt x hd
    omega

theorem P3.newA {w0 w : World} {N b m p sm rb j : Nat} {s : St} {q : Pg} {vA vD : Value} {all done : List (Nat × List Nat)} {news wrote : Nat} (h : P3 w0 w N b m p sm rb j s q vA vD all done news wrote) {w2 : World} {v : Value}
    (hR : PagesOf w2 v all) (hT2 : Turn [] w w2) (hv : ∀ x, v.ownBlock = some x → w.heap.size ≤ x) : P3 w0 w2 N b m p sm rb j s q v vD all done news wrote := by
  have h1 := h.pat.pg.lt
  have h2 := h.pat.disk.lt
  have h3 := h.pat.disk.ltm
  have h4 := h.pat.pg.lts
  have h5 := h.rbl
  have h0 := h.turn.size
  refine ⟨h.pat.turn0 hT2, h.live, h.qlive, h.n, h.k, h.left, h.u, h.rl, hR, h.rowD.turn hT2 (by simp), h.lenA, h.lenD, fun x hx => ?_, h.offD, fun x hx hd => ?_, h.plain, h.wr, Nat.lt_of_lt_of_le h.rbl hT2.size, h.ge, h.turn.then hT2 (by simp)⟩
  · have := hv x hx
    omega
  · have := hv x hx
    have := h.rowD.lt x hd
    omega

set_option maxRecDepth 100000 in
set_option maxHeartbeats 3200000 in
theorem arm1_any (w0 w : World) (L : Array Value) (Q : Exit → Act → World → Prop) (N : Nat) (ca : Option Addr) (cn cc b m p sm rb j : Nat) (s : St) (q : Pg) (vA vD : Value) (all done : List (Nat × List Nat)) (news wrote cb : Nat) (kk : Int)
    (hj : j < 120) (hS : Slots L N ca cn cc b p vA vD (textOf q.root) q.c news wrote j) (hS2 : Slots2 L cb kk) (hP : P3 w0 w N b m p sm rb j s q vA vD all done news wrote)
    (hQ : ∀ (L' : Array Value) (w' : World) (q' : Pg) (vA' : Value) (all' : List (Nat × List Nat)), Slots L' N ca cn cc b p vA' vD (textOf q'.root) q'.c news wrote j → P3 w0 w' N b m p sm rb (j + 1) s q' vA' vD all' done news wrote → Q .normal ⟨L', []⟩ w') :
    Code.wp Tryd.prog arm1 Q ⟨L, []⟩ w := by
  rw [lit L hS.size, hS.s0, hS.s1, hS.s5, hS.s7, hS.s9, hS.s10, hS.s11, hS.s12, hS.s13, hS.s14, hS.s15, hS2.s16, hS2.s17]
  generalize g L = u
  have HQ := hide hQ
  have HP := hide hP
  have hlA := hP.lenA
  have huu := hP.u
  obtain ⟨aA, cA, rfl, hPA, _⟩ := hP.rowA.slice
  have HPA := hide hPA
  clear hS hS2 hQ hP hPA
  conv => arg 2; whnf
  by_cases ht : q.thereI s.n kk = true
  · obtain ⟨n, rfl, _, _, _⟩ := Pg.there_range ht
    have hm := (there_in HP.out n).1 ht
    have HT := hide ht
    have HM := hide hm
    clear ht hm
    go_wp2_with fail
    refine (free_yes p b m sm rb s q HP.out.live HP.out.qlive (by omega) n HT.out w HP.out.pat).mono ?_
    rintro e w1 ⟨rfl, hA1, hT1⟩
    have HA1 := hide hA1
    have HT1 := hide hT1
    have HPA1 := hide (HPA.out.turn hT1 (fun x hl hx => by
      have := HP.out.offA x.block (by rw [hx]; rfl)
      simp; omega))
    clear hA1 hT1
    go_wp2_with fail
    refine (at_any aA cA all n (by omega) w1 HPA1.out).mono ?_
    rintro e w2 ⟨v, rfl, hv, rfl⟩
    obtain ⟨hv1, hv2, _⟩ := place_yes hv n rfl HM.out
    clear hv
    go_wp2_with fail
    refine (without_any aA cA all n (by omega) w2 HPA1.out).mono ?_
    rintro e w3 ⟨v3, rfl, hR3, hT3, hf3⟩
    have hr := P3.freed HP.out HA1.out HT1.out hR3 hT3 hf3
    have HR := hide hr
    obtain ⟨e1, e2, _, _⟩ := Pg.freed_root q n
    have E1 := hide e1
    have E2 := hide e2
    clear hR3 hT3 hf3 hr e1 e2
    go_wp2_with fail
    refine HQ.out _ _ (q.freed n) _ (sans all n) ?_ HR.out
    rw [E1.out, E2.out]
    exact ⟨rfl, rfl, rfl, rfl, rfl, rfl, rfl, rfl, rfl, rfl, rfl, rfl⟩
  · have ht' : q.thereI s.n kk = false := by simpa using ht
    have HM : Hid (∀ k : Nat, kk = (k : Int) → k ∉ all.map Prod.fst) := fun k e hm => ht (by rw [e]; exact (there_in HP.out k).2 hm)
    have HT := hide ht'
    clear ht ht'
    go_wp2_with fail
    refine (free_no p b m sm rb s q HP.out.live HP.out.qlive kk HT.out w HP.out.pat).mono ?_
    rintro e w1 ⟨rfl, ⟨r, hA1⟩, hT1⟩
    have HP1 := hide (HP.out.rd hA1 hT1)
    have HPA1 := hide (HPA.out.turn hT1 (fun x hl hx => by
      have := HP.out.offA x.block (by rw [hx]; rfl)
      simp; omega))
    clear hA1 hT1 HP
    go_wp2_with fail
    refine (at_any aA cA all kk (by omega) w1 HPA1.out).mono ?_
    rintro e w2 ⟨v, rfl, hv, rfl⟩
    obtain rfl := place_no hv HM.out
    clear hv
    go_wp2_with fail
    refine (without_any aA cA all kk (by omega) w2 HPA1.out).mono ?_
    rintro e w3 ⟨v3, rfl, hR3, hT3, hf3⟩
    rw [sans_none HM.out] at hR3
    have HR := hide (P3.newA HP1.out hR3 hT3 hf3).next
    clear hR3 hT3 hf3
    go_wp2_with fail
    exact HQ.out _ _ { q with rd := r } _ all ⟨rfl, rfl, rfl, rfl, rfl, rfl, rfl, rfl, rfl, rfl, rfl, rfl⟩ HR.out
end Go.Proofs.YtjbjcjcahkfgbaaDoor.Pl
