/-
  Steps of a region that draws: a call by its contract, an append of bytes.
-/
import Derived.Test.YtkbboingeacgjaaQRef2
import Derived.Test.YtkbboingeacgjaaFPr2
import Derived.Deep.RegionLaw
import Derived.Deep.RegionHeldLaw
import Derived.Deep.CutRange
import Derived.Test.YtkbboingeacgjaaFCar
namespace Go.Proofs.Ytkbboingeacgjaa
open Go.RowKit

/-- Another block is as it was. -/
theorem Gr.other {w w' : World} {v v' : Value} {l : List Nat} (h : Gr w w' v v' l) {x : Nat} (hx : x < w.heap.size) (hv : v.ownBlock ≠ some x) : w'.heap[x]? = w.heap[x]? := h.grown.block x hx (fun e => hv e.symm)

theorem Gr.apart {w w' : World} {v v' : Value} {l : List Nat} (h : Gr w w' v v' l) {x : Nat} (hx : x < w.heap.size) (hv : v.ownBlock ≠ some x) : v'.ownBlock ≠ some x := fun e => by
  rcases h.loc x e with h1 | h1
  · exact hv h1
  · omega

end Go.Proofs.Ytkbboingeacgjaa

/-
  Requests' bytes, by themselves.
-/
namespace Go.Proofs.Ytkbboingeacgjaa
open Go.RowKit

/-- A text's bytes. -/
def txB (t : ByteArray) : List Nat := [t.size] ++ natBytes t
theorem txB_len (t : ByteArray) : (txB t).length = 1 + t.size := by unfold txB; rw [List.length_append, natBytes_length]; rfl
/-- What stands behind the key. -/
def bodyB (r : Rq) : List Nat :=
  if r.k = 1 ∨ r.k = 4 then be8 r.id ++ be8 r.n ++ be8 r.ttl
  else if r.k = 2 then be8 r.id ++ be8 r.o ++ be8 r.n
  else if r.k = 3 then be8 r.id ++ be8 r.o
  else if r.k = 5 then []
  else if r.k = 16 then tiB r.pn r.px
  else if r.k = 17 then txB r.nm ++ txB r.sec ++ txB r.pn ++ be8 r.p1
  else if r.k = 18 then txB r.nm ++ txB r.pn ++ be8 r.p1
  else if r.k = 19 then be8 r.n
  else txB r.nm ++ be8 r.n
def reqB (r : Rq) : List Nat := [r.k.toNat] ++ txB r.key ++ bodyB r
/-- The texts that a kind has. -/
def txts (r : Rq) : List ByteArray :=
  if r.k = 16 then [r.key, r.pn] else if r.k = 17 then [r.key, r.nm, r.sec, r.pn] else if r.k = 18 then [r.key, r.nm, r.pn] else if r.k = 20 then [r.key, r.nm] else [r.key]
def Fit (l : List ByteArray) : Prop := ∀ t ∈ l, t.size ≤ 255
theorem txtW_ok {t : ByteArray} (h : t.size ≤ 255) (l : List Nat) (e : Nat) : txtW l e t = ⟨l ++ txB t, e⟩ := by
  unfold txtW txB
  rw [if_pos h, List.append_assoc]
theorem txtW_no {t : ByteArray} (h : ¬ t.size ≤ 255) (l : List Nat) (e : Nat) : txtW l e t = ⟨l, orE e 5⟩ := by unfold txtW; rw [if_neg h]
theorem tiW_ok {t : ByteArray} (h : t.size ≤ 255) (l : List Nat) (e : Nat) (xs : List Int) : tiW l e t xs = ⟨l ++ tiB t xs, e⟩ := by unfold tiW; rw [if_pos h]
theorem tiW_no {t : ByteArray} (h : ¬ t.size ≤ 255) (l : List Nat) (e : Nat) (xs : List Int) : tiW l e t xs = ⟨l, orE e 5⟩ := by unfold tiW; rw [if_neg h]
theorem kmod {K : Int} (h : isK K) : (K % 256).toNat = K.toNat := by
  rcases h with rfl | rfl | rfl | rfl | rfl | rfl | rfl | rfl | rfl | rfl <;> rfl

theorem enc_ok (r : Rq) (hk : isK r.k) (hf : Fit (txts r)) : (reqS wrC ⟨[], 0⟩ r).1 = ⟨reqB r, 0⟩ := by
  have hm := kmod hk
  obtain ⟨k, key, id, n, ttl, o, nm, sec, pn, p1, p2, p3, p4, p5, p6, p7, p8, p9⟩ := r
  unfold Fit txts at hf
  dsimp only at hk hf hm
  unfold reqS reqK reqB bodyB wrC
  dsimp only
  rw [hm]
  rcases hk with rfl | rfl | rfl | rfl | rfl | rfl | rfl | rfl | rfl | rfl <;> simp at hf <;> simp [txtW_ok, tiW_ok, hf, Rq.px]

theorem orE_05 : orE 0 5 = 5 := rfl
theorem orE_55 : orE 5 5 = 5 := rfl
theorem enc_long (r : Rq) (hk : isK r.k) (hf : ¬ Fit (txts r)) : (reqS wrC ⟨[], 0⟩ r).1.e = 5 := by
  obtain ⟨k, key, id, n, ttl, o, nm, sec, pn, p1, p2, p3, p4, p5, p6, p7, p8, p9⟩ := r
  unfold Fit txts at hf
  dsimp only at hk hf
  unfold reqS reqK wrC
  dsimp only
  by_cases a1 : key.size ≤ 255 <;> by_cases a2 : nm.size ≤ 255 <;> by_cases a3 : sec.size ≤ 255 <;> by_cases a4 : pn.size ≤ 255 <;> (rcases hk with rfl | rfl | rfl | rfl | rfl | rfl | rfl | rfl | rfl | rfl <;> first | (exfalso; revert hf; simp [a1, a2, a3, a4]; done) | simp [txtW_ok, txtW_no, tiW_ok, tiW_no, a1, a2, a3, a4, orE_05, orE_55])

theorem enc_no (r : Rq) (hk : ¬ isK r.k) : (reqS wrC ⟨[], 0⟩ r).1.e = 3 := by
  unfold isK at hk
  unfold reqS reqK wrC
  dsimp only
  simp only [not_or] at hk
  obtain ⟨a1, a2, a3, a4, a5, a6, a7, a8, a9, a10⟩ := hk
  simp [a1, a2, a3, a4, a5, a6, a7, a8, a9, a10]
  rfl

end Go.Proofs.Ytkbboingeacgjaa
