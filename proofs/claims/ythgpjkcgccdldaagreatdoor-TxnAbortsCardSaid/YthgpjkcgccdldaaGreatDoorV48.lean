/-
  slices.SortFunc of pairs by their keys, walked: a row of the call's own comes into its order.
-/
import Derived.Test.YthgpjkcgccdldaaGreatDoorV47
import Derived.Shelf.SlSortCmp.WholeK
import Derived.Shelf.Lay
import Derived.Ground.SlsfProg
import Derived.Ground.NamesProg

namespace Go.Proofs
shelf_lay_g SlLaysF0.n6 Slsf 6 at Tryz 113 as Tryz.sortKV
end Go.Proofs
namespace Go.Proofs.YthgpjkcgccdldaaGreatDoor
open Go.RowKit Go.Maps

/-- A pair's two cells. -/
def encKv (x : Kv) : List Value := [.string x.1, .string x.2]
theorem flat_encKv (l : List Kv) : (Go.Sort.flatK encKv 2 l.toArray).toList = flat (kvCells l) := by
  refine List.ext_getElem (by simp [flat_length, kvCells_length]) fun t h1 h2 => ?_
  have hs : t < l.length * 2 := by simpa using h1
  have e := Go.Sort.get_flatK encKv 2 l.toArray t (by simpa using hs)
  rw [getElem!_pos _ _ (by simpa using hs)] at e
  rw [Array.getElem_toList, e]
  have hi : t / 2 < l.length := by omega
  obtain ⟨g0, g1⟩ := flat_get (kvCells l) (t / 2) (by rw [kvCells_length]; exact hi)
  have hk : (kvCells l)[t / 2]'(by rw [kvCells_length]; exact hi) = (.string l[t / 2].1, .string l[t / 2].2) := by simp [kvCells]
  rw [hk] at g0 g1
  have hl : l.toArray[t / 2]! = l[t / 2] := by rw [getElem!_pos _ _ (by simpa using hi)]; simp
  rw [hl]
  rcases Nat.mod_two_eq_zero_or_one t with hm | hm
  · have et : t = t / 2 * 2 := by omega
    rw [hm]
    have := List.getElem?_eq_getElem h2
    conv at this => lhs; rw [et]
    rw [g0] at this
    exact Option.some.inj this
  · have et : t = t / 2 * 2 + 1 := by omega
    rw [hm]
    have := List.getElem?_eq_getElem h2
    conv at this => lhs; rw [et]
    rw [g1] at this
    exact Option.some.inj this

theorem lt_kv (x y : Kv) : ltOf (fun x y : Kv => cmp x.1 y.1) x y = decide (klt x.1 y.1) := by
  unfold ltOf
  simp only [cmp_neg]
theorem swo_kv : Go.Sort.SWO (ltOf fun x y : Kv => cmp x.1 y.1) where
  irrefl x := by rw [lt_kv]; simp [klt_irrefl]
  trans x y z h1 h2 := by rw [lt_kv] at *; simp at *; exact klt_trans h1 h2
  ntrans x y z h1 h2 := by rw [lt_kv] at *; simp at *; exact kle_trans h2 h1

set_option maxHeartbeats 1000000 in
theorem undone2_any (x y : Kv) (W : World) : Calls Tryz.prog 114 #[.agg #[.string x.1, .string x.2], .agg #[.string y.1, .string y.2]] W fun e w' => e = .returned (.int .i64 (cmp x.1 y.1)) ∧ ∃ q os, w' = Go.Sort.grow (W.drewN q) os := by
  have hcon := fun W' => compare_any x.1 y.1 W'
  generalize cmp x.1 y.1 = r at hcon ⊢
  go_enter Tryz.func114, Tryz.ntmps114
  go_wp2_with (go_at_call 115; refine (hcon _).mono ?_; rintro e w' ⟨rfl, rfl⟩)
  go_ret
  exact ⟨rfl, 0, _, by rw [Go.Sort.alloc_eq_grow, Go.Sort.alloc_eq_grow, Go.Sort.grow_grow]; rfl⟩

theorem cmpLays_kv (blk off size : Nat) (w : World) : CmpLays Tryz.prog 114 #[] encKv 2 (fun x y => cmp x.1 y.1) blk off size w :=
  fun _ _ _ _ x y => undone2_any x y _

/-- There is one order. -/
theorem sorted_eq {d' ld : List Kv} (hp : d'.Perm ld) (hs : d'.Pairwise fun x y => ¬ klt y.1 x.1) (hr : Rises (ld.map Prod.fst)) : d' = ld := by
  have hr' : ld.Pairwise fun x y => klt x.1 y.1 := List.pairwise_map.1 hr
  refine List.Perm.eq_of_pairwise (le := fun x y : Kv => ¬ klt y.1 x.1) (fun x y hx hy h1 h2 => ?_) hs (hr'.imp fun h => klt_asymm h) hp
  have hx' := hp.mem_iff.1 hx
  obtain ⟨i, hi, rfl⟩ := List.mem_iff_getElem.1 hx'
  obtain ⟨j, hj, rfl⟩ := List.mem_iff_getElem.1 hy
  rcases Nat.lt_trichotomy i j with h | h | h
  · exact absurd (List.pairwise_iff_getElem.1 hr' i j hi hj h) h2
  · subst h; rfl
  · exact absurd (List.pairwise_iff_getElem.1 hr' j i hj hi h) h1

theorem own_holds {w : World} {base g cap : Nat} {L : List Kv} (h : w.ownsRow base 55 2 (.slice (some ⟨g, 0, none⟩) L.length cap) L.length (flat (kvCells L))) : Go.Sort.HoldsK encKv 2 w g 0 L.toArray := by
  intro j hj
  have hj' : j < L.length * 2 := by simpa using hj
  rw [Nat.zero_add]
  refine ⟨?_, h.frozenAt j⟩
  have e : (Go.Sort.flatK encKv 2 L.toArray)[j]! = (Go.Sort.flatK encKv 2 L.toArray)[j] := getElem!_pos (Go.Sort.flatK encKv 2 L.toArray) j hj
  rw [h.cellAt j (by omega), ← flat_encKv, e, ← Array.getElem_toList hj, List.getElem?_eq_getElem (by simpa using hj')]
  rfl

theorem own_sorted {w : World} {base g cap n : Nat} {L : List Kv} (h : w.ownsRow base 55 2 (.slice (some ⟨g, 0, none⟩) L.length cap) L.length (flat (kvCells L))) (d' : List Kv) (hd : d'.length = L.length) (os : Array Obj) : (sortWorldK encKv 2 w g 0 n d'.toArray os).ownsRow base 55 2 (.slice (some ⟨g, 0, none⟩) L.length cap) L.length (flat (kvCells d')) ∧ Turn [g] w (sortWorldK encKv 2 w g 0 n d'.toArray os) := by
  have hg := (h.lt g rfl).2
  have hH := own_holds h
  have hH' := holdsK_sortWorldK_c encKv 2 w g 0 L.toArray d'.toArray n os hH hg (by simpa using hd)
  obtain ⟨h1, ⟨h', _⟩ | ⟨g', cap', cur, h', hb, hgc, hnc, hm, hcs, htake⟩⟩ := h
  · simp at h'
  · simp only [Value.slice.injEq, Option.some.injEq, Addr.mk.injEq, and_true, true_and] at h'
    obtain ⟨rfl, rfl⟩ := h'
    have hsz : (Go.Sort.putRowK encKv 2 (Go.Sort.ahead w n) g 0 d'.toArray).heap.size = w.heap.size := by simp [Go.Sort.putRowK, Go.Sort.putRow, Go.Sort.mapBlock, Go.Sort.ahead]
    have hob : ∀ k, k < w.heap.size → k ≠ g → (sortWorldK encKv 2 w g 0 n d'.toArray os).heap[k]? = w.heap[k]? := fun k hk hne => by
      unfold sortWorldK
      rw [Go.Sort.heap_grow_old _ _ (by rw [hsz]; exact hk)]
      simp [Go.Sort.putRowK, Go.Sort.putRow, Go.Sort.mapBlock, Go.Sort.ahead, Array.getElem?_modify, Ne.symm hne]
    have hgb : (sortWorldK encKv 2 w g 0 n d'.toArray os).heap[g]? = some (.cells (Go.Sort.putCells id 0 (Go.Sort.flatK encKv 2 d'.toArray) cur) 55 (0, 0)) := by
      unfold sortWorldK
      rw [Go.Sort.heap_grow_old _ _ (by rw [hsz]; exact hg)]
      simp [Go.Sort.putRowK, Go.Sort.putRow, Go.Sort.mapBlock, Go.Sort.ahead, Array.getElem?_modify, hgc, Go.Sort.onCells]
    refine ⟨⟨by rw [flat_length, kvCells_length, hd], .inr ⟨g, cap, _, rfl, hb, hgb, hnc, hm, by simp [Go.Sort.putCells, hcs], ?_⟩⟩, ?_⟩
    · rw [← flat_encKv]
      refine List.ext_getElem (by simp [Go.Sort.putCells, hcs, hd]; omega) fun t t1 t2 => ?_
      have ht : t < d'.length * 2 := by simpa using t2
      have hc := (hH' t (by simpa using ht)).1
      rw [Nat.zero_add] at hc
      unfold World.cell? at hc
      simp only [hgb] at hc
      rw [List.getElem_take, Array.getElem_toList, Array.getElem_toList]
      rw [getElem!_pos _ _ (by simpa using ht)] at hc
      have hcur : t < (Go.Sort.putCells id 0 (Go.Sort.flatK encKv 2 d'.toArray) cur).size := by simp at t1; omega
      simpa [Array.getElem?_eq_getElem hcur] using hc
    · exact ⟨rfl, rfl, rfl, by unfold sortWorldK; simp only [Go.Sort.size_grow, hsz]; omega, fun k hk hn => hob k hk (by simpa using hn)⟩

theorem agg_kv (w : World) : (isAgg 55).run Tryz.prog w = .ok true w := Tryz.isAgg55 w
theorem size_kv (w : World) : (Go.sizeOf 55).run Tryz.prog w = .ok 2 w := Tryz.sizeOf55 w
theorem enters_undone2 : ∀ args w, (callFunc 114 args).run Tryz.prog w = .ok (.enter 114 args) w := enters_of Tryz.func114 (by kernel_rfl) rfl

set_option maxHeartbeats 1000000 in
theorem ysort_any {w : World} {base g cap : Nat} (L ld : List Kv) (hlen : L.length ≤ 1000000) (hO : w.ownsRow base 55 2 (.slice (some ⟨g, 0, none⟩) L.length cap) L.length (flat (kvCells L))) (hp : L.Perm ld) (hr : Rises (ld.map Prod.fst)) :
    Calls Tryz.prog 113 #[.slice (some ⟨g, 0, none⟩) L.length cap, .func (.func 114) #[] #[]] w fun e w' => e = .returned (.tuple #[]) ∧ w'.ownsRow base 55 2 (.slice (some ⟨g, 0, none⟩) L.length cap) L.length (flat (kvCells ld)) ∧ Turn [g] w w' := by
  have hcon := AnyQ.slices_SortFunc Tryz.sortKV 2 agg_kv size_kv encKv (fun _ => rfl) (fun x v hv => by simp [encKv] at hv; rcases hv with rfl | rfl <;> rfl) (fun x y => cmp x.1 y.1) swo_kv 114 #[] g 0 cap L.toArray w enters_undone2 (cmpLays_kv g 0 L.toArray.size w) (own_holds hO) ((hO.lt g rfl).2) (by simp; omega)
  change Calls Tryz.prog 113 _ _ _ at hcon
  refine hcon.mono ?_
  rintro e w' ⟨rfl, d', n, os, hpi, hs, rfl⟩
  obtain ⟨hsz, _, hperm⟩ := hpi
  have hsz' : d'.toList.length = L.length := by simpa using hsz
  have hpl : d'.toList.Perm L := by
    have := hperm
    simp only [Array.toList_extract] at this
    simp only [List.extract, List.drop_zero, Nat.sub_zero] at this
    rwa [List.take_of_length_le (by rw [hsz']; simp), List.take_of_length_le (by simp)] at this
  have hsl : d'.toList.Pairwise fun x y => ¬ klt y.1 x.1 := by
    refine List.pairwise_iff_getElem.2 fun i j hi hj hij => ?_
    have := hs i j (Nat.zero_le _) hij (by rw [← hsz]; simpa using hj)
    rw [getElem!_pos _ _ (by simpa using hj), getElem!_pos _ _ (by simpa using hi), lt_kv] at this
    simpa using this
  have e := sorted_eq (hpl.trans hp) hsl hr
  have := own_sorted (n := n) hO d'.toList hsz' os
  rw [e] at this
  rw [show d' = ld.toArray by rw [← e]]
  exact ⟨rfl, this⟩

end Go.Proofs.YthgpjkcgccdldaaGreatDoor
