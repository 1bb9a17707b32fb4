/-
  Lists, written, walked.
-/
import Derived.Test.YtghgkjollafeiaaPlan
import Derived.Test.YtghgkjollafeiaaRec2
namespace Go.Proofs.Ytghgkjollafeiaa
open Go.RowKit

/-- Other people's blocks have not turned, nor any cell of a record's. -/
structure KeepC (O R : Nat → Prop) (w w' : World) : Prop where
  keep : Keep O w w'
  cells : ∀ x, R x → x < w.heap.size → ∀ o, w'.cell? ⟨x, o, none⟩ = w.cell? ⟨x, o, none⟩ ∧ w'.frozen? ⟨x, o, none⟩ = w.frozen? ⟨x, o, none⟩
  blk : ∀ x, R x → ∀ o u, w.cell? ⟨x, o, none⟩ = some u → w'.heap[x]? = w.heap[x]?
theorem KeepC.refl (O R : Nat → Prop) (w : World) : KeepC O R w w := ⟨Keep.refl _ _, fun _ _ _ _ => ⟨rfl, rfl⟩, fun _ _ _ _ _ => rfl⟩
theorem KeepC.trans {O R : Nat → Prop} {u v w : World} (h : KeepC O R u v) (k : KeepC O R v w) : KeepC O R u w := ⟨h.keep.trans k.keep, fun x hx hl o => ⟨(k.cells x hx (Nat.lt_of_lt_of_le hl h.keep.size) o).1.trans (h.cells x hx hl o).1, (k.cells x hx (Nat.lt_of_lt_of_le hl h.keep.size) o).2.trans (h.cells x hx hl o).2⟩, fun x hx o z hz => (k.blk x hx o z ((h.cells x hx (lt_of_cell hz) o).1.trans hz)).trans (h.blk x hx o z hz)⟩
theorem KeepC.drew {O R : Nat → Prop} {u w : World} (h : KeepC O R u w) : KeepC O R u w.drew := ⟨h.keep.drew, h.cells, h.blk⟩
theorem KeepC.less {O O' R : Nat → Prop} {w w' : World} (h : KeepC O R w w') (hO : ∀ x, O' x → O x) : KeepC O' R w w' := ⟨h.keep.less (fun x _ hx => hO x hx), h.cells, h.blk⟩
theorem KeepC.of {O R : Nat → Prop} {w w' : World} (h : Keep (fun x => O x ∨ R x) w w') : KeepC O R w w' := ⟨h.less (fun _ _ hx => .inl hx), fun _ hx hl _ => ⟨h.cell hl (.inr hx), h.fz hl (.inr hx)⟩, fun x hx _ _ hz => h.block x (lt_of_cell hz) (.inr hx)⟩
theorem KeepC.of_all {O R : Nat → Prop} {w w' : World} (h : Keep (fun _ => True) w w') : KeepC O R w w' := KeepC.of (h.less (fun _ _ _ => trivial))
/-- The same cells in the same shape: the same block. -/
theorem block_same {w w' : World} {x o : Nat} {u : Value} (hc : w.cell? ⟨x, o, none⟩ = some u) (sh : ∀ cs t fr, w.heap[x]? = some (.cells cs t fr) → ∃ cs', w'.heap[x]? = some (.cells cs' t fr) ∧ cs'.size = cs.size) (hs : ∀ o, w'.cell? ⟨x, o, none⟩ = w.cell? ⟨x, o, none⟩) : w'.heap[x]? = w.heap[x]? := by
  have hob : ∃ cs t fr, w.heap[x]? = some (.cells cs t fr) := by
    unfold World.cell? at hc
    split at hc
    · rename_i cs t fr e
      exact ⟨cs, t, fr, e⟩
    · cases hc
  obtain ⟨cs, t, fr, e⟩ := hob
  obtain ⟨cs', e', hz⟩ := sh cs t fr e
  rw [e, e']
  have hcell : ∀ q, cs'[q]? = cs[q]? := fun q => by
    have := hs q
    unfold World.cell? at this
    rw [show w.heap[(⟨x, q, none⟩ : Addr).block]? = _ from e, show w'.heap[(⟨x, q, none⟩ : Addr).block]? = _ from e'] at this
    exact this
  have : cs' = cs := Array.ext hz (fun q h1 h2 => by
    have := hcell q
    rw [Array.getElem?_eq_getElem h1, Array.getElem?_eq_getElem h2] at this
    exact Option.some.inj this)
  rw [this]
/-- A writer has turned nothing of a record. -/
theorem KeepC.step {O R : Nat → Prop} {rb off n : Nat} {w w' : World} (h : Step (fun x => O x ∨ R x) rb off n w w') (hO : ¬ O rb) (hc : ∀ o, off ≤ o → o < off + n → w'.cell? ⟨rb, o, none⟩ = w.cell? ⟨rb, o, none⟩) : KeepC O R w w' := by
  have hcr : ∀ o, w'.cell? ⟨rb, o, none⟩ = w.cell? ⟨rb, o, none⟩ := fun o => by
    by_cases ho : off ≤ o ∧ o < off + n
    · exact hc o ho.1 ho.2
    · exact h.cell o (by omega)
  refine ⟨h.keep.less (fun x _ hx => ⟨.inl hx, fun e => hO (by rw [← e]; exact hx)⟩), fun x hx hl o => ?_, fun x hx o u hu => ?_⟩
  · by_cases e : x = rb
    · subst e
      exact ⟨hcr o, h.fz o⟩
    · exact ⟨h.keep.cell hl ⟨.inr hx, e⟩, h.keep.fz hl ⟨.inr hx, e⟩⟩
  · by_cases e : x = rb
    · subst e
      exact block_same hu h.sh hcr
    · exact h.keep.block x (lt_of_cell hu) ⟨.inr hx, e⟩
/-- Ints that a writer has written stand as they did. -/
theorem ints_same {w w' : World} {rb o : Nat} {xs : List Int} (h : IntsAt w rb o xs) (h' : IntsAt w' rb o xs) : ∀ q, o ≤ q → q < o + xs.length → w'.cell? ⟨rb, q, none⟩ = w.cell? ⟨rb, q, none⟩ := fun q h1 h2 => by
  obtain ⟨i, rfl⟩ := Nat.exists_eq_add_of_le h1
  rw [h i (by omega), h' i (by omega)]

theorem mC_wr (b : Nat) (w : World) : Sem.run Try.prog (method 273 110 (.pointer (some ⟨b, 0, none⟩)) "toll/rec.count") w = .ok (86, .pointer (some ⟨b, 0, none⟩)) w := by kernel_rfl

theorem flat_le (E : Nat → List Nat) (M : Nat) : ∀ j, (∀ i, i < j → (E i).length ≤ M) → ((List.range j).flatMap E).length ≤ j * M
  | 0, _ => by simp
  | j + 1, h => by
    have ih := flat_le E M j (fun i hi => h i (by omega))
    have := h j (by omega)
    rw [List.range_succ, List.flatMap_append, List.length_append, Nat.succ_mul]
    simp only [List.flatMap_cons, List.flatMap_nil, List.append_nil]
    omega

set_option maxRecDepth 100000 in
set_option maxHeartbeats 3200000 in
/-- A list, written: how many, and each. -/
theorem wlist_lot {w : World} {O R : Nat → Prop} {b g : Nat} {l : List Nat} (rb o : Nat) (a : Option Addr) (n cap : Nat) (hn : n ≤ 255) (E : Nat → List Nat) (M : Nat) (hM : M ≤ 100000)
    (h : StAt .wr w O R b g ⟨l, 0⟩) (hl : l.length ≤ 900000000) (hR : R rb) (hc : w.cell? ⟨rb, o, none⟩ = some (.slice a n cap)) (hcap : n ≤ cap) (ha : 0 < n → ∃ ab ao, a = some ⟨ab, ao, none⟩)
    (hE : ∀ i, i < n → (E i).length ≤ M)
    (hcarry : ∀ i ab ao, i < n → a = some ⟨ab, ao, none⟩ → ∀ (O' : Nat → Prop) w' l', (∀ x, O x → O' x) → (∀ x, O' x → O x ∨ w.heap.size ≤ x) → KeepC O R w w' → StAt .wr w' O' R b g ⟨l', 0⟩ → l'.length ≤ 950000000 → Calls Try.prog 54 #[.agg #[ifc .wr b], .pointer (some ⟨ab, ao + i * 9, none⟩)] w' fun r w'' => r = .returned (.tuple #[]) ∧ StAt .wr w'' O' R b g ⟨l' ++ E i, 0⟩ ∧ KeepC O' R w' w'') :
    Calls Try.prog 53 #[.agg #[ifc .wr b], .pointer (some ⟨rb, o, none⟩), .func (.func 54) #[] #[]] w fun r w' => r = .returned (.tuple #[]) ∧ StAt .wr w' O R b g ⟨l ++ [n] ++ (List.range n).flatMap E, 0⟩ ∧ KeepC O R w w' := by
  have hrbl : rb < w.heap.size := lt_of_cell hc
  have hK0 : Keep (fun _ => True) w (w.alloc (.cells #[ifc .wr b] 77)) := (Keep.refl _ w).alloc _
  have hs0 : (w.alloc (.cells #[ifc .wr b] 77)).heap.size = w.heap.size + 1 := by simp
  have hk0 : (w.alloc (.cells #[ifc .wr b] 77)).cell? ⟨w.heap.size, 0, none⟩ = some (ifc .wr b) := World.cell?_alloc_at _ _ _ _ rfl
  have hS0 : StAt .wr (w.alloc (.cells #[ifc .wr b] 77)) (fun x => O x ∨ x = w.heap.size) R b g ⟨l, 0⟩ := h.more hK0 (fun x hx => by
    rcases hx with hx | hx
    · exact .inl hx
    · exact .inr (by omega)) (fun x hx => .inl hx) (fun x hx => .inl hx)
  have hc0 : (w.alloc (.cells #[ifc .wr b] 77)).cell? ⟨rb, o, none⟩ = some (.slice a n cap) := (hK0.cell hrbl trivial).trans hc
  obtain ⟨F, hF⟩ : ∃ F, l ++ [n] ++ (List.range n).flatMap E = F := ⟨_, rfl⟩
  rw [hF]
  have HF := hide hF
  have HK0 := hide hK0
  have HOg := hide h.og
  have HS0 := hide hS0
  have HCy := hide hcarry
  have HE := hide hE
  have HA := hide ha
  clear h hc hS0 hK0 hF hcarry hE ha
  generalize hrk : w.heap.size = rk at *
  have hrkr : rk ≠ rb := by omega
  have HC1 : Hid (∀ w1, Keep (fun _ => True) (w.alloc (.cells #[ifc .wr b] 77)) w1 → Calls Try.prog 86 #[.pointer (some ⟨b, 0, none⟩), .int .i64 (n : Nat)] w1 fun r w' => r = .returned (.int .i64 (n : Nat)) ∧ StAt .wr w' (fun x => O x ∨ x = rk) R b g ⟨l ++ [n], 0⟩ ∧ Keep (fun x => (O x ∨ x = rk) ∨ R x) w1 w') := fun w1 hK => (ccount .wr n (fun _ => hn) (HS0.out.keep hK) (fun _ => by show l.length + 0 ≤ _; omega)).mono fun r w' h => ⟨h.1, h.2.1, h.2.2.1⟩
  have h2 := mC_wr b
  go_enter Try.func53, Try.ntmps53
  go_wp2_with fail
  have HRk := hide hrk
  clear hrk
  generalize w.alloc (.cells #[ifc .wr b] 77) = w0 at *
  have hz0 : rk < w0.heap.size := by omega
  clear hs0
  dsimp only [ifc, tyOf] at hk0
  go_region_with (go_at_call 86; refine (HC1.out _ (Keep.refl _ _).drew).mono ?_; rintro e w2 ⟨rfl, hS2, hK2⟩; have HS2 := hide hS2; have HK2 := hide hK2; clear hS2 hK2)
  all_goals
    have hw2 : rk < w2.heap.size := Nat.lt_of_lt_of_le (show rk < w0.drew.heap.size from hz0) HK2.out.size
    go_wp2_with fail
    go_loopw [6, 7, 17] (fun _ _ i wr => ∃ j : Nat, j ≤ n ∧ i = .int .i64 (j : Nat) ∧ StAt .wr wr (fun x => O x ∨ x = rk) R b g ⟨l ++ [n] ++ (List.range j).flatMap E, 0⟩ ∧ KeepC (fun x => O x ∨ x = rk) R w0 wr) (fun _ _ i _ => n - (intOf i).toNat)
    case atStart => exact ⟨0, by omega, rfl, by simpa using HS2.out, (KeepC.refl _ _ w0).drew.trans (KeepC.of HK2.out)⟩
    case round =>
      obtain ⟨j, hj, rfl, hS, hK⟩ := hrel
      by_cases hlt : j < n
      · obtain ⟨ab, ao, rfl⟩ := HA.out (by omega)
        have hcr : wr.cell? ⟨rb, o, none⟩ = some (.slice (some ⟨ab, ao, none⟩) n cap) := (hK.cells rb hR (by omega) o).1.trans hc0
        have hkr : wr.cell? ⟨rk, 0, none⟩ = some (Value.iface 110 (.pointer (some ⟨b, 0, none⟩))) := (hK.keep.cell (by omega) (.inr rfl)).trans hk0
        obtain ⟨L, hL⟩ : ∃ L, l ++ [n] ++ (List.range j).flatMap E = L := ⟨_, rfl⟩
        have hLl : L.length ≤ 950000000 := by
          rw [← hL, List.length_append, List.length_append]
          have hb := flat_le E M j (fun i hi => HE.out i (by omega))
          have : j * M ≤ 255 * 100000 := Nat.mul_le_mul (by omega) hM
          show l.length + 1 + _ ≤ _
          omega
        have HT : Hid (l ++ [n] ++ (List.range (j + 1)).flatMap E = L ++ E j) := by
          show _ = _
          rw [← hL, List.range_succ, List.flatMap_append, ← List.append_assoc]
          simp
        rw [hL] at hS
        have HKw := hide (show KeepC O R w wr.drew from ((KeepC.of_all HK0.out).trans (hK.less (fun x hx => .inl hx))).drew)
        have HC := hide (HCy.out j ab ao hlt rfl (fun x => O x ∨ x = rk) wr.drew L (fun x hx => .inl hx) (fun x hx => by rcases hx with hx | hx; exact .inl hx; exact .inr (by omega)) HKw.out (hS.keep (Keep.refl _ wr).drew) hLl)
        have HK := hide hK
        have hne : ¬ ((j : Int) = (n : Int)) := by omega
        clear hS hK hL HKw HCy HE HF
        go_wp2_with fail
        go_region_with (go_at_call 54; refine HC.out.mono ?_; rintro e w5 ⟨rfl, hS5, hK5⟩; have HS5 := hide hS5; have HK5 := hide hK5; clear hS5 hK5)
        all_goals
          go_wp2_with fail
          go_roundw
          case rel => exact ⟨j + 1, hlt, by go_num, by rw [HT.out]; exact HS5.out, (HK.out.drew).trans HK5.out⟩
          case measure => simp [intOf]; omega
      · obtain rfl : j = n := by omega
        rw [HF.out] at hS
        have HS := hide (hS.less (O' := O) (R' := R) (fun x hx => .inl hx) (fun x hx => hx) HOg.out)
        have HK := hide (show KeepC O R w wr from (KeepC.of_all HK0.out).trans (hK.less (fun x hx => .inl hx)))
        clear hS hK
        go_wp2_with fail
        go_end0
        exact ⟨rfl, HS.out, HK.out⟩

set_option maxRecDepth 100000 in
set_option maxHeartbeats 3200000 in
/-- A list, written: how many, and each. -/
theorem wlist_part {w : World} {O R : Nat → Prop} {b g : Nat} {l : List Nat} (rb o : Nat) (a : Option Addr) (n cap : Nat) (hn : n ≤ 255) (E : Nat → List Nat) (M : Nat) (hM : M ≤ 100000)
    (h : StAt .wr w O R b g ⟨l, 0⟩) (hl : l.length ≤ 900000000) (hR : R rb) (hc : w.cell? ⟨rb, o, none⟩ = some (.slice a n cap)) (hcap : n ≤ cap) (ha : 0 < n → ∃ ab ao, a = some ⟨ab, ao, none⟩)
    (hE : ∀ i, i < n → (E i).length ≤ M)
    (hcarry : ∀ i ab ao, i < n → a = some ⟨ab, ao, none⟩ → ∀ (O' : Nat → Prop) w' l', (∀ x, O x → O' x) → (∀ x, O' x → O x ∨ w.heap.size ≤ x) → KeepC O R w w' → StAt .wr w' O' R b g ⟨l', 0⟩ → l'.length ≤ 950000000 → Calls Try.prog 68 #[.agg #[ifc .wr b], .pointer (some ⟨ab, ao + i * 2, none⟩)] w' fun r w'' => r = .returned (.tuple #[]) ∧ StAt .wr w'' O' R b g ⟨l' ++ E i, 0⟩ ∧ KeepC O' R w' w'') :
    Calls Try.prog 67 #[.agg #[ifc .wr b], .pointer (some ⟨rb, o, none⟩), .func (.func 68) #[] #[]] w fun r w' => r = .returned (.tuple #[]) ∧ StAt .wr w' O R b g ⟨l ++ [n] ++ (List.range n).flatMap E, 0⟩ ∧ KeepC O R w w' := by
  have hrbl : rb < w.heap.size := lt_of_cell hc
  have hK0 : Keep (fun _ => True) w (w.alloc (.cells #[ifc .wr b] 77)) := (Keep.refl _ w).alloc _
  have hs0 : (w.alloc (.cells #[ifc .wr b] 77)).heap.size = w.heap.size + 1 := by simp
  have hk0 : (w.alloc (.cells #[ifc .wr b] 77)).cell? ⟨w.heap.size, 0, none⟩ = some (ifc .wr b) := World.cell?_alloc_at _ _ _ _ rfl
  have hS0 : StAt .wr (w.alloc (.cells #[ifc .wr b] 77)) (fun x => O x ∨ x = w.heap.size) R b g ⟨l, 0⟩ := h.more hK0 (fun x hx => by
    rcases hx with hx | hx
    · exact .inl hx
    · exact .inr (by omega)) (fun x hx => .inl hx) (fun x hx => .inl hx)
  have hc0 : (w.alloc (.cells #[ifc .wr b] 77)).cell? ⟨rb, o, none⟩ = some (.slice a n cap) := (hK0.cell hrbl trivial).trans hc
  obtain ⟨F, hF⟩ : ∃ F, l ++ [n] ++ (List.range n).flatMap E = F := ⟨_, rfl⟩
  rw [hF]
  have HF := hide hF
  have HK0 := hide hK0
  have HOg := hide h.og
  have HS0 := hide hS0
  have HCy := hide hcarry
  have HE := hide hE
  have HA := hide ha
  clear h hc hS0 hK0 hF hcarry hE ha
  generalize hrk : w.heap.size = rk at *
  have hrkr : rk ≠ rb := by omega
  have HC1 : Hid (∀ w1, Keep (fun _ => True) (w.alloc (.cells #[ifc .wr b] 77)) w1 → Calls Try.prog 86 #[.pointer (some ⟨b, 0, none⟩), .int .i64 (n : Nat)] w1 fun r w' => r = .returned (.int .i64 (n : Nat)) ∧ StAt .wr w' (fun x => O x ∨ x = rk) R b g ⟨l ++ [n], 0⟩ ∧ Keep (fun x => (O x ∨ x = rk) ∨ R x) w1 w') := fun w1 hK => (ccount .wr n (fun _ => hn) (HS0.out.keep hK) (fun _ => by show l.length + 0 ≤ _; omega)).mono fun r w' h => ⟨h.1, h.2.1, h.2.2.1⟩
  have h2 := mC_wr b
  go_enter Try.func67, Try.ntmps67
  go_wp2_with fail
  have HRk := hide hrk
  clear hrk
  generalize w.alloc (.cells #[ifc .wr b] 77) = w0 at *
  have hz0 : rk < w0.heap.size := by omega
  clear hs0
  dsimp only [ifc, tyOf] at hk0
  go_region_with (go_at_call 86; refine (HC1.out _ (Keep.refl _ _).drew).mono ?_; rintro e w2 ⟨rfl, hS2, hK2⟩; have HS2 := hide hS2; have HK2 := hide hK2; clear hS2 hK2)
  all_goals
    have hw2 : rk < w2.heap.size := Nat.lt_of_lt_of_le (show rk < w0.drew.heap.size from hz0) HK2.out.size
    go_wp2_with fail
    go_loopw [6, 7, 17] (fun _ _ i wr => ∃ j : Nat, j ≤ n ∧ i = .int .i64 (j : Nat) ∧ StAt .wr wr (fun x => O x ∨ x = rk) R b g ⟨l ++ [n] ++ (List.range j).flatMap E, 0⟩ ∧ KeepC (fun x => O x ∨ x = rk) R w0 wr) (fun _ _ i _ => n - (intOf i).toNat)
    case atStart => exact ⟨0, by omega, rfl, by simpa using HS2.out, (KeepC.refl _ _ w0).drew.trans (KeepC.of HK2.out)⟩
    case round =>
      obtain ⟨j, hj, rfl, hS, hK⟩ := hrel
      by_cases hlt : j < n
      · obtain ⟨ab, ao, rfl⟩ := HA.out (by omega)
        have hcr : wr.cell? ⟨rb, o, none⟩ = some (.slice (some ⟨ab, ao, none⟩) n cap) := (hK.cells rb hR (by omega) o).1.trans hc0
        have hkr : wr.cell? ⟨rk, 0, none⟩ = some (Value.iface 110 (.pointer (some ⟨b, 0, none⟩))) := (hK.keep.cell (by omega) (.inr rfl)).trans hk0
        obtain ⟨L, hL⟩ : ∃ L, l ++ [n] ++ (List.range j).flatMap E = L := ⟨_, rfl⟩
        have hLl : L.length ≤ 950000000 := by
          rw [← hL, List.length_append, List.length_append]
          have hb := flat_le E M j (fun i hi => HE.out i (by omega))
          have : j * M ≤ 255 * 100000 := Nat.mul_le_mul (by omega) hM
          show l.length + 1 + _ ≤ _
          omega
        have HT : Hid (l ++ [n] ++ (List.range (j + 1)).flatMap E = L ++ E j) := by
          show _ = _
          rw [← hL, List.range_succ, List.flatMap_append, ← List.append_assoc]
          simp
        rw [hL] at hS
        have HKw := hide (show KeepC O R w wr.drew from ((KeepC.of_all HK0.out).trans (hK.less (fun x hx => .inl hx))).drew)
        have HC := hide (HCy.out j ab ao hlt rfl (fun x => O x ∨ x = rk) wr.drew L (fun x hx => .inl hx) (fun x hx => by rcases hx with hx | hx; exact .inl hx; exact .inr (by omega)) HKw.out (hS.keep (Keep.refl _ wr).drew) hLl)
        have HK := hide hK
        have hne : ¬ ((j : Int) = (n : Int)) := by omega
        clear hS hK hL HKw HCy HE HF
        go_wp2_with fail
        go_region_with (go_at_call 68; refine HC.out.mono ?_; rintro e w5 ⟨rfl, hS5, hK5⟩; have HS5 := hide hS5; have HK5 := hide hK5; clear hS5 hK5)
        all_goals
          go_wp2_with fail
          go_roundw
          case rel => exact ⟨j + 1, hlt, by go_num, by rw [HT.out]; exact HS5.out, (HK.out.drew).trans HK5.out⟩
          case measure => simp [intOf]; omega
      · obtain rfl : j = n := by omega
        rw [HF.out] at hS
        have HS := hide (hS.less (O' := O) (R' := R) (fun x hx => .inl hx) (fun x hx => hx) HOg.out)
        have HK := hide (show KeepC O R w wr from (KeepC.of_all HK0.out).trans (hK.less (fun x hx => .inl hx)))
        clear hS hK
        go_wp2_with fail
        go_end0
        exact ⟨rfl, HS.out, HK.out⟩

set_option maxRecDepth 100000 in
set_option maxHeartbeats 3200000 in
/-- A list, written: how many, and each. -/
theorem wlist_hold {w : World} {O R : Nat → Prop} {b g : Nat} {l : List Nat} (rb o : Nat) (a : Option Addr) (n cap : Nat) (hn : n ≤ 255) (E : Nat → List Nat) (M : Nat) (hM : M ≤ 100000)
    (h : StAt .wr w O R b g ⟨l, 0⟩) (hl : l.length ≤ 700000000) (hR : R rb) (hc : w.cell? ⟨rb, o, none⟩ = some (.slice a n cap)) (hcap : n ≤ cap) (ha : 0 < n → ∃ ab ao, a = some ⟨ab, ao, none⟩)
    (hE : ∀ i, i < n → (E i).length ≤ M)
    (hcarry : ∀ i ab ao, i < n → a = some ⟨ab, ao, none⟩ → ∀ (O' : Nat → Prop) w' l', (∀ x, O x → O' x) → (∀ x, O' x → O x ∨ w.heap.size ≤ x) → KeepC O R w w' → StAt .wr w' O' R b g ⟨l', 0⟩ → l'.length ≤ 750000000 → Calls Try.prog 56 #[.agg #[ifc .wr b], .pointer (some ⟨ab, ao + i * 4, none⟩)] w' fun r w'' => r = .returned (.tuple #[]) ∧ StAt .wr w'' O' R b g ⟨l' ++ E i, 0⟩ ∧ KeepC O' R w' w'') :
    Calls Try.prog 55 #[.agg #[ifc .wr b], .pointer (some ⟨rb, o, none⟩), .func (.func 56) #[] #[]] w fun r w' => r = .returned (.tuple #[]) ∧ StAt .wr w' O R b g ⟨l ++ [n] ++ (List.range n).flatMap E, 0⟩ ∧ KeepC O R w w' := by
  have hrbl : rb < w.heap.size := lt_of_cell hc
  have hK0 : Keep (fun _ => True) w (w.alloc (.cells #[ifc .wr b] 77)) := (Keep.refl _ w).alloc _
  have hs0 : (w.alloc (.cells #[ifc .wr b] 77)).heap.size = w.heap.size + 1 := by simp
  have hk0 : (w.alloc (.cells #[ifc .wr b] 77)).cell? ⟨w.heap.size, 0, none⟩ = some (ifc .wr b) := World.cell?_alloc_at _ _ _ _ rfl
  have hS0 : StAt .wr (w.alloc (.cells #[ifc .wr b] 77)) (fun x => O x ∨ x = w.heap.size) R b g ⟨l, 0⟩ := h.more hK0 (fun x hx => by
    rcases hx with hx | hx
    · exact .inl hx
    · exact .inr (by omega)) (fun x hx => .inl hx) (fun x hx => .inl hx)
  have hc0 : (w.alloc (.cells #[ifc .wr b] 77)).cell? ⟨rb, o, none⟩ = some (.slice a n cap) := (hK0.cell hrbl trivial).trans hc
  obtain ⟨F, hF⟩ : ∃ F, l ++ [n] ++ (List.range n).flatMap E = F := ⟨_, rfl⟩
  rw [hF]
  have HF := hide hF
  have HK0 := hide hK0
  have HOg := hide h.og
  have HS0 := hide hS0
  have HCy := hide hcarry
  have HE := hide hE
  have HA := hide ha
  clear h hc hS0 hK0 hF hcarry hE ha
  generalize hrk : w.heap.size = rk at *
  have hrkr : rk ≠ rb := by omega
  have HC1 : Hid (∀ w1, Keep (fun _ => True) (w.alloc (.cells #[ifc .wr b] 77)) w1 → Calls Try.prog 86 #[.pointer (some ⟨b, 0, none⟩), .int .i64 (n : Nat)] w1 fun r w' => r = .returned (.int .i64 (n : Nat)) ∧ StAt .wr w' (fun x => O x ∨ x = rk) R b g ⟨l ++ [n], 0⟩ ∧ Keep (fun x => (O x ∨ x = rk) ∨ R x) w1 w') := fun w1 hK => (ccount .wr n (fun _ => hn) (HS0.out.keep hK) (fun _ => by show l.length + 0 ≤ _; omega)).mono fun r w' h => ⟨h.1, h.2.1, h.2.2.1⟩
  have h2 := mC_wr b
  go_enter Try.func55, Try.ntmps55
  go_wp2_with fail
  have HRk := hide hrk
  clear hrk
  generalize w.alloc (.cells #[ifc .wr b] 77) = w0 at *
  have hz0 : rk < w0.heap.size := by omega
  clear hs0
  dsimp only [ifc, tyOf] at hk0
  go_region_with (go_at_call 86; refine (HC1.out _ (Keep.refl _ _).drew).mono ?_; rintro e w2 ⟨rfl, hS2, hK2⟩; have HS2 := hide hS2; have HK2 := hide hK2; clear hS2 hK2)
  all_goals
    have hw2 : rk < w2.heap.size := Nat.lt_of_lt_of_le (show rk < w0.drew.heap.size from hz0) HK2.out.size
    go_wp2_with fail
    go_loopw [6, 7, 17] (fun _ _ i wr => ∃ j : Nat, j ≤ n ∧ i = .int .i64 (j : Nat) ∧ StAt .wr wr (fun x => O x ∨ x = rk) R b g ⟨l ++ [n] ++ (List.range j).flatMap E, 0⟩ ∧ KeepC (fun x => O x ∨ x = rk) R w0 wr) (fun _ _ i _ => n - (intOf i).toNat)
    case atStart => exact ⟨0, by omega, rfl, by simpa using HS2.out, (KeepC.refl _ _ w0).drew.trans (KeepC.of HK2.out)⟩
    case round =>
      obtain ⟨j, hj, rfl, hS, hK⟩ := hrel
      by_cases hlt : j < n
      · obtain ⟨ab, ao, rfl⟩ := HA.out (by omega)
        have hcr : wr.cell? ⟨rb, o, none⟩ = some (.slice (some ⟨ab, ao, none⟩) n cap) := (hK.cells rb hR (by omega) o).1.trans hc0
        have hkr : wr.cell? ⟨rk, 0, none⟩ = some (Value.iface 110 (.pointer (some ⟨b, 0, none⟩))) := (hK.keep.cell (by omega) (.inr rfl)).trans hk0
        obtain ⟨L, hL⟩ : ∃ L, l ++ [n] ++ (List.range j).flatMap E = L := ⟨_, rfl⟩
        have hLl : L.length ≤ 750000000 := by
          rw [← hL, List.length_append, List.length_append]
          have hb := flat_le E M j (fun i hi => HE.out i (by omega))
          have : j * M ≤ 255 * 100000 := Nat.mul_le_mul (by omega) hM
          show l.length + 1 + _ ≤ _
          omega
        have HT : Hid (l ++ [n] ++ (List.range (j + 1)).flatMap E = L ++ E j) := by
          show _ = _
          rw [← hL, List.range_succ, List.flatMap_append, ← List.append_assoc]
          simp
        rw [hL] at hS
        have HKw := hide (show KeepC O R w wr.drew from ((KeepC.of_all HK0.out).trans (hK.less (fun x hx => .inl hx))).drew)
        have HC := hide (HCy.out j ab ao hlt rfl (fun x => O x ∨ x = rk) wr.drew L (fun x hx => .inl hx) (fun x hx => by rcases hx with hx | hx; exact .inl hx; exact .inr (by omega)) HKw.out (hS.keep (Keep.refl _ wr).drew) hLl)
        have HK := hide hK
        have hne : ¬ ((j : Int) = (n : Int)) := by omega
        clear hS hK hL HKw HCy HE HF
        go_wp2_with fail
        go_region_with (go_at_call 56; refine HC.out.mono ?_; rintro e w5 ⟨rfl, hS5, hK5⟩; have HS5 := hide hS5; have HK5 := hide hK5; clear hS5 hK5)
        all_goals
          go_wp2_with fail
          go_roundw
          case rel => exact ⟨j + 1, hlt, by go_num, by rw [HT.out]; exact HS5.out, (HK.out.drew).trans HK5.out⟩
          case measure => simp [intOf]; omega
      · obtain rfl : j = n := by omega
        rw [HF.out] at hS
        have HS := hide (hS.less (O' := O) (R' := R) (fun x hx => .inl hx) (fun x hx => hx) HOg.out)
        have HK := hide (show KeepC O R w wr from (KeepC.of_all HK0.out).trans (hK.less (fun x hx => .inl hx)))
        clear hS hK
        go_wp2_with fail
        go_end0
        exact ⟨rfl, HS.out, HK.out⟩

set_option maxRecDepth 100000 in
set_option maxHeartbeats 3200000 in
/-- A list, written: how many, and each. -/
theorem wlist_entry {w : World} {O R : Nat → Prop} {b g : Nat} {l : List Nat} (rb o : Nat) (a : Option Addr) (n cap : Nat) (hn : n ≤ 255) (E : Nat → List Nat) (M : Nat) (hM : M ≤ 100000)
    (h : StAt .wr w O R b g ⟨l, 0⟩) (hl : l.length ≤ 900000000) (hR : R rb) (hc : w.cell? ⟨rb, o, none⟩ = some (.slice a n cap)) (hcap : n ≤ cap) (ha : 0 < n → ∃ ab ao, a = some ⟨ab, ao, none⟩)
    (hE : ∀ i, i < n → (E i).length ≤ M)
    (hcarry : ∀ i ab ao, i < n → a = some ⟨ab, ao, none⟩ → ∀ (O' : Nat → Prop) w' l', (∀ x, O x → O' x) → (∀ x, O' x → O x ∨ w.heap.size ≤ x) → KeepC O R w w' → StAt .wr w' O' R b g ⟨l', 0⟩ → l'.length ≤ 950000000 → Calls Try.prog 58 #[.agg #[ifc .wr b], .pointer (some ⟨ab, ao + i * 14, none⟩)] w' fun r w'' => r = .returned (.tuple #[]) ∧ StAt .wr w'' O' R b g ⟨l' ++ E i, 0⟩ ∧ KeepC O' R w' w'') :
    Calls Try.prog 57 #[.agg #[ifc .wr b], .pointer (some ⟨rb, o, none⟩), .func (.func 58) #[] #[]] w fun r w' => r = .returned (.tuple #[]) ∧ StAt .wr w' O R b g ⟨l ++ [n] ++ (List.range n).flatMap E, 0⟩ ∧ KeepC O R w w' := by
  have hrbl : rb < w.heap.size := lt_of_cell hc
  have hK0 : Keep (fun _ => True) w (w.alloc (.cells #[ifc .wr b] 77)) := (Keep.refl _ w).alloc _
  have hs0 : (w.alloc (.cells #[ifc .wr b] 77)).heap.size = w.heap.size + 1 := by simp
  have hk0 : (w.alloc (.cells #[ifc .wr b] 77)).cell? ⟨w.heap.size, 0, none⟩ = some (ifc .wr b) := World.cell?_alloc_at _ _ _ _ rfl
  have hS0 : StAt .wr (w.alloc (.cells #[ifc .wr b] 77)) (fun x => O x ∨ x = w.heap.size) R b g ⟨l, 0⟩ := h.more hK0 (fun x hx => by
    rcases hx with hx | hx
    · exact .inl hx
    · exact .inr (by omega)) (fun x hx => .inl hx) (fun x hx => .inl hx)
  have hc0 : (w.alloc (.cells #[ifc .wr b] 77)).cell? ⟨rb, o, none⟩ = some (.slice a n cap) := (hK0.cell hrbl trivial).trans hc
  obtain ⟨F, hF⟩ : ∃ F, l ++ [n] ++ (List.range n).flatMap E = F := ⟨_, rfl⟩
  rw [hF]
  have HF := hide hF
  have HK0 := hide hK0
  have HOg := hide h.og
  have HS0 := hide hS0
  have HCy := hide hcarry
  have HE := hide hE
  have HA := hide ha
  clear h hc hS0 hK0 hF hcarry hE ha
  generalize hrk : w.heap.size = rk at *
  have hrkr : rk ≠ rb := by omega
  have HC1 : Hid (∀ w1, Keep (fun _ => True) (w.alloc (.cells #[ifc .wr b] 77)) w1 → Calls Try.prog 86 #[.pointer (some ⟨b, 0, none⟩), .int .i64 (n : Nat)] w1 fun r w' => r = .returned (.int .i64 (n : Nat)) ∧ StAt .wr w' (fun x => O x ∨ x = rk) R b g ⟨l ++ [n], 0⟩ ∧ Keep (fun x => (O x ∨ x = rk) ∨ R x) w1 w') := fun w1 hK => (ccount .wr n (fun _ => hn) (HS0.out.keep hK) (fun _ => by show l.length + 0 ≤ _; omega)).mono fun r w' h => ⟨h.1, h.2.1, h.2.2.1⟩
  have h2 := mC_wr b
  go_enter Try.func57, Try.ntmps57
  go_wp2_with fail
  have HRk := hide hrk
  clear hrk
  generalize w.alloc (.cells #[ifc .wr b] 77) = w0 at *
  have hz0 : rk < w0.heap.size := by omega
  clear hs0
  dsimp only [ifc, tyOf] at hk0
  go_region_with (go_at_call 86; refine (HC1.out _ (Keep.refl _ _).drew).mono ?_; rintro e w2 ⟨rfl, hS2, hK2⟩; have HS2 := hide hS2; have HK2 := hide hK2; clear hS2 hK2)
  all_goals
    have hw2 : rk < w2.heap.size := Nat.lt_of_lt_of_le (show rk < w0.drew.heap.size from hz0) HK2.out.size
    go_wp2_with fail
    go_loopw [6, 7, 17] (fun _ _ i wr => ∃ j : Nat, j ≤ n ∧ i = .int .i64 (j : Nat) ∧ StAt .wr wr (fun x => O x ∨ x = rk) R b g ⟨l ++ [n] ++ (List.range j).flatMap E, 0⟩ ∧ KeepC (fun x => O x ∨ x = rk) R w0 wr) (fun _ _ i _ => n - (intOf i).toNat)
    case atStart => exact ⟨0, by omega, rfl, by simpa using HS2.out, (KeepC.refl _ _ w0).drew.trans (KeepC.of HK2.out)⟩
    case round =>
      obtain ⟨j, hj, rfl, hS, hK⟩ := hrel
      by_cases hlt : j < n
      · obtain ⟨ab, ao, rfl⟩ := HA.out (by omega)
        have hcr : wr.cell? ⟨rb, o, none⟩ = some (.slice (some ⟨ab, ao, none⟩) n cap) := (hK.cells rb hR (by omega) o).1.trans hc0
        have hkr : wr.cell? ⟨rk, 0, none⟩ = some (Value.iface 110 (.pointer (some ⟨b, 0, none⟩))) := (hK.keep.cell (by omega) (.inr rfl)).trans hk0
        obtain ⟨L, hL⟩ : ∃ L, l ++ [n] ++ (List.range j).flatMap E = L := ⟨_, rfl⟩
        have hLl : L.length ≤ 950000000 := by
          rw [← hL, List.length_append, List.length_append]
          have hb := flat_le E M j (fun i hi => HE.out i (by omega))
          have : j * M ≤ 255 * 100000 := Nat.mul_le_mul (by omega) hM
          show l.length + 1 + _ ≤ _
          omega
        have HT : Hid (l ++ [n] ++ (List.range (j + 1)).flatMap E = L ++ E j) := by
          show _ = _
          rw [← hL, List.range_succ, List.flatMap_append, ← List.append_assoc]
          simp
        rw [hL] at hS
        have HKw := hide (show KeepC O R w wr.drew from ((KeepC.of_all HK0.out).trans (hK.less (fun x hx => .inl hx))).drew)
        have HC := hide (HCy.out j ab ao hlt rfl (fun x => O x ∨ x = rk) wr.drew L (fun x hx => .inl hx) (fun x hx => by rcases hx with hx | hx; exact .inl hx; exact .inr (by omega)) HKw.out (hS.keep (Keep.refl _ wr).drew) hLl)
        have HK := hide hK
        have hne : ¬ ((j : Int) = (n : Int)) := by omega
        clear hS hK hL HKw HCy HE HF
        go_wp2_with fail
        go_region_with (go_at_call 58; refine HC.out.mono ?_; rintro e w5 ⟨rfl, hS5, hK5⟩; have HS5 := hide hS5; have HK5 := hide hK5; clear hS5 hK5)
        all_goals
          go_wp2_with fail
          go_roundw
          case rel => exact ⟨j + 1, hlt, by go_num, by rw [HT.out]; exact HS5.out, (HK.out.drew).trans HK5.out⟩
          case measure => simp [intOf]; omega
      · obtain rfl : j = n := by omega
        rw [HF.out] at hS
        have HS := hide (hS.less (O' := O) (R' := R) (fun x hx => .inl hx) (fun x hx => hx) HOg.out)
        have HK := hide (show KeepC O R w wr from (KeepC.of_all HK0.out).trans (hK.less (fun x hx => .inl hx)))
        clear hS hK
        go_wp2_with fail
        go_end0
        exact ⟨rfl, HS.out, HK.out⟩
end Go.Proofs.Ytghgkjollafeiaa
