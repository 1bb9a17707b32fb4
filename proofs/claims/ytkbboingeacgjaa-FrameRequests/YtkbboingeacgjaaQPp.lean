/-
  ParsePlan, ParseStatement, SamePlan; there and back.
-/
import Derived.Test.YtkbboingeacgjaaQPar
import Derived.Test.YtkbboingeacgjaaQRef2
namespace Go.Proofs.Ytkbboingeacgjaa
open Go.RowKit

theorem takeS_front (l r : List Nat) (n : Nat) (h : l.length = n) : takeS ⟨l ++ r, 0⟩ n = (⟨r, 0⟩, l) := by
  unfold takeS
  rw [if_neg (by simp), if_neg (by simp; omega)]
  simp [← h]

theorem textS_back (nm : ByteArray) (r : List Nat) (t : ByteArray) : textS .pr ⟨[nm.size] ++ natBytes nm ++ r, 0⟩ t = (⟨r, 0⟩, nm) := by
  have h1 : countS .pr ⟨[nm.size] ++ natBytes nm ++ r, 0⟩ 0 = (⟨natBytes nm ++ r, 0⟩, nm.size) := by
    show ((takeS ⟨[nm.size] ++ natBytes nm ++ r, 0⟩ 1).1, (takeS ⟨[nm.size] ++ natBytes nm ++ r, 0⟩ 1).2.headD 0) = _
    rw [List.append_assoc, takeS_front [nm.size] (natBytes nm ++ r) 1 rfl]
    rfl
  show ((takeS (countS .pr ⟨[nm.size] ++ natBytes nm ++ r, 0⟩ 0).1 (countS .pr ⟨[nm.size] ++ natBytes nm ++ r, 0⟩ 0).2).1, textOf (takeS (countS .pr ⟨[nm.size] ++ natBytes nm ++ r, 0⟩ 0).1 (countS .pr ⟨[nm.size] ++ natBytes nm ++ r, 0⟩ 0).2).2) = _
  rw [h1]
  show ((takeS ⟨natBytes nm ++ r, 0⟩ nm.size).1, textOf (takeS ⟨natBytes nm ++ r, 0⟩ nm.size).2) = _
  rw [takeS_front (natBytes nm) r nm.size (natBytes_length nm)]
  show ((⟨r, 0⟩ : Sx), textOf (natBytes nm)) = _
  rw [textOf_nat]

def I64 (x : Int) : Prop := -9223372036854775808 ≤ x ∧ x ≤ 9223372036854775807

theorem numsS_back (xs : List Int) (r : List Nat) (h : ∀ x ∈ xs, I64 x) : ∀ zs : List Int, zs.length = xs.length → numsS .pr ⟨xs.flatMap be8 ++ r, 0⟩ zs = (⟨r, 0⟩, xs) := by
  induction xs with
  | nil => intro zs hz; obtain rfl := List.eq_nil_of_length_eq_zero hz; rfl
  | cons x xs ih =>
    intro zs hz
    match zs, hz with
    | z :: zs, hz =>
      have h1 : numS .pr ⟨(x :: xs).flatMap be8 ++ r, 0⟩ z = (⟨xs.flatMap be8 ++ r, 0⟩, x) := by
        show ((takeS ⟨(x :: xs).flatMap be8 ++ r, 0⟩ 8).1, i64of (beNum (takeS ⟨(x :: xs).flatMap be8 ++ r, 0⟩ 8).2)) = _
        rw [List.flatMap_cons, List.append_assoc, takeS_front (be8 x) _ 8 (be8_length x)]
        have := h x (by simp)
        show (_, i64of (beNum (be8 x))) = _
        rw [i64of_be8 x this.1 this.2]
      unfold numsS
      rw [h1, ih (fun y hy => h y (by simp [hy])) zs (by simpa using hz)]

theorem tiS_back (nm : ByteArray) (xs : List Int) (r : List Nat) (t : ByteArray) (zs : List Int) (h : ∀ x ∈ xs, I64 x) (hz : zs.length = xs.length) : tiS .pr ⟨tiB nm xs ++ r, 0⟩ t zs = (⟨r, 0⟩, nm, xs) := by
  unfold tiS tiB
  rw [List.append_assoc, textS_back nm (xs.flatMap be8 ++ r) t]
  show ((numsS .pr ⟨xs.flatMap be8 ++ r, 0⟩ zs).1, nm, (numsS .pr ⟨xs.flatMap be8 ++ r, 0⟩ zs).2) = _
  rw [numsS_back xs r h zs hz]

theorem parsed_back (nm : ByteArray) (xs : List Int) (n : Nat) (hn : xs.length = n) (h : ∀ x ∈ xs, I64 x) : parsedTi n (tiB nm xs) = (0, nm, xs) := by
  have e := tiS_back nm xs [] noText (List.replicate n 0) h (by simp [hn])
  rw [List.append_nil] at e
  unfold parsedTi
  rw [e]
  rfl

set_option maxRecDepth 100000 in
set_option maxHeartbeats 3200000 in
theorem pplan {w : World} (a : Option Addr) (cap n : Nat) (l : List Nat) (hn : l.length = n) (hB : BytesAt w a l) (hlc : n ≤ cap) (hcm : cap ≤ maxLen) (ha : a = none ∧ cap = 0 ∨ ∃ ab ao, a = some ⟨ab, ao, none⟩) (hl : ∀ x ∈ l, x < 256) :
    Calls Try.prog 89 #[.slice a n cap] w fun r w' => ∃ f nm y1 y2 y3 y4 y5 y6 y7 y8 y9, parsedTi 9 l = (f, nm, [y1, y2, y3, y4, y5, y6, y7, y8, y9]) ∧ r = .returned (.tuple #[.agg #[.string nm, .int .i64 y1, .int .i64 y2, .int .i64 y3, .int .i64 y4, .int .i64 y5, .int .i64 y6, .int .i64 y7, .int .i64 y8, .int .i64 y9], .int .i64 (f : Nat)]) ∧ Turn [] w w' := by
  have hK0 : Keep (fun _ => True) w (w.alloc (.cells #[Value.string { data := #[] }, Value.int .i64 0, Value.int .i64 0, Value.int .i64 0, Value.int .i64 0, Value.int .i64 0, Value.int .i64 0, Value.int .i64 0, Value.int .i64 0, Value.int .i64 0] 23)) := (Keep.refl _ w).alloc _
  have hC := parse_plan (w := w.alloc (.cells #[Value.string { data := #[] }, Value.int .i64 0, Value.int .i64 0, Value.int .i64 0, Value.int .i64 0, Value.int .i64 0, Value.int .i64 0, Value.int .i64 0, Value.int .i64 0, Value.int .i64 0] 23)) a cap n l hn (hK0.bytes hB (fun _ _ _ => trivial)) hlc hcm ha hl
  have hs0 : (w.alloc (.cells #[Value.string { data := #[] }, Value.int .i64 0, Value.int .i64 0, Value.int .i64 0, Value.int .i64 0, Value.int .i64 0, Value.int .i64 0, Value.int .i64 0, Value.int .i64 0, Value.int .i64 0] 23)).heap.size = w.heap.size + 1 := by simp
  have hcell : ∀ i u, #[Value.string { data := #[] }, Value.int .i64 0, Value.int .i64 0, Value.int .i64 0, Value.int .i64 0, Value.int .i64 0, Value.int .i64 0, Value.int .i64 0, Value.int .i64 0, Value.int .i64 0][i]? = some u → (w.alloc (.cells #[Value.string { data := #[] }, Value.int .i64 0, Value.int .i64 0, Value.int .i64 0, Value.int .i64 0, Value.int .i64 0, Value.int .i64 0, Value.int .i64 0, Value.int .i64 0, Value.int .i64 0] 23)).cell? ⟨w.heap.size, i, none⟩ = some u := fun i u hu => (World.cell?_alloc_at _ _ _ _ rfl).trans hu
  have hfz : ∀ o, (w.alloc (.cells #[Value.string { data := #[] }, Value.int .i64 0, Value.int .i64 0, Value.int .i64 0, Value.int .i64 0, Value.int .i64 0, Value.int .i64 0, Value.int .i64 0, Value.int .i64 0, Value.int .i64 0] 23)).frozen? ⟨w.heap.size, o, none⟩ = false := fun o => by
    unfold World.frozen?
    rw [show (w.alloc _).heap[(⟨w.heap.size, o, none⟩ : Addr).block]? = _ from heap_alloc_new w _]
    simp
  generalize parsedTi 9 l = pt at *
  have HC := hide hC
  have HK := hide hK0
  have HCe := hide hcell
  have HFz := hide hfz
  have HS0 := hide hs0
  clear hC hK0 hcell hfz hs0 hB hlc hcm ha hl hn
  go_enter Try.func89, Try.ntmps89
  go_wp2_with fail
  refine HC.out.mono ?_
  rintro e w1 ⟨f, nm, y1, y2, y3, y4, y5, y6, y7, y8, y9, hpt, rfl, hT1⟩
  have hce : ∀ i u, #[Value.string { data := #[] }, Value.int .i64 0, Value.int .i64 0, Value.int .i64 0, Value.int .i64 0, Value.int .i64 0, Value.int .i64 0, Value.int .i64 0, Value.int .i64 0, Value.int .i64 0][i]? = some u → w1.cell? ⟨w.heap.size, i, none⟩ = some u := fun i u hu => (hT1.cell (p := ⟨w.heap.size, i, none⟩) (by rw [HS0.out]; exact Nat.lt_succ_self _) (by simp)).trans (HCe.out i u hu)
  have r0 := hce 0 _ rfl
  have r1 := hce 1 _ rfl
  have r2 := hce 2 _ rfl
  have r3 := hce 3 _ rfl
  have r4 := hce 4 _ rfl
  have r5 := hce 5 _ rfl
  have r6 := hce 6 _ rfl
  have r7 := hce 7 _ rfl
  have r8 := hce 8 _ rfl
  have r9 := hce 9 _ rfl
  have fz : ∀ o, w1.frozen? ⟨w.heap.size, o, none⟩ = false := fun o => (World.frozen?_of_block (a := ⟨w.heap.size, o, none⟩) (hT1.block w.heap.size (by rw [HS0.out]; exact Nat.lt_succ_self _) (by simp))).trans (HFz.out o)
  have HT := hide ((HK.out.turn (fun _ _ => trivial)).trans hT1)
  have HP := hide hpt
  clear hpt hT1 hce HC HK HCe HFz HS0
  go_wp2_with fail
  refine bodyPost_ret (v := .tuple #[.agg #[.string nm, .int .i64 y1, .int .i64 y2, .int .i64 y3, .int .i64 y4, .int .i64 y5, .int .i64 y6, .int .i64 y7, .int .i64 y8, .int .i64 y9], .int .i64 (f : Nat)]) ?_ rfl ?_
  · simp [results, Try.results89, go_sem, r0, r1, r2, r3, r4, r5, r6, r7, r8, r9]
  · refine ⟨f, nm, y1, y2, y3, y4, y5, y6, y7, y8, y9, HP.out, ?_, ?_⟩
    · rfl
    · exact ((((((((((HT.out.setNew (Nat.le_refl _) _ _).setNew (Nat.le_refl _) _ _).setNew (Nat.le_refl _) _ _).setNew (Nat.le_refl _) _ _).setNew (Nat.le_refl _) _ _).setNew (Nat.le_refl _) _ _).setNew (Nat.le_refl _) _ _).setNew (Nat.le_refl _) _ _).setNew (Nat.le_refl _) _ _).setNew (Nat.le_refl _) _ _)

end Go.Proofs.Ytkbboingeacgjaa
