/-
  The law's names: one for each number, of three letters.
-/
import Derived.Test.YthgpjkcgccdldaaGreatDoorV41
import Derived.Test.YthgpjkcgccdldaaGreatDoorV14

namespace Go.Proofs.YthgpjkcgccdldaaGreatDoor
open Go.RowKit Go.Maps

def nm (n : Nat) : ByteArray := textOf [97 + n % 26, 97 + n / 26 % 26, 97 + n / 676 % 26]
theorem ofNat_inj {a b : Nat} (ha : a < 256) (hb : b < 256) (h : UInt8.ofNat a = UInt8.ofNat b) : a = b := by
  have := congrArg UInt8.toNat h
  simp at this
  omega
theorem nm_inj {n m : Nat} (hn : n < 17576) (hm : m < 17576) (h : nm n = nm m) : n = m := by
  have h1 : ([97 + n % 26, 97 + n / 26 % 26, 97 + n / 676 % 26].map fun x : Nat => UInt8.ofNat x) = [97 + m % 26, 97 + m / 26 % 26, 97 + m / 676 % 26].map fun x : Nat => UInt8.ofNat x := by
    have h0 := congrArg (fun s : ByteArray => s.data.toList) h
    exact h0
  injection h1 with e1 h1
  injection h1 with e2 h1
  injection h1 with e3 _
  have e1 := ofNat_inj (by omega) (by omega) e1
  have e2 := ofNat_inj (by omega) (by omega) e2
  have e3 := ofNat_inj (by omega) (by omega) e3
  omega

theorem putK_mem {l : List Kv} {k v : ByteArray} {x : Kv} (h : x ∈ putK l k v) : x = (k, v) ∨ x ∈ l := by
  unfold putK at h
  rcases List.mem_append.1 h with h | h
  · exact .inr (List.mem_filter.1 h).1
  · rcases List.mem_cons.1 h with h | h
    · exact .inl h
    · exact .inr (List.mem_filter.1 h).1
theorem getK_absent {l : List Kv} {k : ByteArray} (h : ∀ x ∈ l, x.1 ≠ k) : getK l k = none := by
  unfold getK
  rw [List.find?_eq_none.2 fun x hx => by simpa using h x hx]
  rfl
/-- The law's Put is what a Put makes. -/
theorem put_law {l : List Kv} {k v : ByteArray} {i : Nat} (hp : IsPos (keysOf (lawDel l k)) k i) : (lawDel l k).take i ++ [(k, v)] ++ (lawDel l k).drop i = putK l k v := by
  obtain ⟨h1, h2, h3⟩ := hp
  have g1 : ∀ x ∈ (lawDel l k).take i, klt x.1 k := fun x hx => by
    obtain ⟨m, hm, rfl⟩ := List.mem_take_iff_getElem.1 hx
    have := h2 m (by rw [keysOf_length]; omega) (by omega)
    rw [keysOf_get (by omega)] at this
    exact this
  have g2 : ∀ x ∈ (lawDel l k).drop i, ¬ klt x.1 k := fun x hx => by
    obtain ⟨m, hm, rfl⟩ := List.mem_drop_iff_getElem.1 hx
    have := h3 (i + m) (by rw [keysOf_length]; omega) (by omega)
    rw [keysOf_get (by omega)] at this
    exact this
  have e1 : (lawDel l k).filter (fun x => decide (klt x.1 k)) = (lawDel l k).take i := by
    conv => lhs; rw [← List.take_append_drop i (lawDel l k)]
    rw [List.filter_append, filter_all fun x hx => decide_eq_true (g1 x hx), filter_none fun x hx => decide_eq_false (g2 x hx), List.append_nil]
  have e2 : (lawDel l k).filter (fun x => !decide (klt x.1 k)) = (lawDel l k).drop i := by
    conv => lhs; rw [← List.take_append_drop i (lawDel l k)]
    rw [List.filter_append, filter_none (l := (lawDel l k).take i) (p := fun x => !decide (klt x.1 k)) (fun x hx => by simp [g1 x hx]), filter_all fun x hx => by simp [g2 x hx], List.nil_append]
  rw [← e1, ← e2]
  unfold lawDel putK
  rw [List.filter_filter, List.filter_filter, List.append_assoc]
  refine congr (congrArg _ (List.filter_congr fun x _ => ?_)) (congrArg ((k, v) :: ·) (List.filter_congr fun x _ => ?_))
  · by_cases h : klt x.1 k
    · have := klt_ne h
      simp [h, this]
    · simp [h]
  · rcases klt_tri x.1 k with h | h | h
    · have h4 := klt_asymm h
      simp [h, h4]
    · have h4 : ¬ klt k x.1 := by rw [h]; exact klt_irrefl _
      simp [h, klt_irrefl]
    · have h4 := klt_asymm h
      have h5 := (klt_ne h).symm
      simp [h, h4, h5]

end Go.Proofs.YthgpjkcgccdldaaGreatDoor
