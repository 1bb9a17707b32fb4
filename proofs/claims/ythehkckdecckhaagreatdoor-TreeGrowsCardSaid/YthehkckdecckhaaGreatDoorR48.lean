/-
  The law's names: one for each number, of three letters.
-/
import Derived.Test.YthehkckdecckhaaGreatDoorR47
import Derived.Test.YthehkckdecckhaaGreatDoorR15

namespace Go.Proofs.YthehkckdecckhaaGreatDoor
open Go.RowKit Go.Maps

def nm (n : Nat) : ByteArray := textOf [97 + n % 26, 97 + n / 26 % 26, 97 + n / 676 % 26]
theorem nm_size (n : Nat) : (nm n).size = 3 := by unfold nm; rw [textOf_size]; rfl

set_option maxRecDepth 100000 in
set_option maxHeartbeats 1600000 in
theorem name_any (n : Nat) (hn : n ≤ 17575) (w : World) : Calls Tryz.prog 30 #[.int .i64 (n : Nat)] w fun e w' => e = .returned (.string (nm n)) ∧ Turn [] w w' := by
  have HB := hide (bytes_new w [97 + n % 26, 97 + n / 26 % 26, 97 + n / 676 % 26] 5)
  have hcv := text_at HB.out 3 3 rfl
  have h1 : ((97 + n % 26 : Nat) : Int) = 97 + (n : Int) % 26 := by omega
  have h2 : ((97 + n / 26 % 26 : Nat) : Int) = 97 + (n : Int) / 26 % 26 := by omega
  have h3 : ((97 + n / 676 % 26 : Nat) : Int) = 97 + (n : Int) / 676 % 26 := by omega
  have HE : Hid (textOf [97 + n % 26, 97 + n / 26 % 26, 97 + n / 676 % 26] = nm n) := rfl
  have e0 : (([97 + n % 26, 97 + n / 26 % 26, 97 + n / 676 % 26] : List Nat).map byteCell).toArray = #[.int .u8 ((97 + n % 26 : Nat) : Int), .int .u8 ((97 + n / 26 % 26 : Nat) : Int), .int .u8 ((97 + n / 676 % 26 : Nat) : Int)] := rfl
  rw [e0, HE.out] at hcv
  rw [h1, h2, h3] at hcv
  clear e0 h1 h2 h3
  go_enter Tryz.func30, Tryz.ntmps30
  go_wp2_with fail
  go_ret
  exact ⟨rfl, (Turn.refl [] w).alloc _⟩

theorem ofNat_inj {a b : Nat} (ha : a < 256) (hb : b < 256) (h : UInt8.ofNat a = UInt8.ofNat b) : a = b := by
  have := congrArg UInt8.toNat h
  simp at this
  omega
theorem nm_inj {n m : Nat} (hn : n < 17576) (hm : m < 17576) (h : nm n = nm m) : n = m := by
  have h1 : ([97 + n % 26, 97 + n / 26 % 26, 97 + n / 676 % 26].map fun x : Nat => UInt8.ofNat x) = [97 + m % 26, 97 + m / 26 % 26, 97 + m / 676 % 26].map fun x : Nat => UInt8.ofNat x := by
    have h0 := congrArg (fun s : ByteArray => s.data.toList) h
    exact h0
  injection h1 with e1 h1
  injection h1 with e2 h1
  injection h1 with e3 _
  have e1 := ofNat_inj (by omega) (by omega) e1
  have e2 := ofNat_inj (by omega) (by omega) e2
  have e3 := ofNat_inj (by omega) (by omega) e3
  omega

theorem putK_mem {l : List Kv} {k v : ByteArray} {x : Kv} (h : x ∈ putK l k v) : x = (k, v) ∨ x ∈ l := by
  unfold putK at h
  rcases List.mem_append.1 h with h | h
  · exact .inr (List.mem_filter.1 h).1
  · rcases List.mem_cons.1 h with h | h
    · exact .inl h
    · exact .inr (List.mem_filter.1 h).1
theorem getK_absent {l : List Kv} {k : ByteArray} (h : ∀ x ∈ l, x.1 ≠ k) : getK l k = none := by
  unfold getK
  rw [List.find?_eq_none.2 fun x hx => by simpa using h x hx]
  rfl
end Go.Proofs.YthehkckdecckhaaGreatDoor
