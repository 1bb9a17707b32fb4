/-
  putNumber and number of package pager, walked: numbers in bytes, the lowest first.
-/
import Derived.Test.YthgpjkcgccdldaaGreatDoorV19
import Derived.Laws.BitsAllLaws
import Derived.Laws.ShiftsVarLaws

namespace Go.Proofs.YthgpjkcgccdldaaGreatDoor
open Go.RowKit

/-- A row of bytes of the call's own in block g: byte i is B i. -/
structure RowAt (w : World) (g n : Nat) (B : Nat → Nat) : Prop where
  cell : ∀ i, i < n → w.cell? ⟨g, i, none⟩ = some (.int .u8 (B i : Nat))
  fz : ∀ o, w.frozen? ⟨g, o, none⟩ = false
  lt : g < w.heap.size

/-- As a list. -/
def bytesOf (n : Nat) (B : Nat → Nat) : List Nat := (List.range n).map B
set_option maxRecDepth 100000 in
theorem bytesOf_length (n : Nat) (B : Nat → Nat) : (bytesOf n B).length = n := by simp [bytesOf]
set_option maxRecDepth 100000 in
theorem bytesOf_get (n : Nat) (B : Nat → Nat) (i : Nat) (h : i < n) : (bytesOf n B).getD i 0 = B i := by
  rw [List.getD_eq_getElem?_getD]; simp [bytesOf, h]
set_option maxRecDepth 100000 in
theorem bytesOf_congr {n : Nat} {A B : Nat → Nat} (h : ∀ i, i < n → A i = B i) : bytesOf n A = bytesOf n B := by
  unfold bytesOf
  exact List.map_congr_left fun i hi => h i (List.mem_range.1 hi)
set_option maxRecDepth 100000 in
theorem bytesOf_list (l : List Nat) : bytesOf l.length (fun i => l.getD i 0) = l := by
  apply List.ext_getElem (by simp [bytesOf])
  intro i h1 h2
  simp [bytesOf, h2]

set_option maxRecDepth 100000 in
theorem RowAt.bytes {w : World} {g n : Nat} {B : Nat → Nat} (h : RowAt w g n B) (off k : Nat) (hk : off + k ≤ n) : BytesAt w (some ⟨g, off, none⟩) (bytesOf k fun i => B (off + i)) := by
  refine .inr ⟨g, off, rfl, fun i hi => ?_⟩
  rw [bytesOf_length] at hi
  rw [bytesOf_get _ _ _ hi]
  exact h.cell (off + i) (by omega)
set_option maxRecDepth 100000 in
theorem RowAt.bytes0 {w : World} {g n : Nat} {B : Nat → Nat} (h : RowAt w g n B) : BytesAt w (some ⟨g, 0, none⟩) (bytesOf n B) := by
  have := h.bytes 0 n (by omega)
  simpa using this
set_option maxRecDepth 100000 in
theorem RowAt.turn {w w' : World} {S : List Nat} {g n : Nat} {B : Nat → Nat} (h : RowAt w g n B) (hT : Turn S w w') (hg : g ∉ S) : RowAt w' g n B :=
  ⟨fun i hi => (hT.cell (p := ⟨g, i, none⟩) h.lt hg).trans (h.cell i hi), fun o => (World.frozen?_of_block (a := ⟨g, o, none⟩) (hT.block g h.lt hg)).trans (h.fz o), Nat.lt_of_lt_of_le h.lt hT.size⟩
set_option maxRecDepth 100000 in
theorem RowAt.congr {w : World} {g n : Nat} {A B : Nat → Nat} (h : RowAt w g n A) (e : ∀ i, i < n → A i = B i) : RowAt w g n B :=
  ⟨fun i hi => by rw [← e i hi]; exact h.cell i hi, h.fz, h.lt⟩
def setB (B : Nat → Nat) (k x : Nat) : Nat → Nat := fun i => if i = k then x else B i
set_option maxRecDepth 100000 in
theorem RowAt.set {w : World} {g n : Nat} {B : Nat → Nat} (h : RowAt w g n B) (k x : Nat) (hk : k < n) : RowAt (w.setCell ⟨g, k, none⟩ (.int .u8 (x : Nat))) g n (setB B k x) := by
  refine ⟨fun i hi => ?_, fun o => by rw [World.frozen?_setCell]; exact h.fz o, by rw [World.size_setCell]; exact h.lt⟩
  unfold setB
  by_cases e : i = k
  · subst e
    rw [if_pos rfl]
    exact World.cell?_setCell_same _ _ _ (h.cell i hk)
  · rw [if_neg e, World.cell?_setCell_other _ _ _ _ (off_ne (fun h => e h.symm))]
    exact h.cell i hi
set_option maxRecDepth 100000 in
theorem RowAt.drew {w : World} {g n : Nat} {B : Nat → Nat} (h : RowAt w g n B) : RowAt w.drew g n B := ⟨h.cell, h.fz, h.lt⟩

/-- The number x in k bytes from off on. -/
def putN (B : Nat → Nat) (off k x : Nat) : Nat → Nat := fun i => if off ≤ i ∧ i < off + k then x / 2 ^ (8 * (i - off)) % 256 else B i
set_option maxRecDepth 100000 in
theorem putN_zero (B : Nat → Nat) (off x : Nat) : putN B off 0 x = B := by
  funext i; unfold putN; rw [if_neg (by omega)]
set_option maxRecDepth 100000 in
theorem putN_succ (B : Nat → Nat) (off k x : Nat) : putN B off (k + 1) x = setB (putN B off k x) (off + k) (x / 2 ^ (8 * k) % 256) := by
  funext i
  unfold putN setB
  by_cases h : i = off + k
  · subst h
    rw [if_pos (by omega), if_pos rfl, Nat.add_sub_cancel_left]
  · rw [if_neg h]
    show _ = if off ≤ i ∧ i < off + k then x / 2 ^ (8 * (i - off)) % 256 else B i
    by_cases h2 : off ≤ i ∧ i < off + k
    · rw [if_pos h2, if_pos (by omega)]
    · rw [if_neg h2, if_neg (by omega)]

set_option maxRecDepth 100000 in
set_option maxHeartbeats 1000000 in
theorem putNumber_any (g n off k cap x : Nat) (B : Nat → Nat) (hk : off + k ≤ n) (hk8 : k ≤ 8) (_hn : n ≤ 1000000) (_hx : x < 18446744073709551616) (w : World) (hR : RowAt w g n B) :
    Calls Tryz.prog 196 #[.slice (some ⟨g, off, none⟩) k cap, .int .u64 (x : Nat)] w fun e w' => e = .returned (.tuple #[]) ∧ RowAt w' g n (putN B off k x) ∧ Turn [g] w w' := by
  go_enter Tryz.func196, Tryz.ntmps196
  go_wp2
  go_loopw [7] (fun i wr => ∃ j : Nat, j ≤ k ∧ i = .int .i64 j ∧ RowAt wr g n (putN B off j x) ∧ Turn [g] w wr) (fun i _ => k - (intOf i).toNat)
  case atStart => exact ⟨0, Nat.zero_le _, rfl, by rw [putN_zero]; exact hR, Turn.refl _ _⟩
  case round =>
    obtain ⟨j, hj, rfl, hR2, hT2⟩ := hrel
    by_cases hlt : j < k
    · have hc := hR2.cell (off + j) (by omega)
      have hz := hR2.fz (off + j)
      have hs := shr_var 64 (x : Int) (8 * (j : Int)) (by omega) (by omega)
      rw [if_neg (by omega)] at hs
      have HR2 := hide hR2
      clear hR2 hR
      go_wp2
      go_roundw
      case rel =>
        refine ⟨j + 1, hlt, by go_num, ?_, ?_⟩
        · have := HR2.out.set (off + j) (x / 2 ^ (8 * j) % 256) (by omega)
          rw [putN_succ]
          push_cast at this
          exact this
        · exact hT2.setCell (by simp) _ _
      case measure => simp [intOf]; omega
    · obtain rfl : j = k := by omega
      go_wp2
      go_end0
      exact ⟨rfl, hR2, hT2⟩

/-- The number that bytes tell, the lowest first. -/
def leNum : List Nat → Nat
  | [] => 0
  | x :: l => x + 256 * leNum l

set_option maxRecDepth 100000 in
theorem leNum_lt (l : List Nat) (h : ∀ x ∈ l, x < 256) : leNum l < 2 ^ (8 * l.length) := by
  induction l with
  | nil => simp [leNum]
  | cons x l ih =>
    have h1 := h x (by simp)
    have h2 := ih fun y hy => h y (by simp [hy])
    have e : 2 ^ (8 * (x :: l).length) = 256 * 2 ^ (8 * l.length) := by
      rw [List.length_cons, Nat.mul_succ, Nat.pow_add, Nat.mul_comm]
    rw [e]
    unfold leNum
    omega

set_option maxRecDepth 100000 in
theorem leNum_snoc (l : List Nat) (x : Nat) : leNum (l ++ [x]) = leNum l + x * 2 ^ (8 * l.length) := by
  induction l with
  | nil => simp [leNum]
  | cons y l ih =>
    have e : 2 ^ (8 * (y :: l).length) = 256 * 2 ^ (8 * l.length) := by
      rw [List.length_cons, Nat.mul_succ, Nat.pow_add, Nat.mul_comm]
    rw [e]
    show y + 256 * leNum (l ++ [x]) = y + 256 * leNum l + x * (256 * 2 ^ (8 * l.length))
    rw [ih, Nat.mul_add, ← Nat.add_assoc, Nat.mul_left_comm]

set_option maxRecDepth 100000 in
/-- What putNumber writes number reads. -/
theorem leNum_put (B : Nat → Nat) (off k x : Nat) : leNum (bytesOf k fun i => putN B off k x (off + i)) = x % 2 ^ (8 * k) := by
  have e : ∀ j, j ≤ k → leNum (bytesOf j fun i => putN B off k x (off + i)) = x % 2 ^ (8 * j) := by
    intro j
    induction j with
    | zero => intro _; simp [bytesOf, leNum, Nat.mod_one]
    | succ j ih =>
      intro hj
      have e1 : (bytesOf (j + 1) fun i => putN B off k x (off + i)) = (bytesOf j fun i => putN B off k x (off + i)) ++ [x / 2 ^ (8 * j) % 256] := by
        unfold bytesOf
        rw [List.range_succ, List.map_append]
        congr 1
        show [putN B off k x (off + j)] = _
        unfold putN
        rw [if_pos (by omega), Nat.add_sub_cancel_left]
      rw [e1, leNum_snoc, ih (by omega), bytesOf_length]
      rw [show 8 * (j + 1) = 8 * j + 8 from rfl, Nat.pow_add, Nat.mod_mul, Nat.mul_comm (x / 2 ^ (8 * j) % 256)]
  exact e k (Nat.le_refl _)

set_option maxRecDepth 100000 in
theorem or_shift (n x j : Nat) (hn : n < 2 ^ (8 * j)) : n ||| x * 2 ^ (8 * j) = n + x * 2 ^ (8 * j) := by
  rw [Nat.mul_comm x, Nat.or_comm, Nat.add_comm, Nat.two_pow_add_eq_or_of_lt hn]

set_option maxRecDepth 100000 in
set_option maxHeartbeats 1000000 in
theorem number_any (a : Option Addr) (cap : Nat) (l : List Nat) (k : Nat) (hk : l.length = k) (hk8 : k ≤ 8) (hb : ∀ x ∈ l, x < 256) (w : World) (hm : BytesAt w a l) :
    Calls Tryz.prog 85 #[.slice a k cap] w fun e w' => e = .returned (.int .u64 (leNum l : Nat)) ∧ w' = w := by
  subst hk
  go_enter Tryz.func85, Tryz.ntmps85
  go_wp2
  go_loop [3, 8] (fun x i => ∃ j : Nat, j ≤ l.length ∧ i = .int .i64 j ∧ x = .int .u64 (leNum (l.take j) : Nat)) (fun _ i => l.length - (intOf i).toNat)
  case atStart => exact ⟨0, Nat.zero_le _, rfl, rfl⟩
  case round =>
    obtain ⟨j, hj, rfl, rfl⟩ := hrel
    by_cases hlt : j < l.length
    · obtain ⟨b, off, rfl, hc⟩ := hm.at hlt
      have hx := hb _ (List.getElem_mem hlt)
      have hy := leNum_lt (l.take j) fun x h => hb x (List.mem_of_mem_take h)
      rw [List.length_take, Nat.min_eq_left hj] at hy
      have HT : Hid (leNum (l.take (j + 1)) = leNum (l.take j) + l[j] * 2 ^ (8 * j)) := by
        show _ = _
        rw [List.take_succ_eq_append_getElem hlt, leNum_snoc, List.length_take, Nat.min_eq_left hj]
      generalize hz : l[j] = z at *
      generalize hv : leNum (l.take j) = y at *
      have hpw : 2 ^ (8 * j) * 256 ≤ 18446744073709551616 := by
        have := Nat.pow_le_pow_right (n := 2) (by omega) (show 8 * j + 8 ≤ 64 by omega)
        rw [Nat.pow_add] at this
        exact this
      have hzz : z * 2 ^ (8 * j) ≤ 255 * 2 ^ (8 * j) := Nat.mul_le_mul_right _ (by omega)
      have hyy : y < 18446744073709551616 := by omega
      have hor := u64_or_nat y (z * 2 ^ (8 * j)) hyy (by omega)
      rw [or_shift y z j hy] at hor
      clear hz hv hm
      go_wp2
      go_round
      case rel =>
        refine ⟨j + 1, hlt, by go_num, ?_⟩
        have e1 : ((z : Int) * 2 ^ (8 * j)) = ((z * 2 ^ (8 * j) : Nat) : Int) := by push_cast; rfl
        rw [HT.out, IntKind.wrap_u64, ← hor, e1]
        congr 2
        omega
      case measure => simp [intOf]; omega
    · obtain rfl : j = l.length := by omega
      rw [List.take_length]
      have hl := leNum_lt l hb
      have HY : Hid (leNum l = leNum l) := rfl
      generalize hq : leNum l = y at HY ⊢
      have HQ := hide hq
      clear hq
      go_wp2
      go_ret
      exact ⟨by rw [HQ.out]; rfl, rfl⟩

end Go.Proofs.YthgpjkcgccdldaaGreatDoor
