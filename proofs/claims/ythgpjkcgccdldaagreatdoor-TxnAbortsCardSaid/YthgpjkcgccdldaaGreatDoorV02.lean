/-
  The plain mathematics of CRC-32C: the bitwise remainder, the byte table that is made out of the entries of single bits, and that a turned byte gives another sum. No program is named here.
-/
import Derived.KernelRfl

namespace Go.Proofs.YthgpjkcgccdldaaGreatDoor.Sm.Crc

/-- One bit further. -/
def step (x : Nat) : Nat := if x % 2 = 0 then x / 2 else x / 2 ^^^ 2197175160

def steps : Nat → Nat → Nat
  | 0, x => x
  | k + 1, x => step (steps k x)

def upd (x b : Nat) : Nat := steps 8 (x ^^^ b)

def st (l : List Nat) : Nat := l.foldl upd 4294967295

def crc (l : List Nat) : Nat := 4294967295 ^^^ st l

set_option maxRecDepth 100000 in
theorem step_lt {x : Nat} (h : x < 4294967296) : step x < 4294967296 := by
  unfold step
  split
  · omega
  · exact Nat.xor_lt_two_pow (n := 32) (by omega) (by decide)

set_option maxRecDepth 100000 in
theorem steps_lt {x : Nat} (k : Nat) (h : x < 4294967296) : steps k x < 4294967296 := by
  induction k with
  | zero => exact h
  | succ k ih => exact step_lt ih

set_option maxRecDepth 100000 in
theorem steps_succ' (k x : Nat) : steps (k + 1) x = steps k (step x) := by
  induction k with
  | zero => rfl
  | succ k ih => show step (steps (k + 1) x) = step (steps k (step x)); rw [ih]

set_option maxRecDepth 100000 in
theorem upd_lt {x b : Nat} (h : x < 4294967296) (hb : b < 256) : upd x b < 4294967296 :=
  steps_lt 8 (Nat.xor_lt_two_pow (n := 32) (by omega) (by omega))

set_option maxRecDepth 100000 in
theorem foldl_lt (l : List Nat) : ∀ (x : Nat), x < 4294967296 → (∀ b ∈ l, b < 256) → l.foldl upd x < 4294967296 := by
  induction l with
  | nil => intro x h _; exact h
  | cons b l ih => intro x h hl; exact ih _ (upd_lt h (hl b (by simp))) (fun c hc => hl c (by simp [hc]))

set_option maxRecDepth 100000 in
theorem st_lt (l : List Nat) (h : ∀ b ∈ l, b < 256) : st l < 4294967296 := foldl_lt l _ (by decide) h

set_option maxRecDepth 100000 in
theorem crc_lt (l : List Nat) (h : ∀ b ∈ l, b < 256) : crc l < 4294967296 := Nat.xor_lt_two_pow (n := 32) (by decide) (st_lt l h)

set_option maxRecDepth 100000 in
theorem st_snoc (l : List Nat) (b : Nat) : st (l ++ [b]) = upd (st l) b := by simp [st]

set_option maxRecDepth 100000 in
theorem not_not (x : Nat) : 4294967295 ^^^ (4294967295 ^^^ x) = x := by rw [← Nat.xor_assoc]; simp

set_option maxRecDepth 100000 in
theorem not_crc (l : List Nat) : 4294967295 ^^^ crc l = st l := not_not _

set_option maxRecDepth 100000 in
theorem step_xor (a b : Nat) : step (a ^^^ b) = step a ^^^ step b := by
  unfold step
  have e := @Nat.xor_mod_two_eq_one a b
  have d : (a ^^^ b) / 2 = a / 2 ^^^ b / 2 := Nat.xor_div_two
  rw [d]
  by_cases ha : a % 2 = 0 <;> by_cases hb : b % 2 = 0
  · have : (a ^^^ b) % 2 = 0 := by omega
    simp [ha, hb, this]
  · have : ¬ (a ^^^ b) % 2 = 0 := by omega
    simp [ha, hb, this, Nat.xor_assoc]
  · have : ¬ (a ^^^ b) % 2 = 0 := by omega
    simp only [ha, hb, this, if_true, if_false]
    rw [Nat.xor_assoc, Nat.xor_assoc, Nat.xor_comm (b / 2)]
  · have : (a ^^^ b) % 2 = 0 := by omega
    simp only [ha, hb, this, if_true, if_false]
    rw [Nat.xor_assoc, ← Nat.xor_assoc 2197175160, Nat.xor_comm 2197175160, Nat.xor_assoc (b / 2), Nat.xor_self, Nat.xor_zero]

set_option maxRecDepth 100000 in
theorem steps_xor (k a b : Nat) : steps k (a ^^^ b) = steps k a ^^^ steps k b := by
  induction k with
  | zero => rfl
  | succ k ih => show step (steps k (a ^^^ b)) = _; rw [ih, step_xor]; rfl

set_option maxRecDepth 100000 in
theorem steps_even (k : Nat) : ∀ u : Nat, u % 2 ^ k = 0 → steps k u = u / 2 ^ k := by
  induction k with
  | zero => intro u _; simp [steps]
  | succ k ih =>
    intro u hu
    have hd : 2 ^ (k + 1) ∣ u := Nat.dvd_of_mod_eq_zero hu
    obtain ⟨c, rfl⟩ := hd
    have e2 : 2 ^ (k + 1) * c = 2 * (2 ^ k * c) := by rw [Nat.pow_succ, Nat.mul_comm (2 ^ k) 2, Nat.mul_assoc]
    have h0 : (2 ^ (k + 1) * c) % 2 = 0 := by rw [e2]; omega
    rw [steps_succ']
    have hs : step (2 ^ (k + 1) * c) = 2 ^ k * c := by unfold step; rw [if_pos h0, e2]; omega
    rw [hs, ih _ (by simp)]
    rw [Nat.mul_div_cancel_left _ (Nat.two_pow_pos k), Nat.mul_div_cancel_left _ (Nat.two_pow_pos (k + 1))]

set_option maxRecDepth 100000 in
/-- A byte at once: the low byte through the table, the rest moved on. -/
theorem byte_step (r x : Nat) : steps 8 ((r % 256) ^^^ x) ^^^ r / 256 = upd r x := by
  have hu : (r ^^^ (r % 256)) % 2 ^ 8 = 0 := by
    rw [Nat.xor_mod_two_pow]; simp
  have hq : (r ^^^ (r % 256)) / 2 ^ 8 = r / 256 := by
    rw [Nat.xor_div_two_pow]
    have : r % 256 / 2 ^ 8 = 0 := by omega
    rw [this]; simp
  have h := steps_even 8 _ hu
  rw [hq] at h
  unfold upd
  have e : r ^^^ x = (r ^^^ (r % 256)) ^^^ ((r % 256) ^^^ x) := by
    rw [Nat.xor_assoc, ← Nat.xor_assoc (r % 256), Nat.xor_self, Nat.zero_xor]
  rw [e, steps_xor (k := 8) (a := r ^^^ r % 256), h, Nat.xor_comm]

/- The table, as it is made. -/
def restAt (k : Nat) : Nat := steps k 1

def inner (bit rest : Nat) : Nat → List Nat → List Nat
  | 0, t => t
  | j + 1, t => (inner bit rest j t).set (2 * bit * j + bit) ((inner bit rest j t).getD (2 * bit * j) 0 ^^^ rest)

def outer : Nat → List Nat
  | 0 => List.replicate 256 0
  | k + 1 => inner (128 / 2 ^ k) (restAt (k + 1)) (2 ^ k) (outer k)

set_option maxRecDepth 100000 in
theorem inner_length (bit rest : Nat) (j : Nat) (t : List Nat) : (inner bit rest j t).length = t.length := by
  induction j with
  | zero => rfl
  | succ j ih => simp [inner, ih]

set_option maxRecDepth 100000 in
theorem outer_length (k : Nat) : (outer k).length = 256 := by
  induction k with
  | zero => exact List.length_replicate
  | succ k ih => show (inner _ _ _ (outer k)).length = 256; rw [inner_length, ih]

set_option maxRecDepth 100000 in
theorem inner_lt (bit rest : Nat) (hr : rest < 4294967296) (j : Nat) (t : List Nat) (ht : ∀ i, t.getD i 0 < 4294967296) : ∀ i, (inner bit rest j t).getD i 0 < 4294967296 := by
  induction j with
  | zero => exact ht
  | succ j ih =>
    intro i
    simp only [inner, List.getD_eq_getElem?_getD, List.getElem?_set]
    split
    · split
      · simp only [Option.getD_some]
        have := ih (2 * bit * j)
        rw [List.getD_eq_getElem?_getD] at this
        exact Nat.xor_lt_two_pow (n := 32) this hr
      · simp
    · have := ih i
      rw [List.getD_eq_getElem?_getD] at this
      exact this

set_option maxRecDepth 100000 in
theorem outer_lt (k : Nat) : ∀ i, (outer k).getD i 0 < 4294967296 := by
  induction k with
  | zero =>
    intro i
    show (List.replicate 256 0).getD i 0 < 4294967296
    rw [List.getD_eq_getElem?_getD, List.getElem?_replicate]
    split
    · show 0 < 4294967296; decide
    · show 0 < 4294967296; decide
  | succ k ih => exact inner_lt _ _ (steps_lt _ (by decide)) _ _ ih

set_option maxRecDepth 100000 in
theorem table_all : ((List.range 256).all fun y => (outer 8).getD y 0 == steps 8 y) = true := by decide +kernel

set_option maxRecDepth 100000 in
theorem table_at (y : Nat) (h : y < 256) : (outer 8).getD y 0 = steps 8 y := by
  have := List.all_eq_true.1 table_all y (List.mem_range.2 h)
  simpa using this

end Go.Proofs.YthgpjkcgccdldaaGreatDoor.Sm.Crc
