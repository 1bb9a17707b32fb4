/-
  Bytes read from the front: the reader's take, number, text.
-/
import Derived.Test.YthgpjkcgccdldaaGreatDoorV32
import Derived.Test.YthgpjkcgccdldaaGreatDoorV22
import Derived.Deep.Cut

namespace Go.Proofs.YthgpjkcgccdldaaGreatDoor
open Go.RowKit Go.Maps

/-- Where bytes lie that are cut off behind the k-th. -/
def hiB (a : Option Addr) (c k : Nat) : Option Addr := if c = k then a else a.map (·.add k)
set_option maxRecDepth 100000 in
theorem bslice_lo (a : Option Addr) (n c k : Nat) (w : World) (hk : k ≤ c) : (Instr.slice 68 (.slice a n c) none (some (.int .i64 (k : Nat))) none).run Tryz.prog w = .ok (.slice a k c) w := by
  rw [run_slice_h w 68 a n c (by kernel_rfl) .i64 k (by omega) (by omega)]
  have hs : (sizeOf (Tryz.prog.elem 68)).run Tryz.prog w = .ok 1 w := by go_simp
  rw [hs]
  simp only [Result.andThen, sliced, Int.toNat_natCast, Nat.zero_mul, Nat.sub_zero]
  congr 2
  split
  · rfl
  · cases a <;> rfl

set_option maxRecDepth 100000 in
theorem bslice_hi (a : Option Addr) (n c k : Nat) (w : World) (hk : k ≤ n) : (Instr.slice 68 (.slice a n c) (some (.int .i64 (k : Nat))) none none).run Tryz.prog w = .ok (.slice (hiB a c k) (n - k) (c - k)) w := by
  rw [run_slice_l w 68 a n c (by kernel_rfl) .i64 k (by omega) (by omega)]
  have hs : (sizeOf (Tryz.prog.elem 68)).run Tryz.prog w = .ok 1 w := by go_simp
  rw [hs]
  simp only [Result.andThen, sliced, Int.toNat_natCast, hiB, Nat.mul_one]

theorem BytesAt.take {w : World} {a : Option Addr} {l : List Nat} (h : BytesAt w a l) (k : Nat) : BytesAt w a (l.take k) := by
  rcases h with rfl | ⟨b, off, rfl, h⟩
  · exact .inl (by simp)
  · refine .inr ⟨b, off, rfl, fun i hi => ?_⟩
    rw [List.length_take] at hi
    rw [h i (by omega), List.getD_eq_getElem?_getD, List.getD_eq_getElem?_getD, List.getElem?_take, if_pos (by omega)]

theorem BytesAt.hi {w : World} {a : Option Addr} {l : List Nat} (h : BytesAt w a l) (c k : Nat) (hc : l.length ≤ c) : BytesAt w (hiB a c k) (l.drop k) := by
  unfold hiB
  split
  · exact .inl (List.drop_of_length_le (by omega))
  · rcases h with rfl | ⟨b, off, rfl, h⟩
    · exact .inl (by simp)
    · refine .inr ⟨b, off + k, ?_, fun i hi => ?_⟩
      · rw [Option.map_some, add_spot]
      · rw [List.length_drop] at hi
        rw [Nat.add_assoc, h (k + i) (by omega), List.getD_eq_getElem?_getD, List.getD_eq_getElem?_getD, List.getElem?_drop]

/-- A reader in block r that has l still to read; S: blocks that its bytes do not lie in. -/
def RdAt (w : World) (r : Nat) (l : List Nat) : Prop := (∀ o, w.frozen? ⟨r, o, none⟩ = false) ∧ ∃ a c, w.cell? ⟨r, 0, none⟩ = some (.slice a l.length c) ∧ BytesAt w a l ∧ (a = none → c = 0) ∧ l.length ≤ c ∧ c ≤ 9223372036854775807 ∧ ∀ x, a = some x → x.block < r
theorem RdAt.lt {w : World} {r : Nat} {l : List Nat} (h : RdAt w r l) : r < w.heap.size := by
  obtain ⟨_, a, c, h, _⟩ := h
  exact lt_of_cell h
theorem RdAt.turn {S : List Nat} {w w' : World} {r : Nat} {l : List Nat} (h : RdAt w r l) (hT : Turn S w w') (hS : ∀ x ∈ S, r < x) : RdAt w' r l := by
  have hl := h.lt
  obtain ⟨hz, a, c, h1, h2, h3, h4, h5, h6⟩ := h
  have hr : r ∉ S := fun hm => by have := hS r hm; omega
  exact ⟨fun o => (World.frozen?_of_block (a := ⟨r, o, none⟩) (hT.block r hl hr)).trans (hz o), a, c, (hT.cell (p := ⟨r, 0, none⟩) hl hr).trans h1, h2.turn hT (fun x _ hx hm => by have := hS _ hm; have := h6 x hx; omega), h3, h4, h5, h6⟩

set_option maxRecDepth 100000 in
set_option maxHeartbeats 3200000 in
/-- take, where there are as many. -/
theorem rdtake_any (r : Nat) (l : List Nat) (n : Nat) (hn : n ≤ l.length) (w : World) (h : RdAt w r l) :
    Calls Tryz.prog 124 #[.pointer (some ⟨r, 0, none⟩), .int .i64 (n : Nat)] w fun e w' => ∃ a c, e = .returned (.slice a n c) ∧ BytesAt w' a (l.take n) ∧ (a = none → c = 0) ∧ RdAt w' r (l.drop n) ∧ Turn [r] w w' := by
  obtain ⟨hz, a, c, h1, h2, h3, h4, h5, h6⟩ := h
  have hmin : min (n : Int) (l.length : Int) = (n : Int) := by omega
  have hlo := bslice_lo a l.length c n w (by omega)
  have hhi := bslice_hi a l.length c n w hn
  have hf := hz 0
  have HF : Hid (∃ x, x = l.length) := ⟨_, rfl⟩
  have H2 := hide h2
  have H3 := hide h3
  have HZ := hide hz
  have H6 := hide h6
  clear h2 h3 hz h6
  generalize hL : l.length = N at *
  have HL := hide hL
  clear hL
  go_enter Tryz.func124, Tryz.ntmps124
  go_wp2_with fail
  go_ret
  have hT : Turn [r] w (w.setCell ⟨r, 0, none⟩ (.slice (hiB a c n) (N - n) (c - n))) := (Turn.refl [r] w).setCell (by simp) 0 _
  have hB := H2.out.turn hT (fun x _ hx hm => by
    have := H6.out x hx
    simp at hm
    omega)
  refine ⟨a, c, rfl, hB.take n, H3.out, ⟨fun o => (World.frozen?_setCell ..).trans (HZ.out o), hiB a c n, c - n, ?_, hB.hi c n (by rw [HL.out]; exact h4), fun e => ?_, by rw [List.length_drop, HL.out]; omega, by omega, fun x hx => ?_⟩, hT⟩
  · rw [World.cell?_setCell_same _ _ _ h1, List.length_drop, HL.out]
  · unfold hiB at e
    split at e
    · omega
    · cases a with
      | none => rw [H3.out rfl]; omega
      | some y => cases e
  · unfold hiB at hx
    split at hx
    · exact H6.out x hx
    · cases a with
      | none => cases hx
      | some y =>
        obtain rfl := Option.some.inj hx
        have := H6.out y rfl
        unfold Addr.add
        split <;> exact this

theorem ret_val {k : IntKind} {a b : Int} (h : a = b) : Value.int k a = Value.int k b := by rw [h]

/-- The number that bytes tell, the highest first. -/
def beN (l : List Nat) : Nat := l.foldl (fun a x => a * 256 + x) 0
theorem beN_take {l : List Nat} {i : Nat} (h : i < l.length) : beN (l.take (i + 1)) = beN (l.take i) * 256 + l[i] := by
  unfold beN
  rw [List.take_succ_eq_append_getElem h, List.foldl_append]
  rfl
theorem beN_bound (l : List Nat) (h : ∀ x ∈ l, x < 256) (i : Nat) (hi : i ≤ l.length) : beN (l.take i) < 256 ^ i := by
  induction i with
  | zero => simp [beN]
  | succ i ih =>
    have h1 := ih (by omega)
    have h2 := h l[i] (List.getElem_mem (by omega))
    rw [beN_take (by omega), Nat.pow_succ]
    omega

theorem ofInt_64 (a : Nat) (ha : a < 18446744073709551616) : (BitVec.ofInt 64 (a : Int)).toNat = a := by
  rw [BitVec.ofInt_natCast, BitVec.toNat_ofNat]; exact Nat.mod_eq_of_lt (by omega)
theorem i64_or_nat (a b : Nat) (ha : a < 4611686018427387904) (hb : b < 4611686018427387904) : bits .or .i64 (a : Int) (b : Int) = ((a ||| b : Nat) : Int) := by
  have hx : a ||| b < 2 ^ 62 := Nat.or_lt_two_pow (by omega) (by omega)
  show IntKind.i64.wrap ((BitVec.ofInt 64 (a : Int) ||| BitVec.ofInt 64 (b : Int)).toNat : Int) = _
  rw [BitVec.toNat_or, ofInt_64 a (by omega), ofInt_64 b (by omega), IntKind.wrap_i64]
  omega
theorem or_byte (a x : Nat) (h : x < 256) : (a * 256) ||| x = a * 256 + x := by
  rw [show a * 256 = 2 ^ 8 * a by omega]
  exact (Nat.two_pow_add_eq_or_of_lt (by omega : x < 2 ^ 8) a).symm

set_option maxRecDepth 100000 in
set_option maxHeartbeats 3200000 in
/-- number, where there are as many bytes. -/
theorem rdnum_any (r : Nat) (l : List Nat) (n : Nat) (hn : n ≤ l.length) (hn4 : n ≤ 4) (hb : ∀ x ∈ l, x < 256) (w : World) (h : RdAt w r l) :
    Calls Tryz.prog 87 #[.pointer (some ⟨r, 0, none⟩), .int .i64 (n : Nat)] w fun e w' => e = .returned (.int .i64 (beN (l.take n) : Nat)) ∧ RdAt w' r (l.drop n) ∧ Turn [r] w w' := by
  have HC := hide (rdtake_any r l n hn w h)
  have HB := hide hb
  clear h hb
  obtain ⟨F, hF⟩ : ∃ F, F = l.take n := ⟨_, rfl⟩
  have hFl : F.length = n := by rw [hF, List.length_take]; omega
  have HFb : Hid (∀ x ∈ F, x < 256) := fun x hx => HB.out x (by rw [hF] at hx; exact List.mem_of_mem_take hx)
  rw [← hF] at HC ⊢
  have HFl := hide hFl
  clear hF hFl
  go_enter Tryz.func87, Tryz.ntmps87
  go_wp2_with fail
  refine HC.out.mono ?_
  rintro e w1 ⟨a, c, rfl, hB, hc, hR, hT⟩
  have HBy := hide hB
  have HR := hide hR
  have HT := hide hT
  clear hB hR hT hc HC
  go_wp2_with fail
  go_loop [5, 12] (fun n' i => ∃ j : Nat, j ≤ n ∧ i = .int .i64 (j : Nat) ∧ n' = .int .i64 (beN (F.take j) : Nat)) (fun _ i => n - (intOf i).toNat)
  case atStart => exact ⟨0, Nat.zero_le _, rfl, rfl⟩
  case round =>
    obtain ⟨j, hj, rfl, rfl⟩ := hrel
    by_cases hjn : j < n
    · have hjF : j < F.length := by rw [HFl.out]; exact hjn
      have hA : beN (F.take j) < 16777216 := by
        have h1 := beN_bound F HFb.out j (by omega)
        have h2 : 256 ^ j ≤ 256 ^ 3 := Nat.pow_le_pow_right (by omega) (by omega)
        omega
      obtain ⟨b, off, rfl, hcell⟩ := HBy.out.at hjF
      have hx := HFb.out F[j] (List.getElem_mem hjF)
      have HNext := hide (beN_take hjF)
      have HOr := hide (or_byte (beN (F.take j)) F[j] hx)
      generalize beN (F.take j) = A at *
      generalize F[j] = x at *
      have hor : bits .or .i64 ((A : Int) * 256) (x : Int) = ((A * 256 + x : Nat) : Int) := by
        have h := i64_or_nat (A * 256) x (by omega) (by omega)
        rw [HOr.out] at h
        rw [← h]
        rfl
      go_wp2_with fail
      refine ⟨⟨j + 1, by omega, by go_num, ?_⟩, by simp [intOf]; omega⟩
      rw [HNext.out]
      exact ret_val (by omega)
    · obtain rfl : j = n := by omega
      go_wp2_with fail
      go_ret
      rw [← HFl.out, List.take_length]
      exact ⟨rfl, by rw [HFl.out]; exact HR.out, HT.out⟩

theorem natBytes_text (s : ByteArray) : textOf (natBytes s) = s := by
  apply ByteArray.ext
  apply Array.toList_inj.1
  unfold textOf natBytes
  rw [strOfNums_data, List.map_map, List.map_map]
  have h : ((fun n : Int => UInt8.ofNat n.toNat) ∘ fun x : Nat => (x : Int)) ∘ UInt8.toNat = id := by
    funext x
    simp
  rw [h, List.map_id]

set_option maxRecDepth 100000 in
set_option maxHeartbeats 3200000 in
/-- A text with its length ahead. -/
theorem rdtext_any (r : Nat) (s : ByteArray) (l : List Nat) (hs : s.size ≤ 255) (hb : ∀ x ∈ l, x < 256) (w : World) (h : RdAt w r ([s.size] ++ natBytes s ++ l)) :
    Calls Tryz.prog 212 #[.pointer (some ⟨r, 0, none⟩)] w fun e w' => e = .returned (.string s) ∧ RdAt w' r l ∧ Turn [r] w w' := by
  have hlen := natBytes_length s
  have hall : ∀ x ∈ [s.size] ++ natBytes s ++ l, x < 256 := fun x hx => by
    rcases List.mem_append.1 hx with hx | hx
    · rcases List.mem_append.1 hx with hx | hx
      · rw [List.mem_singleton.1 hx]; omega
      · exact natBytes_lt s x hx
    · exact hb x hx
  have HN := hide (rdnum_any r _ 1 (by simp) (by omega) hall w h)
  have e1 : beN (([s.size] ++ natBytes s ++ l).take 1) = s.size := by simp [beN]
  have e2 : ([s.size] ++ natBytes s ++ l).drop 1 = natBytes s ++ l := by simp
  rw [e1, e2] at HN
  have HT : Hid (∀ w', RdAt w' r (natBytes s ++ l) → Calls Tryz.prog 124 #[.pointer (some ⟨r, 0, none⟩), .int .i64 (s.size : Nat)] w' fun e w'' => ∃ a c, e = .returned (.slice a s.size c) ∧ BytesAt w'' a (natBytes s) ∧ RdAt w'' r l ∧ Turn [r] w' w'') := fun w' h' => by
    refine (rdtake_any r (natBytes s ++ l) s.size (by rw [List.length_append, hlen]; omega) w' h').mono ?_
    rintro e w'' ⟨a, c, rfl, hB, _, hR, hT⟩
    rw [List.take_left' hlen] at hB
    rw [List.drop_left' hlen] at hR
    exact ⟨a, c, rfl, hB, hR, hT⟩
  have HTx := hide (natBytes_text s)
  have HL := hide hlen
  clear hall h hlen e1 e2
  go_enter Tryz.func212, Tryz.ntmps212
  go_wp2_with fail
  refine HN.out.mono ?_
  rintro e w1 ⟨rfl, hR, hT1⟩
  have HC := hide (HT.out w1 hR)
  have HT1 := hide hT1
  clear hR hT1
  go_wp2_with fail
  refine HC.out.mono ?_
  rintro e w2 ⟨a, c, rfl, hB, hR, hT2⟩
  have hcv := text_at hB s.size c HL.out
  rw [HTx.out] at hcv
  have HR := hide hR
  have HT2 := hide (HT1.out.trans hT2)
  clear hB hR hT2
  go_wp2_with fail
  go_ret
  exact ⟨rfl, HR.out, HT2.out⟩

end Go.Proofs.YthgpjkcgccdldaaGreatDoor
