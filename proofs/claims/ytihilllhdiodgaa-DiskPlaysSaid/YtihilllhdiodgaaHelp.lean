/-
  The law's helpers within and block, walked.
-/
import Derived.Test.YtihilllhdiodgaaKnown
namespace Go.Proofs.Ytihilllhdiodgaa
open Go.RowKit Go.Maps

theorem tmod_lt (x : Int) : -20 < x.tmod 20 ∧ x.tmod 20 < 20 := by
  have h1 := Int.tmod_lt_of_pos x (show (0 : Int) < 20 by omega)
  have h2 := Int.lt_tmod_of_pos x (show (0 : Int) < 20 by omega)
  omega

set_option maxHeartbeats 400000 in
theorem within_any (x : Int) (w : World) : Calls Try.prog 21 #[.int .i64 x, .int .i64 20] w fun e w' => (∃ k : Nat, k < 20 ∧ e = .returned (.int .i64 (k : Nat))) ∧ w' = w := by
  have hb := tmod_lt x
  generalize hy : x.tmod 20 = y at *
  by_cases h : y < 0
  · have t1 : decide (y < 0) = true := by simpa using h
    obtain ⟨k, hk⟩ := Int.eq_ofNat_of_zero_le (show 0 ≤ y + 20 by omega)
    go_enter Try.func21, Try.ntmps21
    go_wp2
    go_ret
    exact ⟨⟨k, by omega, rfl⟩, rfl⟩
  · have t1 : decide (y < 0) = false := by simp; omega
    obtain ⟨k, hk⟩ := Int.eq_ofNat_of_zero_le (show 0 ≤ y by omega)
    go_enter Try.func21, Try.ntmps21
    go_wp2
    go_ret
    exact ⟨⟨k, by omega, rfl⟩, rfl⟩

/-- What block answers: the same slice, or a new one of 512 bytes. -/
def Blocked (w w' : World) (a : Option Addr) (cap : Nat) (l : List Nat) (v : Value) : Prop :=
  (v = .slice a l.length cap ∧ (l.length = 0 ∨ 511 < l.length)) ∨ (0 < l.length ∧ ∃ g, ∃ l' : List Nat, v = .slice (some ⟨g, 0, none⟩) 512 512 ∧ w.heap.size ≤ g ∧ g < w'.heap.size ∧ l'.length = 512 ∧ BytesAt w' (some ⟨g, 0, none⟩) l')

set_option maxRecDepth 100000 in
set_option maxHeartbeats 800000 in
theorem block_any (a : Option Addr) (cap : Nat) (l : List Nat) (hl : l.length ≤ maxLen) (w : World) (hb : BytesAt w a l) :
    Calls Try.prog 11 #[.slice a l.length cap] w fun e w' => ∃ v, e = .returned v ∧ Blocked w w' a cap l v ∧ Turn [] w w' := by
  unfold maxLen at hl
  by_cases h0 : l.length = 0
  · have t1 : ((l.length : Int) == 0) = true := by rw [beq_iff_eq]; omega
    have H0 := hide h0
    clear h0
    go_enter Try.func11, Try.ntmps11
    go_wp2
    go_ret
    exact ⟨_, rfl, .inl ⟨rfl, .inl H0.out⟩, Turn.refl _ _⟩
  · have t1 : ((l.length : Int) == 0) = false := by rw [beq_eq_false_iff_ne]; omega
    by_cases h1 : 511 < l.length
    · have t2 : decide (511 < (l.length : Int)) = true := by simp; omega
      have H1 := hide h1
      clear h0 h1
      go_enter Try.func11, Try.ntmps11
      go_wp2
      go_ret
      exact ⟨_, rfl, .inl ⟨rfl, .inr H1.out⟩, Turn.refl _ _⟩
    · have t2 : decide (511 < (l.length : Int)) = false := by simp; omega
      have hmk := make_512
      have hb1 : BytesAt (w.alloc (.cells zcells 5)) a l := hb.turn ((Turn.refl [] _).alloc _) (by simp)
      have hn := new_zeros w
      have hf : ∀ o, (w.alloc (.cells zcells 5)).frozen? ⟨w.heap.size, o, none⟩ = false := fun o => World.frozen?_alloc_at _ _ _ _ rfl
      have hgs : w.heap.size < (w.alloc (.cells zcells 5)).heap.size := by simp
      have hT : Turn [] w (w.alloc (.cells zcells 5)) := (Turn.refl [] _).alloc _
      have hlt : ∀ x, l ≠ [] → a = some x → x.block < w.heap.size := hb.lt
      have HB1 := hide hb1
      have HN := hide hn
      have HF := hide hf
      have HT := hide hT
      have HLT := hide hlt
      have hpos : 0 < l.length := by omega
      clear hb hb1 hn hf hT h0 hlt
      go_enter Try.func11, Try.ntmps11
      go_wp2_with fail
      generalize hw1 : w.alloc (.cells zcells 5) = w1 at *
      clear hw1
      go_loopw [4] (fun i wr => ∃ k : Nat, k ≤ 512 ∧ i = .int .i64 k ∧ ∃ l' : List Nat, l'.length = 512 ∧ BytesAt wr (some ⟨w.heap.size, 0, none⟩) l' ∧ (∀ o, wr.frozen? ⟨w.heap.size, o, none⟩ = false) ∧ Turn [w.heap.size] w1 wr) (fun i _ => 512 - (intOf i).toNat)
      case atStart => exact ⟨0, Nat.zero_le _, rfl, zeros, zeros_length, HN.out, HF.out, Turn.refl _ _⟩
      case round =>
        obtain ⟨k, hk, rfl, l', hl', hb', hf', hT'⟩ := hrel
        by_cases h5 : k < 512
        · have hlm : k % l.length < l.length := Nat.mod_lt _ hpos
          have hbr : BytesAt wr a l := HB1.out.turn hT' (fun x hq hx => by have := HLT.out x hq hx; simp; omega)
          obtain ⟨b', off, rfl, hc⟩ := hbr.at hlm
          have hcq := hb'.cell0 (i := k) (by omega)
          have hfq := hf' k
          have HB' := hide hb'
          have HF' := hide hf'
          clear hb' hf' hbr
          generalize l[k % l.length] = z at *
          go_wp2_with fail
          go_roundw
          case rel =>
            refine ⟨k + 1, by omega, by go_num, l'.set k z, by rw [List.length_set, hl'], HB'.out.set k (by omega) z, fun o => ?_, hT'.setCell (by simp) _ _⟩
            rw [World.frozen?_setCell]; exact HF'.out o
          case measure => simp [intOf]; omega
        · have t5 : decide ((k : Int) < 512) = false := by simp; omega
          have HB' := hide hb'
          clear hb' hf'
          go_wp2_with fail
          go_ret
          exact ⟨_, rfl, .inr ⟨hpos, _, l', rfl, Nat.le_refl _, by have := hT'.size; omega, hl', HB'.out⟩, HT.out.then hT' (by simp)⟩

/-- What block answers, in one form. -/
theorem block_at (a : Option Addr) (cap : Nat) (l : List Nat) (hl : l.length ≤ 140737488351232) (hnil : a = none → cap = 0) (w : World) (hb : BytesAt w a l) :
    Calls Try.prog 11 #[.slice a l.length cap] w fun e w' => ∃ a' n' c', ∃ l' : List Nat, e = .returned (.slice a' n' c') ∧ l'.length = n' ∧ n' ≤ 140737488351232 ∧ BytesAt w' a' l' ∧ (a' = none → c' = 0) ∧
      (∀ x, l' ≠ [] → a' = some x → (l ≠ [] ∧ a = some x) ∨ w.heap.size ≤ x.block) ∧ Turn [] w w' := by
  refine (block_any a cap l (by unfold maxLen; omega) w hb).mono ?_
  rintro e w' ⟨v, rfl, h | ⟨_, g, l', rfl, h1, h2, h3, h4⟩, hT⟩
  · obtain ⟨rfl, _⟩ := h
    exact ⟨a, l.length, cap, l, rfl, rfl, hl, hb.turn hT (by simp), hnil, fun x h1 h2 => .inl ⟨h1, h2⟩, hT⟩
  · exact ⟨_, 512, 512, l', rfl, h3, by omega, h4, by simp, fun x _ hx => by obtain rfl := Option.some.inj hx; exact .inr h1, hT⟩

end Go.Proofs.Ytihilllhdiodgaa
