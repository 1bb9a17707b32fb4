/-
  FrameLong, walked.
-/
import Derived.Test.YtkbboingeacgjaaFLaw1
namespace Go.Proofs.Ytkbboingeacgjaa
open Go.RowKit

theorem encE (r : Rq) (hk : isK r.k) (b : Bool) (hb : b = true ↔ Fit (txts r)) : (reqS wrC ⟨[], 0⟩ r).1.e = if b then 0 else 5 := by
  cases b with
  | true => rw [enc_ok r hk (hb.1 rfl)]; rfl
  | false => rw [enc_long r hk (fun h => by have := hb.2 h; cases this)]; rfl

def r1L (k : Int) (S : ByteArray) : Rq := { Rq.zero with k := k, key := S }
def r2L (k : Int) (S : ByteArray) : Rq := { Rq.zero with k := k, key := ⟨#[107]⟩, nm := S, sec := S, pn := S }
theorem named_e (k : Int) (hk : k = 1 ∨ k = 5 ∨ k = 16 ∨ k = 17 ∨ k = 18 ∨ k = 20) (S : ByteArray) : (reqS wrC ⟨[], 0⟩ (r1L k S)).1.e = (if S.size ≤ 255 then 0 else 5) ∧ (reqS wrC ⟨[], 0⟩ (r2L k S)).1.e = if (k = 1 ∨ k = 5) ∨ S.size ≤ 255 then 0 else 5 := by
  have hK : isK k := by unfold isK; omega
  constructor
  · rw [encE (r1L k S) hK (decide (S.size ≤ 255)) ?_]
    · simp
    · unfold Fit txts r1L
      rcases hk with rfl | rfl | rfl | rfl | rfl | rfl <;> simp [Rq.zero] <;> decide
  · rw [encE (r2L k S) hK (decide ((k = 1 ∨ k = 5) ∨ S.size ≤ 255)) ?_]
    · simp
    · unfold Fit txts r2L
      have h1 : ByteArray.size ⟨#[107]⟩ = 1 := rfl
      rcases hk with rfl | rfl | rfl | rfl | rfl | rfl <;> simp [h1]

set_option maxRecDepth 100000 in
set_option maxHeartbeats 3200000 in
theorem long_any (kind n : Int) (w : World) : Calls Try.prog 8 #[.int .i64 kind, .int .i64 n] w fun e w' => e = .returned (.bool true) ∧ Turn [] w w' := by
  obtain ⟨m, hm, hm2⟩ : ∃ m : Nat, n % 12 = (m : Int) ∧ m < 12 := ⟨(n % 12).toNat, by omega, by omega⟩
  obtain ⟨j, k, hj, hjk⟩ : ∃ (j : Nat) (k : Int), kind % 6 = (j : Int) ∧ (j = 0 ∧ k = 1 ∨ j = 1 ∧ k = 5 ∨ j = 2 ∧ k = 16 ∨ j = 3 ∧ k = 17 ∨ j = 4 ∧ k = 18 ∨ j = 5 ∧ k = 20) := by
    have h1 := Int.emod_nonneg kind (show (6 : Int) ≠ 0 by omega)
    have h2 := Int.emod_lt_of_pos kind (show (0 : Int) < 6 by omega)
    have h3 : kind % 6 = 0 ∨ kind % 6 = 1 ∨ kind % 6 = 2 ∨ kind % 6 = 3 ∨ kind % 6 = 4 ∨ kind % 6 = 5 := by omega
    rcases h3 with h | h | h | h | h | h
    · exact ⟨0, 1, h, by simp⟩
    · exact ⟨1, 5, h, by simp⟩
    · exact ⟨2, 16, h, by simp⟩
    · exact ⟨3, 17, h, by simp⟩
    · exact ⟨4, 18, h, by simp⟩
    · exact ⟨5, 20, h, by simp⟩
  have HC1 := hide (fun w => within_any n 12 w (by omega) (by omega))
  have HC2 := hide (fun w => within_any kind 6 w (by omega) (by omega))
  rw [hm] at HC1
  rw [hj] at HC2
  have hcast : (250 : Int) + (m : Int) = ((250 + m : Nat) : Int) := by omega
  generalize hM : 250 + m = M at *
  have hM1 : 250 ≤ M := by omega
  have hM2 : M ≤ 261 := by omega
  have HM := hide hM
  clear hm hj hM
  obtain ⟨S, hS, hSz⟩ : ∃ S, textOf (List.replicate M 0) = S ∧ S.size = M := ⟨_, rfl, by unfold textOf; rw [strOfNums_size]; simp⟩
  have hk6 : k = 1 ∨ k = 5 ∨ k = 16 ∨ k = 17 ∨ k = 18 ∨ k = 20 := by omega
  obtain ⟨he1, he2⟩ := named_e k hk6 S
  rw [hSz] at he1 he2
  have hf : (r1L k S).Ok ∧ (r2L k S).Ok := ⟨⟨by show S.size ≤ _; omega, by show 0 ≤ _; omega, by show 0 ≤ _; omega, by show 0 ≤ _; omega⟩, ⟨by show ByteArray.size ⟨#[107]⟩ ≤ _; decide, by show S.size ≤ _; omega, by show S.size ≤ _; omega, by show S.size ≤ _; omega⟩⟩
  have HE1 : Hid (∀ w, Calls Try.prog 11 #[.agg #[.int .i64 k, .string S, .int .i64 0, .int .i64 0, .int .i64 0, .int .i64 0, .string { data := #[] }, .string { data := #[] }, .string { data := #[] }, .int .i64 0, .int .i64 0, .int .i64 0, .int .i64 0, .int .i64 0, .int .i64 0, .int .i64 0, .int .i64 0, .int .i64 0]] w fun e w' => ∃ v, e = .returned (.tuple #[v, .int .i64 ((if M ≤ 255 then 0 else 5 : Nat) : Nat)]) ∧ Turn [] w w') := fun w => (encreq w (r1L k S) hf.1).mono (by
    rintro e w' ⟨v, rfl, hP⟩
    exact ⟨v, by rw [he1], hP.old⟩)
  have HE2 : Hid (∀ w, Calls Try.prog 11 #[.agg #[.int .i64 k, .string ⟨#[107]⟩, .int .i64 0, .int .i64 0, .int .i64 0, .int .i64 0, .string S, .string S, .string S, .int .i64 0, .int .i64 0, .int .i64 0, .int .i64 0, .int .i64 0, .int .i64 0, .int .i64 0, .int .i64 0, .int .i64 0]] w fun e w' => ∃ v, e = .returned (.tuple #[v, .int .i64 ((if (k = 1 ∨ k = 5) ∨ M ≤ 255 then 0 else 5 : Nat) : Nat)]) ∧ Turn [] w w') := fun w => (encreq w (r2L k S) hf.2).mono (by
    rintro e w' ⟨v, rfl, hP⟩
    exact ⟨v, by rw [he2], hP.old⟩)
  have HSt := hide hS
  clear hf he1 he2 hSz hS
  obtain ⟨E1, hE1⟩ : ∃ E : Int, (((if M ≤ 255 then 0 else 5 : Nat) : Nat) : Int) = E := ⟨_, rfl⟩
  obtain ⟨E2, hE2⟩ : ∃ E : Int, (((if (k = 1 ∨ k = 5) ∨ M ≤ 255 then 0 else 5 : Nat) : Nat) : Int) = E := ⟨_, rfl⟩
  rw [hE1] at HE1
  rw [hE2] at HE2
  have HEE := hide (And.intro hE1 hE2)
  clear hE1 hE2
  go_enter Try.func8, Try.ntmps8
  go_wp2_with fail
  refine (known_any w).mono ?_
  rintro e w1 ⟨rfl, hT⟩
  have HT1 := hide hT
  clear hT
  go_wp2_with fail
  refine (HC1.out w1).mono ?_
  rintro e w' ⟨rfl, rfl⟩
  have hmk := fmake_n w' M (by omega)
  have htx := text_at (bytes_new w' (List.replicate M 0) 5) M M (by simp)
  rw [HSt.out] at htx
  have HT2 : Hid (Turn [] w (w'.alloc (.cells (zs M) 5))) := HT1.out.alloc _
  have htx : (convert 26 9 (.slice (some ⟨w'.heap.size, 0, none⟩) M M)).run Try.prog (w'.alloc (.cells (zs M) 5)) = .ok (.string S) (w'.alloc (.cells (zs M) 5)) := htx
  go_wp2_with fail
  refine (HC2.out _).mono ?_
  rintro e w2 ⟨rfl, rfl⟩
  have hcj : ((w'.alloc (.cells (zs M) 5)).alloc (.cells #[.int .i64 1, .int .i64 5, .int .i64 16, .int .i64 17, .int .i64 18, .int .i64 20] 3)).cell? ⟨w'.heap.size + 1, j, none⟩ = some (.int .i64 k) := by
    have h1 : (w'.alloc (.cells (zs M) 5)).heap.size = w'.heap.size + 1 := by simp
    rw [← h1, World.cell?_alloc_at _ _ _ _ rfl]
    rcases hjk with ⟨rfl, rfl⟩ | ⟨rfl, rfl⟩ | ⟨rfl, rfl⟩ | ⟨rfl, rfl⟩ | ⟨rfl, rfl⟩ | ⟨rfl, rfl⟩ <;> rfl
  have HT3 : Hid (Turn [] w ((w'.alloc (.cells (zs M) 5)).alloc (.cells #[.int .i64 1, .int .i64 5, .int .i64 16, .int .i64 17, .int .i64 18, .int .i64 20] 3))) := HT2.out.alloc _
  have hj6 : j < 6 := by omega
  have HJ := hide hjk
  clear hjk hmk htx HT2 HT1
  generalize (w'.alloc (.cells (zs M) 5)).alloc (.cells #[.int .i64 1, .int .i64 5, .int .i64 16, .int .i64 17, .int .i64 18, .int .i64 20] 3) = w3 at *
  generalize w'.heap.size = q at *
  go_wp2_with fail
  refine (HE1.out _).mono ?_
  rintro e w4 ⟨v4, rfl, hT⟩
  have HT4 := hide (HT3.out.trans hT)
  clear hT
  go_wp2_with fail
  refine (HE2.out _).mono ?_
  rintro e w5 ⟨v5, rfl, hT⟩
  have HT5 := hide (HT4.out.trans hT)
  clear hT hcj HE1 HE2 HC1 HC2
  obtain ⟨hE1, hE2⟩ := HEE.out
  clear HEE
  by_cases hs : M ≤ 255
  · have hs2 : decide (255 < (M : Int)) = false := by simp; omega
    rw [if_pos hs] at hE1
    rw [if_pos (.inr hs)] at hE2
    subst hE1 hE2
    rcases HJ.out with ⟨rfl, rfl⟩ | ⟨rfl, rfl⟩ | ⟨rfl, rfl⟩ | ⟨rfl, rfl⟩ | ⟨rfl, rfl⟩ | ⟨rfl, rfl⟩
    all_goals
      go_wp2_with fail
      go_ret
      exact ⟨rfl, HT5.out⟩
  · have hs2 : decide (255 < (M : Int)) = true := by simp; omega
    rw [if_neg hs] at hE1
    subst hE1
    rcases HJ.out with ⟨rfl, rfl⟩ | ⟨rfl, rfl⟩ | ⟨rfl, rfl⟩ | ⟨rfl, rfl⟩ | ⟨rfl, rfl⟩ | ⟨rfl, rfl⟩
    all_goals
      simp [hs] at hE2
      subst hE2
      go_wp2_with fail
      go_ret
      exact ⟨rfl, HT5.out⟩

end Go.Proofs.Ytkbboingeacgjaa
