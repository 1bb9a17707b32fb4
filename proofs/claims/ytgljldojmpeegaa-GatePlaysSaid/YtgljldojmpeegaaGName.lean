/-
  Names, walked: plan.Name, the reference's.
-/
import Derived.Test.YtgljldojmpeegaaGPure
import Derived.Deep.CutRange
namespace Go.Proofs.Ytgljldojmpeegaa.Ga
open Go.RowKit

set_option maxRecDepth 100000 in
set_option maxHeartbeats 2000000 in
theorem ofName_any (c : Int) (w : World) : Calls Try.prog 19 #[.int .u8 c] w fun e w' => e = .returned (.bool (ofB c)) ∧ w' = w := by
  obtain ⟨r, hr⟩ : ∃ r, r = ofB c := ⟨_, rfl⟩
  rw [← hr]
  have HR := hide (show (r = true ∧ (97 ≤ c ∧ c ≤ 122 ∨ 48 ≤ c ∧ c ≤ 57 ∨ c = 45)) ∨ (r = false ∧ ¬ (97 ≤ c ∧ c ≤ 122 ∨ 48 ≤ c ∧ c ≤ 57 ∨ c = 45)) by
    unfold ofB at hr
    by_cases h : (97 ≤ c ∧ c ≤ 122 ∨ 48 ≤ c ∧ c ≤ 57 ∨ c = 45)
    · rw [decide_eq_true h] at hr; exact .inl ⟨hr, h⟩
    · rw [decide_eq_false h] at hr; exact .inr ⟨hr, h⟩)
  clear hr
  go_enter Try.func19, Try.ntmps19
  go_wp2
  all_goals
    go_ret
    refine ⟨ret_bool ?_, rfl⟩
    rcases HR.out with ⟨rfl, h⟩ | ⟨rfl, h⟩ <;> grind

set_option maxRecDepth 100000 in
set_option maxHeartbeats 2000000 in
theorem pwithin_any (n a b : Int) (w : World) : Calls Try.prog 18 #[.int .i64 n, .int .i64 a, .int .i64 b] w fun e w' => e = .returned (.bool (decide (a ≤ n ∧ n ≤ b))) ∧ w' = w := by
  by_cases h1 : a ≤ n
  · by_cases h2 : n ≤ b
    · rw [decide_eq_true (⟨h1, h2⟩ : a ≤ n ∧ n ≤ b)]
      go_enter Try.func18, Try.ntmps18
      go_wp2
      go_ret
      exact ⟨ret_bool (by grind), rfl⟩
    · rw [decide_eq_false (fun h : a ≤ n ∧ n ≤ b => h2 h.2)]
      go_enter Try.func18, Try.ntmps18
      go_wp2
      go_ret
      exact ⟨ret_bool (by grind), rfl⟩
  · rw [decide_eq_false (fun h : a ≤ n ∧ n ≤ b => h1 h.1)]
    go_enter Try.func18, Try.ntmps18
    go_wp2
    go_ret
    exact ⟨ret_bool (by grind), rfl⟩

set_option maxRecDepth 100000 in
set_option maxHeartbeats 4000000 in
theorem name_any (s : ByteArray) (hs : s.size ≤ 9223372036854775807) (w : World) : Calls Try.prog 13 #[.string s] w fun e w' => e = .returned (.bool (nm s)) ∧ w' = w := by
  have hnot : ∀ (x : Bool) (w : World), (Op.unary .not (.bool x)).run Try.prog w = .ok (.bool (!x)) w := fun _ _ => rfl
  by_cases hsz : 1 ≤ s.size ∧ s.size ≤ 24
  · have HS := hide hsz
    have hd : decide ((1 : Int) ≤ (s.size : Int) ∧ (s.size : Int) ≤ 24) = true := decide_eq_true (by omega)
    have HD := hide hd
    clear hd hsz
    generalize hr : nm s = r
    have HR := hide hr
    clear hr
    go_enter Try.func13, Try.ntmps13
    go_wp2_with fail
    refine (pwithin_any s.size 1 24 w).mono ?_
    rintro e w1 ⟨rfl, rfl⟩
    rw [HD.out]
    go_wp2_with fail
    go_loop [10] (fun i => ∃ k : Nat, k ≤ s.size ∧ i = .int .i64 (k : Int) ∧ Hid (Front s k)) (fun i => s.size - (intOf i).toNat)
    case atStart => exact ⟨0, Nat.zero_le _, rfl, Front.zero s⟩
    case round =>
      obtain ⟨k, hk, rfl, HF⟩ := hrel
      by_cases hlt : k < s.size
      · have HA := hide (sign_at hlt)
        have hb0 := sign_bd s k
        go_wp2_with fail
        rw [← HA.out]
        refine (ofName_any (sign s k) _).mono ?_
        rintro e w2 ⟨rfl, rfl⟩
        cases ho : ofB (sign s k) with
        | true =>
          have HF' := hide (HF.out.step ho)
          clear ho HF HA hb0
          generalize sign s k = c at *
          go_wp2_with fail
          go_round
          case rel => exact ⟨k + 1, by omega, rfl, HF'⟩
          case measure => simp [intOf]; omega
        | false =>
          have HN := hide (nm_none hlt ho)
          rw [HR.out] at HN
          obtain rfl : r = false := HN.out
          clear ho HF HA hb0
          generalize sign s k = c at *
          go_wp2_with fail
          go_ret
          exact ⟨rfl, rfl⟩
      · obtain rfl : k = s.size := by omega
        have HN := hide (nm_front HF.out)
        rw [HR.out, decide_eq_true HS.out] at HN
        obtain rfl : r = true := HN.out
        go_wp2_with fail
        go_ret
        exact ⟨rfl, rfl⟩
  · have HS := hide hsz
    have hd : decide ((1 : Int) ≤ (s.size : Int) ∧ (s.size : Int) ≤ 24) = false := decide_eq_false (by omega)
    rw [nm_size hsz]
    have HD := hide hd
    clear hd hsz
    go_enter Try.func13, Try.ntmps13
    go_wp2_with fail
    refine (pwithin_any s.size 1 24 w).mono ?_
    rintro e w1 ⟨rfl, rfl⟩
    rw [HD.out]
    go_wp2_with fail
    go_ret
    exact ⟨rfl, rfl⟩

set_option maxRecDepth 100000 in
set_option maxHeartbeats 4000000 in
theorem rname_any (s : ByteArray) (hs : s.size ≤ 9223372036854775807) (w : World) : Calls Try.prog 7 #[.string s] w fun e w' => e = .returned (.bool (nm s)) ∧ w' = w := by
  generalize hr : nm s = r
  have HR := hide hr
  clear hr
  go_enter Try.func7, Try.ntmps7
  go_wp2_with fail
  go_loop [3] (fun i => ∃ k : Nat, k ≤ s.size ∧ i = .int .i64 (k : Int) ∧ Hid (Front s k)) (fun i => s.size - (intOf i).toNat)
  case atStart => exact ⟨0, Nat.zero_le _, rfl, Front.zero s⟩
  case round =>
    obtain ⟨k, hk, rfl, HF⟩ := hrel
    by_cases hlt : k < s.size
    · have HA := hide (sign_at hlt)
      have hb0 := sign_bd s k
      go_upto_region 5 with fail
      rw [← HA.out]
      cases ho : ofB (sign s k) with
      | true =>
        have HF' := hide (HF.out.step ho)
        have HO := hide (of_decide_eq_true ho)
        clear ho HF HA hb0
        generalize sign s k = c at *
        go_wp2_with fail
        all_goals first
          | (exfalso; have := HO.out; grind)
          | (go_round
             case rel => exact ⟨k + 1, by omega, rfl, HF'⟩
             case measure => simp [intOf]; omega)
      | false =>
        have HN := hide (nm_none hlt ho)
        rw [HR.out] at HN
        obtain rfl : r = false := HN.out
        have HO := hide (of_decide_eq_false ho)
        clear ho HF HA hb0
        generalize sign s k = c at *
        go_wp2_with fail
        all_goals first
          | (exfalso; have := HO.out; grind)
          | (go_ret
             exact ⟨rfl, rfl⟩)
    · obtain rfl : k = s.size := by omega
      have HN := hide (nm_front HF.out)
      rw [HR.out] at HN
      go_wp2_with fail
      all_goals
        go_ret
        refine ⟨ret_bool ?_, rfl⟩
        rw [HN.out]
        first
          | exact decide_eq_decide.2 (by omega)
          | exact (decide_eq_false (by omega)).symm

end Go.Proofs.Ytgljldojmpeegaa.Ga
