/-
  The law PagerPlays, what follows each call: there is room, root and number are right.
-/
import Derived.Test.YtjbjcjcahkfgbaaDoorPlFree
namespace Go.Proofs.YtjbjcjcahkfgbaaDoor.Pl
open Go.RowKit Go.Maps

/-- Those of the first i that are new. -/
theorem new_take (all done : List (Nat × List Nat)) (i : Nat) (hi : i < all.length) : (newOnes (all.take (i + 1)) done).length = (newOnes (all.take i) done).length + if all[i].1 ∈ done.map Prod.fst then 0 else 1 := by
  unfold newOnes
  rw [List.take_succ_eq_append_getElem hi, List.filter_append, List.length_append]
  by_cases h : all[i].1 ∈ done.map Prod.fst
  · rw [if_pos h]
    simp only [List.filter_cons, List.filter_nil]
    rw [if_neg (by simpa using h)]
    rfl
  · rw [if_neg h]
    simp only [List.filter_cons, List.filter_nil]
    rw [if_pos (by simpa using h)]
    rfl

theorem new_le (all done : List (Nat × List Nat)) : (newOnes all done).length ≤ all.length := List.length_filter_le _ _

set_option maxRecDepth 100000 in
set_option maxHeartbeats 3200000 in
theorem tail_any (w0 w : World) (L : Array Value) (Q : Exit → Act → World → Prop) (N : Nat) (ca : Option Addr) (cn cc b m p sm rb j : Nat) (s : St) (q : Pg) (vA vD : Value) (all done : List (Nat × List Nat)) (news wrote : Nat)
    (hj : j ≤ 120) (hN : 64 ≤ N ∧ N ≤ 163) (jj : Nat) (hS : Slots L N ca cn cc b p vA vD (textOf q.root) q.c news wrote jj) (hP : P3 w0 w N b m p sm rb j s q vA vD all done news wrote)
    (hQ : ∀ (L' : Array Value) (w' : World) (r : Bool), Slots L' N ca cn cc b p vA vD (textOf q.root) q.c news wrote jj → P3 w0 w' N b m p sm rb j s { q with rd := r } vA vD all done news wrote → Q .normal ⟨L', []⟩ w') :
    Code.wp Tryd.prog tail Q ⟨L, []⟩ w := by
  rw [lit L hS.size, hS.s0, hS.s1, hS.s5, hS.s7, hS.s9, hS.s10, hS.s11, hS.s12, hS.s13, hS.s14, hS.s15]
  generalize g L = u
  have HQ := hide hQ
  have HP := hide hP
  have hlA := hP.lenA
  have hlD := hP.lenD
  have huu := hP.u
  have hkk := hP.k
  have hqc : q.c ≤ 1000 := by have := hP.pat.laid.ck; omega
  obtain ⟨aA, cA, rfl, hPA, _⟩ := hP.rowA.slice
  obtain ⟨aD, cD, rfl, hPD, _⟩ := hP.rowD.slice
  have HPA := hide hPA
  have HPD := hide hPD
  clear hS hQ hP hPA hPD
  conv => arg 2; whnf
  go_wp2_with fail
  go_loop [26, 27] (fun bo i => ∃ k n : Nat, k ≤ all.length ∧ n ≤ k ∧ i = .int .i64 k ∧ bo = .int .i64 ((done.length : Int) + (n : Int)) ∧ Hid (n = (newOnes (all.take k) done).length)) (fun _ i => all.length - (intOf i).toNat)
  case atStart => exact ⟨0, 0, Nat.zero_le _, Nat.le_refl _, rfl, by simp, rfl⟩
  case round =>
    obtain ⟨k, n, hk, hn, rfl, rfl, HNn⟩ := hrel
    by_cases hlt : k < all.length
    · obtain ⟨ga, rfl, hc3, _⟩ := HPA.out.at hlt
      have HNT := hide (new_take all done k hlt)
      go_wp2_with fail
      refine (at_any aD cD done (all[k].1 : Nat) (by omega) w HPD.out).mono ?_
      rintro e w2 ⟨v, rfl, hv, rfl⟩
      by_cases hin : all[k].1 ∈ done.map Prod.fst
      · obtain ⟨hv1, hv2, _⟩ := place_yes hv _ rfl hin
        have HE : Hid (n = (newOnes (all.take (k + 1)) done).length) := by
          show _ = _
          rw [HNT.out, if_pos hin, ← HNn.out]
          rfl
        clear hv hin HNT hc3
        go_wp2_with fail
        go_round
        case rel => exact ⟨k + 1, n, by omega, by omega, by go_num, rfl, HE⟩
        case measure => simp [intOf]; omega
      · obtain rfl := place_no hv (fun k' e hm => hin (by rw [Int.ofNat.inj e]; exact hm))
        have HE : Hid (n + 1 = (newOnes (all.take (k + 1)) done).length) := by
          show _ = _
          rw [HNT.out, if_neg hin, ← HNn.out]
        clear hv hin HNT hc3
        go_wp2_with fail
        go_round
        case rel => exact ⟨k + 1, n + 1, by omega, by omega, by go_num, by go_num, HE⟩
        case measure => simp [intOf]; omega
    · obtain rfl : k = all.length := by omega
      have hleft : N - 4 ≤ q.left N + (done.length + n) := by
        have h1 := HP.out.plain.left N (by omega)
        have h2 := HNn.out
        rw [List.take_length] at h2
        omega
      obtain ⟨lf, hlf⟩ : ∃ lf, lf = q.left N := ⟨_, rfl⟩
      rw [← hlf] at hleft
      have hlle := left_le q N
      rw [← hlf] at hlle
      have hn' : n ≤ 120 := by omega
      have HLf := hide (left_any p b m sm rb s q HP.out.live w HP.out.pat)
      rw [HP.out.n, ← hlf] at HLf
      clear hlf HNn
      go_wp2_with fail
      refine HLf.out.mono ?_
      rintro e w5 ⟨rfl, hA5, hT5⟩
      have HP5 := hide (HP.out.rd hA5 hT5)
      have hle : ¬ ((lf : Int) < (N : Int) - 32 - ((done.length : Int) + (n : Int))) := by omega
      clear hA5 hT5 HP HLf
      go_wp2_with fail
      refine (root_any p b sm rb s.n _ 0 { q with rd := true } HP5.out.rl w5 HP5.out.pat.pg).mono ?_
      rintro e w6 ⟨a6, c6, rfl, hB6, _, hT6⟩
      have hcv := text_at hB6 q.root.length c6 rfl
      have HP6 := hide (HP5.out.turn0 hT6)
      clear hB6 hT6
      generalize textOf q.root = tr at *
      generalize q.root.length = nr at *
      go_wp2_with fail
      refine (seq_any p b sm rb s.n _ 0 { q with rd := true } (by show q.c < 1000000000; omega) w6 HP6.out.pat.pg).mono ?_
      rintro e w7 ⟨rfl, rfl⟩
      go_wp2_with fail
      exact HQ.out _ _ true ⟨rfl, rfl, rfl, rfl, rfl, rfl, rfl, rfl, rfl, rfl, rfl, rfl⟩ HP6.out
end Go.Proofs.YtjbjcjcahkfgbaaDoor.Pl
