/-
  Rows of pairs of cells; slices.Grow of nothing, slices.Concat: of leaves.
-/
import Derived.Test.YthgpjkcgccdldaaGreatDoorV06
import Derived.Maps.AppendAt
import Derived.Laws.AppendOwnNone
import Derived.Lib.AppendZerosOnto
import Derived.Lib.AppendZeros

namespace Go.Proofs.YthgpjkcgccdldaaGreatDoor
open Go.RowKit Go.Maps

theorem infoE : (Tryz.prog.info? 55).map (fun i => (i.zero.map fun z => z.cells.size, i.size, i.bytes)) = some (some 2, 2, 32) := by kernel_rfl

theorem info_all : ∃ i z, Tryz.prog.info? 55 = some i ∧ i.zero = some z ∧ z.cells.size = 2 ∧ i.size = 2 ∧ i.bytes = 32 := by
  have h := infoE
  cases hi : Tryz.prog.info? 55 with
  | none => rw [hi] at h; cases h
  | some i =>
    rw [hi] at h
    cases hz : i.zero with
    | none => rw [Option.map_some, hz] at h; cases h
    | some z =>
      rw [Option.map_some, hz] at h
      have h := Option.some.inj h
      simp only [Option.map_some, Prod.mk.injEq, Option.some.injEq] at h
      exact ⟨i, z, rfl, hz, h.1, h.2.1, h.2.2⟩

theorem zeroCells_size (z : Array Value) (k : Nat) : (Builtin.zeroCells z k).size = k * z.size := by
  unfold Builtin.zeroCells
  simp
  try omega

set_option maxRecDepth 100000 in
set_option maxHeartbeats 3200000 in
theorem grow_any (n : Nat) (hn : n ≤ 1000000) (w : World) : Calls Tryz.prog 133 #[.slice none 0 0, .int .i64 (n : Nat)] w fun e w' => ∃ v, e = .returned v ∧ w'.ownsRow w.heap.size 55 2 v 0 [] ∧ Turn [] w w' ∧ ∀ x, v.ownBlock = some x → w.heap.size ≤ x := by
  by_cases h0 : n = 0
  · subst h0
    go_enter Tryz.func133, Tryz.ntmps133
    go_wp2
    go_ret
    exact ⟨_, rfl, World.ownsRow_nil _ _ _ _, Turn.refl _ _, by simp [Value.ownBlock]⟩
  · obtain ⟨i0, z, hi0, hz, hzc, hsz, hby⟩ := info_all
    have hold : (Builtin.firstCells i0.size 0 (.slice none 0 0)).run Tryz.prog w.drew = .ok ([] : List Value).toArray w.drew := run_firstCells_none w.drew i0.size 0 0 0
    have hr : ∀ ty, (Builtin.append_ #[137, 3] ty #[.slice none 0 0, .int .i64 (n : Nat)]).run Tryz.prog w = .ok (.slice (some ⟨w.heap.size, 0, none⟩) (0 + n) (grownCap w (0 + n) 0 55)) (w.drew.alloc (.cells (([] : List Value).toArray ++ Builtin.zeroCells z.cells n ++ Builtin.zeroCells z.cells (grownCap w (0 + n) 0 55 - (0 + n))) 55)) := fun ty =>
      Lib.run_append_grow_zeros w 137 3 ty 55 i0 z .i64 .i64 Tryz.underlying137 Tryz.underlying3 hi0 hz none 0 0 [] hold n (by omega) (by omega) (by omega) (by omega) (by rw [hby]; omega) (growslice_fits (by omega) (by rw [hby]; omega))
    have hGn : 0 + n ≤ grownCap w (0 + n) 0 55 := grownCap_ge w _ _ _
    have hG63 := grownCap_le_maxLen w (0 + n) 0 55 (by unfold maxLen; omega)
    obtain ⟨G, hG⟩ : ∃ G, G = grownCap w (0 + n) 0 55 := ⟨_, rfl⟩
    rw [← hG] at hr hGn hG63
    have hsize : (([] : List Value).toArray ++ Builtin.zeroCells z.cells n ++ Builtin.zeroCells z.cells (G - (0 + n))).size = G * 2 := by
      rw [Array.size_append, Array.size_append, zeroCells_size, zeroCells_size, hzc]
      simp
      omega
    generalize ([] : List Value).toArray ++ Builtin.zeroCells z.cells n ++ Builtin.zeroCells z.cells (G - (0 + n)) = C at hr hsize
    have HR := hide hr
    have HSz := hide hsize
    have hn1 : ¬ ((n : Int) < 0) := by omega
    have hn2 : 0 < (n : Int) := by omega
    unfold maxLen at hG63
    clear hr hsize hG hold hi0 hz hzc hsz hby
    go_enter Tryz.func133, Tryz.ntmps133
    go_wp2_with (at_builtin; refine Lib.wpList_append_run _ rfl _ _ _ _ rfl _ _ rfl rfl _ _ (HR.out _) ?_)
    all_goals
      go_ret
      exact ⟨_, rfl, World.ownsRow_made w.drew C G (Nat.le_refl _) (by unfold maxLen; omega) HSz.out, (Turn.refl [] w).drew.alloc _, by simp [Value.ownBlock]⟩

/-- Rows that a slice of slices leads to. -/
def PartsAt (w : World) (b off : Nat) (ps : List (List (Value × Value))) : Prop :=
  ∀ i (h : i < ps.length), ∃ a c, w.cell? ⟨b, off + i, none⟩ = some (.slice a ps[i].length c) ∧ (a = none → c = 0) ∧ PairsAt w a ps[i]

theorem PartsAt.turn0 {w w' : World} {b off : Nat} {ps : List (List (Value × Value))} (h : PartsAt w b off ps) (hT : Turn [] w w') : PartsAt w' b off ps := fun i hi => by
  obtain ⟨a, c, h1, h2, h3⟩ := h i hi
  exact ⟨a, c, (hT.cell (p := ⟨b, off + i, none⟩) (lt_of_cell h1) (by simp)).trans h1, h2, h3.turn0 hT⟩

theorem append_pairs {ops : Array Oper} {rest : List Oper} {o : Oper} {a : Act} {Q : Exit → Act → World → Prop} {w : World} (hgd : o.guard = none) (s x : Operand)
    (ho : o.op = .call { callee := .builtin .append, args := #[s, x], argTypes := #[137, 137] }) (base : Nat) (v : Value) (n : Nat) (xs : List (Value × Value)) (hs : a.eval s = v) (hown : w.ownsRow base 55 2 v n (flat xs))
    (ak : Option Addr) (m c : Nat) (l : List (Value × Value)) (hx : a.eval x = .slice ak m c) (hm : l.length = m) (hnone : ak = none → c = 0) (hb : PairsAt w ak l) (h1 : OneCell l) (hbound : n + m ≤ 1000000) (hbase : base ≤ w.heap.size)
    (h : ∀ v' w', w'.ownsRow base 55 2 v' (n + m) (flat (xs ++ l)) → w.grownBy w' v.ownBlock → wpList Tryz.prog ops Q rest (a.put o.dst v') w') :
    wpList Tryz.prog ops Q (o :: rest) a w := by
  obtain ⟨i0, z, hi, hz0, hzc, hz1, hz2⟩ := info_all
  cases ak with
  | none =>
    obtain rfl := hnone rfl
    have hl : l = [] := by
      rcases hb with h | ⟨_, _, e, _⟩
      · exact h
      · cases e
    subst hl
    obtain rfl : 0 = m := hm
    refine wpList_append_own_none hgd s x 137 ho base 55 i0 2 Tryz.underlying137 hi v n _ hs hown hx (h v w ?_ (grownBy_refl _ _))
    simpa using hown
  | some ad =>
    refine wpList_append_own_at w hgd s x 137 ho base 55 i0 z 2 32 Tryz.underlying137 hi hz0 hz1 hz2 hzc (by decide) v n (flat xs) hs hown ad m c (flat l) hx (by rw [flat_length, hm]) hb.src (flat_one h1) (by unfold maxLen; omega) (by omega) hbase ?_
    intro v' w' h1 h2 _ _
    exact h v' w' (by rw [flat_append]; exact h1) h2

def tlen (ps : List (List (Value × Value))) : Nat := ps.flatten.length
theorem sum_take (ps : List (List (Value × Value))) (i : Nat) (hi : i < ps.length) : tlen (ps.take (i + 1)) = tlen (ps.take i) + ps[i].length := by
  unfold tlen
  rw [List.take_succ_eq_append_getElem hi, List.flatten_append, List.length_append]
  simp
theorem sum_le (ps : List (List (Value × Value))) (i : Nat) : tlen (ps.take i) ≤ tlen ps := by
  unfold tlen
  have h : ps.flatten = (ps.take i).flatten ++ (ps.drop i).flatten := by rw [← List.flatten_append, List.take_append_drop]
  rw [h, List.length_append]
  omega
theorem flat_take (ps : List (List (Value × Value))) (i : Nat) (hi : i < ps.length) : (ps.take (i + 1)).flatten = (ps.take i).flatten ++ ps[i] := by
  rw [List.take_succ_eq_append_getElem hi, List.flatten_append]
  simp

set_option maxRecDepth 100000 in
set_option maxHeartbeats 3200000 in
theorem concat_any (b off cap : Nat) (ps : List (List (Value × Value))) (hlen : ps.length ≤ 1000) (hsum : tlen ps ≤ 1000000) (h1 : ∀ p ∈ ps, OneCell p) (w : World) (hP : PartsAt w b off ps) :
    Calls Tryz.prog 97 #[.slice (some ⟨b, off, none⟩) ps.length cap] w fun e w' => ∃ v, e = .returned v ∧ w'.ownsRow w.heap.size 55 2 v (tlen ps) (flat ps.flatten) ∧ Turn [] w w' := by
  have HP := hide hP
  have HO := hide h1
  clear hP h1
  go_enter Tryz.func97, Tryz.ntmps97
  go_wp2_with fail
  go_loop [3, 5, 11] (fun sz _ i => ∃ i' : Nat, i' ≤ ps.length ∧ i = .int .i64 i' ∧ sz = .int .i64 (tlen (ps.take i') : Nat)) (fun _ _ i => ps.length - (intOf i).toNat)
  case atStart => exact ⟨0, Nat.zero_le _, rfl, rfl⟩
  case round =>
    obtain ⟨i, hi, rfl, rfl⟩ := hrel
    have hs := sum_le ps i
    by_cases hlt : i < ps.length
    · obtain ⟨a, c, hc, _, _⟩ := HP.out i hlt
      have hs1 := sum_le ps (i + 1)
      have HS := hide (sum_take ps i hlt)
      have hs2 : tlen (ps.take i) + ps[i].length ≤ 1000000 := by rw [← HS.out]; omega
      clear hs1
      generalize ps[i].length = k at *
      generalize tlen (ps.take i) = t at *
      go_wp2_with fail
      go_round
      case rel => exact ⟨i + 1, by omega, by go_num, by rw [HS.out]; go_num⟩
      case measure => simp [intOf]; omega
    · obtain rfl : i = ps.length := by omega
      have hst : tlen (ps.take ps.length) = tlen ps := by rw [List.take_length]
      rw [hst] at hs ⊢
      clear hst
      go_wp2_with fail
      refine (grow_any (tlen ps) hsum w).mono ?_
      rintro e w1 ⟨v1, rfl, hO1, hT1, hf1⟩
      have HO1 := hide hO1
      have HT1 := hide hT1
      have HP1 := hide (HP.out.turn0 hT1)
      clear hO1 hT1
      obtain ⟨tot, htot⟩ : ∃ tot, tot = tlen ps := ⟨_, rfl⟩
      rw [← htot]
      have HTot := hide htot
      have htl : tot ≤ 1000000 := by omega
      clear htot hs
      go_wp2_with fail
      go_loopw [6, 8, 27] (fun v _ i wr => ∃ i' : Nat, i' ≤ ps.length ∧ i = .int .i64 i' ∧ wr.ownsRow w.heap.size 55 2 v (tlen (ps.take i')) (flat (ps.take i').flatten) ∧ Turn [] w wr) (fun _ _ i _ => ps.length - (intOf i).toNat)
      case atStart => exact ⟨0, Nat.zero_le _, rfl, HO1.out, HT1.out⟩
      case round =>
        obtain ⟨i, hi, rfl, hO2, hT2⟩ := hrel
        have HO2 := hide hO2
        have HT2 := hide hT2
        clear hO2 hT2
        by_cases hlt : i < ps.length
        · obtain ⟨a, c, hc, hn, hpa⟩ := (HP.out.turn0 HT2.out) i hlt
          have HN := hide hn
          have HPa := hide hpa
          have h1' := HO.out ps[i] (List.getElem_mem hlt)
          have hb : tlen (ps.take i) + ps[i].length ≤ 1000000 := by
            have := sum_le ps (i + 1)
            rw [sum_take ps i hlt] at this
            omega
          have HF := hide (flat_take ps i hlt)
          have HL := hide (sum_take ps i hlt)
          have hw := HT2.out.size
          clear hn hpa
          go_wp2_with (first | (at_builtin; refine append_pairs rfl _ _ rfl w.heap.size u6 _ _ rfl HO2.out a ps[i].length c ps[i] rfl rfl HN.out HPa.out h1' hb hw ?_; intro v' w' g1 g2; have G1 := hide g1; have G2 := hide g2; clear g1 g2) | fail)
          go_roundw
          case rel =>
            refine ⟨i + 1, by omega, by go_num, ?_, ?_⟩
            · rw [HF.out, HL.out]
              exact G1.out
            · exact HT2.out.grown G2.out (fun k hk => by
                right
                have := (HO2.out.lt k hk).1
                omega)
          case measure => simp [intOf]; omega
        · obtain rfl : i = ps.length := by omega
          go_wp2_with fail
          go_ret
          have h := HO2.out
          rw [List.take_length] at h
          exact ⟨_, rfl, h, HT2.out⟩
end Go.Proofs.YthgpjkcgccdldaaGreatDoor
