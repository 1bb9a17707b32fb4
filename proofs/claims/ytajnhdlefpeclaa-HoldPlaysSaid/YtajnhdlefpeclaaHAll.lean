/-
  copiedAll, Due, walked.
-/
import Derived.Test.YtajnhdlefpeclaaHCopy
namespace Go.Proofs.Ytajnhdlefpeclaa.Ho
open Go.RowKit Go.Maps

theorem take_succ_flat {l : List Hd} {k : Nat} (hk : k < l.length) : l.take (k + 1) = l.take k ++ [l.getD k Hd.nil] := by
  rw [List.take_add_one, List.getElem?_eq_getElem hk, List.getD_eq_getElem?_getD, List.getElem?_eq_getElem hk]
  rfl

/-- A row of rows of holds in memory. -/
def PiecesAt (w : World) (g : Nat) (ls : List (Option Addr × Nat × List Hd)) : Prop := ∀ i (h : i < ls.length), w.cell? ⟨g, i, none⟩ = some (.slice ls[i].1 ls[i].2.2.length ls[i].2.1) ∧ HoldsAt w ls[i].1 ls[i].2.1 ls[i].2.2
theorem PiecesAt.turn {w w' : World} {g : Nat} {ls : List (Option Addr × Nat × List Hd)} (h : PiecesAt w g ls) (hT : Turn [] w w') : PiecesAt w' g ls := fun i hi =>
  ⟨(hT.cell (p := ⟨g, i, none⟩) (lt_of_cell (h i hi).1) (by simp)).trans (h i hi).1, (h i hi).2.turn0 hT⟩
/-- All of them, one behind another. -/
def flatS (ls : List (Option Addr × Nat × List Hd)) : List Hd := (ls.map (·.2.2)).flatten
theorem flatS_take {ls : List (Option Addr × Nat × List Hd)} {k : Nat} (h : k < ls.length) : flatS (ls.take (k + 1)) = flatS (ls.take k) ++ ls[k].2.2 := by
  unfold flatS
  rw [List.take_add_one, List.getElem?_eq_getElem h, List.map_append, List.flatten_append]
  congr 1
  simp
theorem flatS_le {ls : List (Option Addr × Nat × List Hd)} (k : Nat) : (flatS (ls.take k)).length ≤ (flatS ls).length := by
  have : flatS ls = flatS (ls.take k) ++ flatS (ls.drop k) := by
    unfold flatS
    rw [← List.flatten_append, ← List.map_append, List.take_append_drop]
  rw [this, List.length_append]
  omega

set_option maxRecDepth 100000 in
set_option maxHeartbeats 4000000 in
theorem copiedAll_any (g c : Nat) (ls : List (Option Addr × Nat × List Hd)) (w : World) (hn : ls.length ≤ 100) (hlen : (flatS ls).length ≤ 1000) (hF : Fit 1000 (flatS ls)) (hL : PiecesAt w g ls) :
    Calls Try.prog 23 #[.slice (some ⟨g, 0, none⟩) ls.length c] w fun e w' => ∃ a c', e = .returned (.slice a (flatS ls).length c') ∧ HoldsAt w' a c' (flatS ls) ∧ Turn [] w w' := by
  have HF := hide hF
  have HL := hide hL
  have HLen := hide hlen
  clear hF hL hlen
  go_enter Try.func23, Try.ntmps23
  go_wp2_with fail
  go_loopw [3, 10] (fun v i wr => ∃ (k : Nat) (rs : List Hr), k ≤ ls.length ∧ i = .int .i64 k ∧ Hid (rs.map Hr.x = flatS (ls.take k)) ∧ Hid (Own wr w.heap.size v rs) ∧ Turn [] w wr) (fun _ i _ => ls.length - (intOf i).toNat)
  case atStart => exact ⟨0, [], Nat.zero_le _, rfl, rfl, Own.nil _ _, Turn.refl _ _⟩
  case round =>
    obtain ⟨k, rs, hk, rfl, HR, HO, hT⟩ := hrel
    have HT := hide hT
    clear hT
    by_cases hlt : k < ls.length
    · have hc := ((HL.out.turn HT.out) k hlt).1
      have hA := (HL.out k hlt).2
      have HS := hide (flatS_take hlt)
      have HB := hide (flatS_le (ls := ls) (k + 1))
      have HFk : Hid (∀ x ∈ ls[k].2.2, x.ps.length ≤ 1000) := fun x hx => HF.out x (by unfold flatS; simp only [List.mem_flatten, List.mem_map]; exact ⟨_, ⟨_, List.getElem_mem hlt, rfl⟩, hx⟩)
      generalize ls[k] = p at *
      obtain ⟨a, cp, l⟩ := p
      simp only at hc hA HS HFk
      obtain ⟨qs, rfl, hQ, hOk, hA⟩ := hA
      clear hA
      rw [List.length_map] at hc
      have hg := lt_of_cell hc
      have HQ := hide hQ
      have HOk := hide hOk
      have hql : qs.length ≤ 1000 := by
        have h1 := HB.out
        have h2 := HLen.out
        rw [HS.out, List.length_append, List.length_map] at h1
        omega
      clear hQ hOk
      go_wp2_with fail
      clear hc
      go_loopw [3, 16] (fun v i wr' => ∃ (j : Nat) (rs' : List Hr), j ≤ qs.length ∧ i = .int .i64 j ∧ Hid (rs'.map Hr.x = flatS (ls.take k) ++ (qs.map Hr.x).take j) ∧ Hid (Own wr' w.heap.size v rs') ∧ Turn [] w wr') (fun _ i _ => qs.length - (intOf i).toNat)
      case atStart => exact ⟨0, rs, Nat.zero_le _, rfl, by unfold Hid; rw [HR.out]; simp, HO, HT.out⟩
      case round =>
        obtain ⟨j, rs', hj, rfl, HR', HO', hT'⟩ := hrel
        have HT' := hide hT'
        clear hT'
        by_cases hjl : j < qs.length
        · obtain ⟨b, off, rfl, c0, c1, c2, c3⟩ := (HQ.out.turn0 HT'.out).at hjl
          have hb := lt_of_cell c0
          have HOr := hide ((HOk.out _ (mem_getD' hjl)).turn0 HT'.out)
          have HFr : Hid ((qs.getD j Hr.nil).x.ps.length ≤ 1000) := HFk.out _ (List.mem_map.2 ⟨_, mem_getD' hjl, rfl⟩)
          have HX : Hid ((qs.map Hr.x).take (j + 1) = (qs.map Hr.x).take j ++ [(qs.getD j Hr.nil).x]) := by
            unfold Hid
            rw [take_succ_flat (by rw [List.length_map]; exact hjl), map_getD]
          generalize qs.getD j Hr.nil = r at *
          go_wp2_with fail
          have HTa := hide ((Turn.refl [] wr).alloc (.cells #[.int .i64 r.x.id, .slice r.a r.x.ps.length r.c, .int .i64 r.x.ov, .int .i64 r.x.un] 27))
          refine (copied_any r _ HFr.out (HOr.out.turn0 HTa.out)).mono ?_
          rintro e w1 ⟨g1, hg1, rfl, hP1, hT1⟩
          have hT1 := HTa.out.trans hT1
          have HP1 := hide hP1
          have HT1 := hide hT1
          have HO1 := hide (HO'.out.turn hT1)
          have HTw := hide (HT'.out.trans hT1)
          have hsz := HTw.out.size
          have HN : Hid (∀ q, u3.ownBlock = some q → g1 ≠ q) := fun q hq => by
            have h1 := (own_ge HO'.out.row hq).2
            have h2 := HTa.out.size
            omega
          have hrl : rs'.length ≤ 2000 := by
            have h1 := congrArg List.length HR'.out
            have h2 := flatS_le (ls := ls) k
            have h3 := HLen.out
            rw [List.length_map, List.length_append, List.length_take, List.length_map] at h1
            omega
          have HW1 : Hid (w1.heap.size = w1.heap.size) := rfl
          clear hP1 hT1 hg1 c0 c1 c2 c3 HTa HO'
          go_wp2_with (first | (at_builtin; refine append_hold rfl _ _ rfl w.heap.size u3 rs' ⟨r.x, some ⟨g1, 0, none⟩, r.x.ps.length⟩ rfl HO1.out w1.heap.size rfl rfl (by omega) hsz ⟨HP1.out, fun e => by cases e⟩ (fun q hq x hx _ => by obtain rfl := Option.some.inj hx; exact HN.out q hq) ?_; intro v' w5 hown5 hT5) | fail)
          have HO5 := hide hown5
          have HT5 : Hid (Turn [] w w5) := hT5 w (Nat.le_refl _) HTw.out
          have HR5 : Hid ((rs' ++ [(⟨r.x, some ⟨g1, 0, none⟩, r.x.ps.length⟩ : Hr)]).map Hr.x = flatS (ls.take k) ++ (qs.map Hr.x).take (j + 1)) := by
            unfold Hid
            rw [List.map_append, HR'.out, HX.out, List.append_assoc]
            rfl
          clear hown5 hT5 HO1
          go_wp2_with fail
          go_roundw
          case rel => exact ⟨j + 1, _, by omega, by go_num, HR5, HO5, HT5.out⟩
          case measure => simp [intOf]; omega
        · obtain rfl : j = qs.length := by omega
          have HR2 : Hid (rs'.map Hr.x = flatS (ls.take (k + 1))) := by
            unfold Hid
            have e : (qs.map Hr.x).take qs.length = qs.map Hr.x := List.take_of_length_le (by simp)
            rw [HR'.out, HS.out, e]
          go_wp2_with fail
          go_roundw
          case rel => exact ⟨k + 1, rs', by omega, by go_num, HR2, HO', HT'.out⟩
          case measure => simp [intOf]; omega
    · obtain rfl : k = ls.length := by omega
      obtain ⟨a, c', rfl, hA⟩ := HO.out.holds
      have hl : rs.length = (flatS ls).length := by have := congrArg List.length HR.out; rw [List.length_map, List.take_of_length_le (Nat.le_refl _)] at this; exact this
      rw [HR.out, List.take_of_length_le (Nat.le_refl _)] at hA
      have HA := hide hA
      have HL2 := hide hl
      clear hA hl
      go_wp2_with fail
      go_ret
      exact ⟨a, c', congrArg (fun n => Ending.returned (.slice a n c')) HL2.out, HA.out, HT.out⟩

end Go.Proofs.Ytajnhdlefpeclaa.Ho
