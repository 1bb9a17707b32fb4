/-
  Due, Find, walked.
-/
import Derived.Test.YtajnhdlefpeclaaHAll
import Derived.Test.YtajnhdlefpeclaaHFns
namespace Go.Proofs.Ytajnhdlefpeclaa.Ho
open Go.RowKit Go.Maps

theorem filter_take_step {l : List Hd} {k : Nat} (p : Hd → Bool) (hk : k < l.length) : (l.take (k + 1)).filter p = (l.take k).filter p ++ if p (l.getD k Hd.nil) then [l.getD k Hd.nil] else [] := by
  rw [take_succ_flat hk, List.filter_append]
  congr 1
  cases h : p (l.getD k Hd.nil)
  · rw [List.filter_cons_of_neg (by rw [h]; exact Bool.false_ne_true)]; rfl
  · rw [List.filter_cons_of_pos h]; rfl
theorem filter_take_len {l : List Hd} (p : Hd → Bool) (k : Nat) : ((l.take k).filter p).length ≤ l.length := Nat.le_trans (List.length_filter_le _ _) (by rw [List.length_take]; omega)

set_option maxRecDepth 100000 in
set_option maxHeartbeats 4000000 in
theorem due_any (a : Option Addr) (c : Nat) (l : List Hd) (now : Int) (w : World) (hlen : l.length ≤ 1000) (hF : Fit 1000 l) (hL : HoldsAt w a c l) :
    Calls Try.prog 14 #[.slice a l.length c, .int .i64 now] w fun e w' => ∃ a' c', e = .returned (.slice a' (due l now).length c') ∧ HoldsAt w' a' c' (due l now) ∧ Turn [] w w' := by
  obtain ⟨qs, rfl, hQ, hOk, hA⟩ := hL
  rw [List.length_map] at hlen ⊢
  have HQ := hide hQ
  have HOk := hide hOk
  have HF := hide hF
  clear hQ hOk hA hF
  go_enter Try.func14, Try.ntmps14
  go_wp2_with fail
  go_loopw [5, 10] (fun v i wr => ∃ (j : Nat) (rs : List Hr), j ≤ qs.length ∧ i = .int .i64 j ∧ Hid (rs.map Hr.x = due ((qs.map Hr.x).take j) now) ∧ Hid (Own wr w.heap.size v rs) ∧ Turn [] w wr) (fun _ i _ => qs.length - (intOf i).toNat)
  case atStart => exact ⟨0, [], Nat.zero_le _, rfl, rfl, Own.nil _ _, Turn.refl _ _⟩
  case round =>
    obtain ⟨j, rs, hj, rfl, HR, HO, hT⟩ := hrel
    have HT := hide hT
    clear hT
    by_cases hjl : j < qs.length
    · obtain ⟨b, off, rfl, c0, c1, c2, c3⟩ := (HQ.out.turn0 HT.out).at hjl
      have hb := lt_of_cell c0
      have HOr := hide ((HOk.out _ (mem_getD' hjl)).turn0 HT.out)
      have HFr : Hid ((qs.getD j Hr.nil).x.ps.length ≤ 1000) := HF.out _ (List.mem_map.2 ⟨_, mem_getD' hjl, rfl⟩)
      have HX := hide (filter_take_step (fun h => decide (h.un ≤ now)) (show j < (qs.map Hr.x).length by rw [List.length_map]; exact hjl))
      rw [map_getD] at HX
      have hrl : rs.length ≤ 2000 := by
        have h1 := congrArg List.length HR.out
        have h2 := filter_take_len (l := qs.map Hr.x) (fun h => decide (h.un ≤ now)) j
        rw [List.length_map] at h1 h2
        change rs.length = (List.filter _ _).length at h1
        omega
      generalize qs.getD j Hr.nil = r at *
      by_cases hu : r.x.un ≤ now
      · simp only [decide_eq_true hu, if_true] at HX
        go_wp2_with fail
        have HTa := hide ((Turn.refl [] wr).alloc (.cells #[.int .i64 r.x.id, .slice r.a r.x.ps.length r.c, .int .i64 r.x.ov, .int .i64 r.x.un] 27))
        refine (copied_any r _ HFr.out (HOr.out.turn0 HTa.out)).mono ?_
        rintro e w1 ⟨g1, hg1, rfl, hP1, hT1⟩
        have hT1 := HTa.out.trans hT1
        have HP1 := hide hP1
        have HO1 := hide (HO.out.turn hT1)
        have HTw := hide (HT.out.trans hT1)
        have hsz := HTw.out.size
        have HN : Hid (∀ q, u5.ownBlock = some q → g1 ≠ q) := fun q hq => by
          have h1 := (own_ge HO.out.row hq).2
          have h2 := HTa.out.size
          omega
        clear hP1 hT1 hg1 c0 c1 c2 c3 HTa HO hu
        go_wp2_with (first | (at_builtin; refine append_hold rfl _ _ rfl w.heap.size u5 rs ⟨r.x, some ⟨g1, 0, none⟩, r.x.ps.length⟩ rfl HO1.out w1.heap.size rfl rfl (by omega) hsz ⟨HP1.out, fun e => by cases e⟩ (fun q hq x hx _ => by obtain rfl := Option.some.inj hx; exact HN.out q hq) ?_; intro v' w5 hown5 hT5) | fail)
        have HO5 := hide hown5
        have HT5 : Hid (Turn [] w w5) := hT5 w (Nat.le_refl _) HTw.out
        have HR5 : Hid ((rs ++ [(⟨r.x, some ⟨g1, 0, none⟩, r.x.ps.length⟩ : Hr)]).map Hr.x = due ((qs.map Hr.x).take (j + 1)) now) := by
          unfold Hid due
          rw [List.map_append, HR.out, HX.out]
          rfl
        clear hown5 hT5 HO1
        go_wp2_with fail
        go_roundw
        case rel => exact ⟨j + 1, _, by omega, by go_num, HR5, HO5, HT5.out⟩
        case measure => simp [intOf]; omega
      · have HR5 : Hid (rs.map Hr.x = due ((qs.map Hr.x).take (j + 1)) now) := by
          have := HX.out
          rw [decide_eq_false hu] at this
          unfold Hid due
          rw [HR.out, this]
          exact (List.append_nil _).symm
        clear HX
        go_wp2_with fail
        have HO5 := hide (HO.out.turn ((Turn.refl [] wr).alloc (.cells #[.int .i64 r.x.id, .slice r.a r.x.ps.length r.c, .int .i64 r.x.ov, .int .i64 r.x.un] 27)))
        go_roundw
        case rel => exact ⟨j + 1, _, by omega, by go_num, HR5, HO5, HT.out.alloc _⟩
        case measure => simp [intOf]; omega
    · obtain rfl : j = qs.length := by omega
      obtain ⟨a', c', rfl, hA⟩ := HO.out.holds
      have e : (qs.map Hr.x).take qs.length = qs.map Hr.x := List.take_of_length_le (by simp)
      rw [e] at HR
      have HL2 : Hid (rs.length = (due (qs.map Hr.x) now).length) := by have := congrArg List.length HR.out; rw [List.length_map] at this; exact this
      rw [HR.out] at hA
      have HA := hide hA
      clear hA e
      go_wp2_with fail
      go_ret
      exact ⟨a', c', congrArg (fun n => Ending.returned (.slice a' n c')) HL2.out, HA.out, HT.out⟩

set_option maxRecDepth 100000 in
set_option maxHeartbeats 4000000 in
theorem find_any (a : Option Addr) (c : Nat) (l : List Hd) (i : Int) (w : World) (hU : Up l) (hlen : l.length ≤ 1000) (hF : Fit 1000 l) (hL : HoldsAt w a c l) :
    Calls Try.prog 9 #[.slice a l.length c, .int .i64 i] w fun e w' => ∃ r : Hr, e = .returned (.tuple #[hrV r, .bool (fnd l i).isSome]) ∧ r.x = (fnd l i).getD Hd.nil ∧ r.Ok w' ∧ Turn [] w w' := by
  obtain ⟨qs, rfl, hQ, hOk, hA⟩ := hL
  rw [List.length_map] at hlen ⊢
  have HQ := hide hQ
  have HOk := hide hOk
  have HF := hide hF
  have HU := hide hU
  clear hQ hOk hA hF hU
  have HT0 := hide ((Turn.refl [] w).alloc (.cells #[.int .i64 0, .slice none 0 0, .int .i64 0, .int .i64 0] 27))
  have hb0 : (w.alloc (.cells #[.int .i64 0, .slice none 0 0, .int .i64 0, .int .i64 0] 27)).heap[w.heap.size]? = some (.cells #[.int .i64 0, .slice none 0 0, .int .i64 0, .int .i64 0] 27) := Array.getElem?_push_size
  have HB0 := hide hb0
  clear hb0
  go_enter Try.func9, Try.ntmps9
  go_wp2_with fail
  refine (place_any a c qs i HU.out (by omega) _ (HQ.out.turn0 HT0.out)).mono ?_
  rintro e w1 ⟨f, t, rfl, hPl, htf, hT1⟩
  have HPl := hide hPl
  have HT1 := hide (HT0.out.trans hT1)
  have h1 := (hT1.block w.heap.size (by simp) (by simp)).trans HB0.out
  have hlt1 : w.heap.size < w1.heap.size := by have := hT1.size; simp at this; omega
  have d0 : w1.cell? ⟨w.heap.size, 0, none⟩ = some (.int .i64 0) := by unfold World.cell?; rw [h1]; rfl
  have d1 : w1.cell? ⟨w.heap.size, 1, none⟩ = some (.slice none 0 0) := by unfold World.cell?; rw [h1]; rfl
  have d2 : w1.cell? ⟨w.heap.size, 2, none⟩ = some (.int .i64 0) := by unfold World.cell?; rw [h1]; rfl
  have d3 : w1.cell? ⟨w.heap.size, 3, none⟩ = some (.int .i64 0) := by unfold World.cell?; rw [h1]; rfl
  have fz : ∀ o, w1.frozen? ⟨w.heap.size, o, none⟩ = false := fun o => by unfold World.frozen?; rw [h1]; simp
  have HB1 := hide h1
  have hft := hPl.le
  have htl := hPl.len
  rw [List.length_map] at htl
  clear hPl hT1 h1
  by_cases hft' : f = t
  · subst hft'
    have HN := hide (HPl.out.no rfl)
    clear HPl
    go_wp2_with fail
    have hst := hr_store d0 d1 d2 d3 Hr.nil
    have HT6 := hide (Turn.new (Turn.new (Turn.new (Turn.new HT1.out (Nat.le_refl w.heap.size) 0 (.int .i64 0)) (Nat.le_refl w.heap.size) 1 (.slice none 0 0)) (Nat.le_refl w.heap.size) 2 (.int .i64 0)) (Nat.le_refl w.heap.size) 3 (.int .i64 0))
    change HrIn ((((w1.setCell ⟨w.heap.size, 0, none⟩ (.int .i64 0)).setCell ⟨w.heap.size, 1, none⟩ (.slice none 0 0)).setCell ⟨w.heap.size, 2, none⟩ (.int .i64 0)).setCell ⟨w.heap.size, 3, none⟩ (.int .i64 0)) _ _ _ at hst
    generalize (((w1.setCell ⟨w.heap.size, 0, none⟩ (.int .i64 0)).setCell ⟨w.heap.size, 1, none⟩ (.slice none 0 0)).setCell ⟨w.heap.size, 2, none⟩ (.int .i64 0)).setCell ⟨w.heap.size, 3, none⟩ (.int .i64 0) = w6 at *
    obtain ⟨k0, k1, k2, k3⟩ := hst
    simp only [Nat.zero_add, Hr.nil, Hd.nil, List.length_nil] at k0 k1 k2 k3
    clear d0 d1 d2 d3 fz
    refine bodyPost_ret (v := .tuple #[hrV Hr.nil, .bool false]) ?_ rfl ⟨Hr.nil, by rw [HN.out]; rfl, by rw [HN.out]; rfl, ⟨.inl rfl, fun _ => rfl⟩, HT6.out⟩
    simp [results, Try.results9, go_sem, k0, k1, k2, k3, Hr.nil, Hd.nil]
  · have hlt : f < t := by omega
    have HN := hide (HPl.out.yes hlt)
    rw [map_getD] at HN
    clear HPl
    have hfl : f < qs.length := by omega
    obtain ⟨b, off, rfl, c0, c1, c2, c3⟩ := (HQ.out.turn0 HT1.out).at hfl
    have hb := lt_of_cell c0
    have HOr := hide ((HOk.out _ (mem_getD' hfl)).turn0 HT1.out)
    have HFr : Hid ((qs.getD f Hr.nil).x.ps.length ≤ 1000) := HF.out _ (List.mem_map.2 ⟨_, mem_getD' hfl, rfl⟩)
    generalize qs.getD f Hr.nil = r at *
    go_wp2_with fail
    refine (copied_any r _ HFr.out HOr.out).mono ?_
    rintro e w2 ⟨g1, hg1, rfl, hP1, hT2⟩
    have HP2 := hide hP1
    have HT2 := hide (HT1.out.trans hT2)
    have h2 := (hT2.block w.heap.size (by omega) (by simp)).trans HB1.out
    have hlt2 : w.heap.size < w2.heap.size := by have := hT2.size; omega
    have hgn : g1 ≠ w.heap.size := by omega
    clear d0 d1 d2 d3 fz hP1 hT2 c0 c1 c2 c3
    have d0 : w2.cell? ⟨w.heap.size, 0, none⟩ = some (.int .i64 0) := by unfold World.cell?; rw [h2]; rfl
    have d1 : w2.cell? ⟨w.heap.size, 1, none⟩ = some (.slice none 0 0) := by unfold World.cell?; rw [h2]; rfl
    have d2 : w2.cell? ⟨w.heap.size, 2, none⟩ = some (.int .i64 0) := by unfold World.cell?; rw [h2]; rfl
    have d3 : w2.cell? ⟨w.heap.size, 3, none⟩ = some (.int .i64 0) := by unfold World.cell?; rw [h2]; rfl
    have fz : ∀ o, w2.frozen? ⟨w.heap.size, o, none⟩ = false := fun o => by unfold World.frozen?; rw [h2]; simp
    clear h2
    go_wp2_with fail
    have hst := hr_store d0 d1 d2 d3 ⟨r.x, some ⟨g1, 0, none⟩, r.x.ps.length⟩
    have HT6 := hide (Turn.new (Turn.new (Turn.new (Turn.new HT2.out (Nat.le_refl w.heap.size) 0 (.int .i64 r.x.id)) (Nat.le_refl w.heap.size) 1 (.slice (some ⟨g1, 0, none⟩) r.x.ps.length r.x.ps.length)) (Nat.le_refl w.heap.size) 2 (.int .i64 r.x.ov)) (Nat.le_refl w.heap.size) 3 (.int .i64 r.x.un))
    have HP6 := hide (HP2.out.turn (S := [w.heap.size]) (((((Turn.refl _ w2).setCell (show w.heap.size ∈ [w.heap.size] by simp) 0 (.int .i64 r.x.id)).setCell (show w.heap.size ∈ [w.heap.size] by simp) 1 (.slice (some ⟨g1, 0, none⟩) r.x.ps.length r.x.ps.length)).setCell (show w.heap.size ∈ [w.heap.size] by simp) 2 (.int .i64 r.x.ov)).setCell (show w.heap.size ∈ [w.heap.size] by simp) 3 (.int .i64 r.x.un)) (fun x hx => by obtain rfl := Option.some.inj hx; simpa using hgn))
    simp only at hst
    generalize (((w2.setCell ⟨w.heap.size, 0, none⟩ (.int .i64 r.x.id)).setCell ⟨w.heap.size, 1, none⟩ (.slice (some ⟨g1, 0, none⟩) r.x.ps.length r.x.ps.length)).setCell ⟨w.heap.size, 2, none⟩ (.int .i64 r.x.ov)).setCell ⟨w.heap.size, 3, none⟩ (.int .i64 r.x.un) = w6 at *
    obtain ⟨k0, k1, k2, k3⟩ := hst
    simp only [Nat.zero_add] at k0 k1 k2 k3
    clear d0 d1 d2 d3 fz
    refine bodyPost_ret (v := .tuple #[hrV ⟨r.x, some ⟨g1, 0, none⟩, r.x.ps.length⟩, .bool true]) ?_ rfl ⟨⟨r.x, some ⟨g1, 0, none⟩, r.x.ps.length⟩, by rw [HN.out]; rfl, by rw [HN.out]; rfl, ⟨HP6.out, fun e => by cases e⟩, HT6.out⟩
    simp [results, Try.results9, go_sem, k0, k1, k2, k3]

end Go.Proofs.Ytajnhdlefpeclaa.Ho
