/-
  The reference's Find, Drop, Due, Put, walked.
-/
import Derived.Test.YtajnhdlefpeclaaHDue
import Derived.Test.YtajnhdlefpeclaaHPlain
import Derived.Test.YtajnhdlefpeclaaHPut
import Derived.Test.YtajnhdlefpeclaaHKnown
namespace Go.Proofs.Ytajnhdlefpeclaa.Ho
open Go.RowKit Go.Maps

theorem fnd_drop_step {l : List Hd} {k : Nat} {i : Int} (hk : k < l.length) (h : (l.getD k Hd.nil).id ≠ i) : fnd (l.drop k) i = fnd (l.drop (k + 1)) i := by
  rw [List.getD_eq_getElem?_getD, List.getElem?_eq_getElem hk] at h
  rw [List.drop_eq_getElem_cons hk]
  exact List.find?_cons_of_neg (by simpa using h)
theorem fnd_drop_yes {l : List Hd} {k : Nat} {i : Int} (hk : k < l.length) (h : (l.getD k Hd.nil).id = i) : fnd (l.drop k) i = some (l.getD k Hd.nil) := by
  rw [List.getD_eq_getElem?_getD, List.getElem?_eq_getElem hk] at h ⊢
  rw [List.drop_eq_getElem_cons hk]
  exact List.find?_cons_of_pos (by simpa using h)

set_option maxRecDepth 100000 in
set_option maxHeartbeats 4000000 in
theorem rfind_any (a : Option Addr) (c : Nat) (l : List Hd) (i : Int) (w : World) (hlen : l.length ≤ 1000) (hL : HoldsAt w a c l) :
    Calls Try.prog 10 #[.slice a l.length c, .int .i64 i] w fun e w' => ∃ r : Hr, e = .returned (.tuple #[hrV r, .bool (fnd l i).isSome]) ∧ r.x = (fnd l i).getD Hd.nil ∧ r.Ok w' ∧ Turn [] w w' := by
  have HT0 := hide ((Turn.refl [] w).alloc (.cells #[.int .i64 0, .slice none 0 0, .int .i64 0, .int .i64 0] 27))
  obtain ⟨qs, rfl, hQ, hOk, hA⟩ := hL
  rw [List.length_map] at hlen ⊢
  have HL := hide (hQ.turn0 HT0.out)
  have HOw := hide hOk
  have HOW : Hid (∀ r ∈ qs, r.Ok (w.alloc (.cells #[.int .i64 0, .slice none 0 0, .int .i64 0, .int .i64 0] 27))) := fun r hr => (hOk r hr).turn0 HT0.out
  clear hQ hOk hA
  go_enter Try.func10, Try.ntmps10
  go_wp2_with fail
  obtain ⟨W, hW⟩ : ∃ W, W = w.alloc (.cells #[.int .i64 0, .slice none 0 0, .int .i64 0, .int .i64 0] 27) := ⟨_, rfl⟩
  have h1 : W.heap[w.heap.size]? = some (.cells #[.int .i64 0, .slice none 0 0, .int .i64 0, .int .i64 0] 27) := by rw [hW]; exact Array.getElem?_push_size
  have HTW : Hid (Turn [] w W) := by rw [hW]; exact HT0.out
  have HLW : Hid (HrsAt W a qs) := by rw [hW]; exact HL.out
  rw [← hW] at HOW ⊢
  have d0 : W.cell? ⟨w.heap.size, 0, none⟩ = some (.int .i64 0) := by unfold World.cell?; rw [h1]; rfl
  have d1 : W.cell? ⟨w.heap.size, 1, none⟩ = some (.slice none 0 0) := by unfold World.cell?; rw [h1]; rfl
  have d2 : W.cell? ⟨w.heap.size, 2, none⟩ = some (.int .i64 0) := by unfold World.cell?; rw [h1]; rfl
  have d3 : W.cell? ⟨w.heap.size, 3, none⟩ = some (.int .i64 0) := by unfold World.cell?; rw [h1]; rfl
  have fz : ∀ o, W.frozen? ⟨w.heap.size, o, none⟩ = false := fun o => by unfold World.frozen?; rw [h1]; simp
  have hgW := lt_of_cell d0
  have HG : Hid (w.heap.size ≤ w.heap.size) := Nat.le_refl _
  clear hW h1 HT0 HL
  go_loop [6] (fun u => ∃ k : Nat, k ≤ qs.length ∧ u = .int .i64 k ∧ Hid (fnd (qs.map Hr.x) i = fnd ((qs.map Hr.x).drop k) i)) (fun u => qs.length - (intOf u).toNat)
  case atStart => exact ⟨0, Nat.zero_le _, rfl, rfl⟩
  case round =>
    obtain ⟨k, hk, rfl, HF⟩ := hrel
    by_cases hlt : k < qs.length
    · obtain ⟨b, off, rfl, x0, x1, x2, x3⟩ := HLW.out.at hlt
      have hb := lt_of_cell x0
      have hok := HOW.out _ (mem_getD' hlt)
      have hokw := HOw.out _ (mem_getD' hlt)
      have hlm : k < (qs.map Hr.x).length := by rw [List.length_map]; exact hlt
      have hr : (qs.getD k Hr.nil).x = (qs.map Hr.x).getD k Hd.nil := (map_getD qs k).symm
      generalize qs.getD k Hr.nil = r at *
      by_cases hi : r.x.id = i
      · have HN : Hid (fnd (qs.map Hr.x) i = some r.x) := by
          unfold Hid
          rw [HF.out, hr]
          exact fnd_drop_yes hlm (by rw [← hr]; exact hi)
        have HOk := hide hok
        have HOkw := hide hokw
        clear hr hok hokw
        subst hi
        go_wp2_with fail
        have hst := hr_store d0 d1 d2 d3 r
        have HT6 := hide (Turn.new (Turn.new (Turn.new (Turn.new HTW.out HG.out 0 (.int .i64 r.x.id)) HG.out 1 (.slice r.a r.x.ps.length r.c)) HG.out 2 (.int .i64 r.x.ov)) HG.out 3 (.int .i64 r.x.un))
        have HO6 : Hid (r.Ok ((((W.setCell ⟨w.heap.size, 0, none⟩ (.int .i64 r.x.id)).setCell ⟨w.heap.size, 1, none⟩ (.slice r.a r.x.ps.length r.c)).setCell ⟨w.heap.size, 2, none⟩ (.int .i64 r.x.ov)).setCell ⟨w.heap.size, 3, none⟩ (.int .i64 r.x.un))) := by
          refine HOk.out.turn (S := [w.heap.size]) (((((Turn.refl _ W).setCell (show w.heap.size ∈ [w.heap.size] by simp) 0 _).setCell (show w.heap.size ∈ [w.heap.size] by simp) 1 _).setCell (show w.heap.size ∈ [w.heap.size] by simp) 2 _).setCell (show w.heap.size ∈ [w.heap.size] by simp) 3 _) fun x hx hp => ?_
          have := HOkw.out.lt hx hp
          simp
          omega
        generalize (((W.setCell ⟨w.heap.size, 0, none⟩ (.int .i64 r.x.id)).setCell ⟨w.heap.size, 1, none⟩ (.slice r.a r.x.ps.length r.c)).setCell ⟨w.heap.size, 2, none⟩ (.int .i64 r.x.ov)).setCell ⟨w.heap.size, 3, none⟩ (.int .i64 r.x.un) = w6 at *
        obtain ⟨k0, k1, k2, k3⟩ := hst
        simp only [Nat.zero_add] at k0 k1 k2 k3
        clear d0 d1 d2 d3 fz x0 x1 x2 x3
        refine bodyPost_ret (v := .tuple #[hrV r, .bool true]) ?_ rfl ⟨r, by rw [HN.out]; rfl, by rw [HN.out]; rfl, HO6.out, HT6.out⟩
        simp [results, Try.results10, go_sem, k0, k1, k2, k3]
      · have HN : Hid (fnd (qs.map Hr.x) i = fnd ((qs.map Hr.x).drop (k + 1)) i) := HF.out.trans (fnd_drop_step hlm (by rw [← hr]; exact hi))
        have hib : (r.x.id == i) = false := by simpa using hi
        clear hr hok hokw
        go_wp2_with fail
        go_round
        case rel => exact ⟨k + 1, by omega, by go_num, HN⟩
        case measure => simp [intOf]; omega
    · have HN : Hid (fnd (qs.map Hr.x) i = none) := by
        unfold Hid
        rw [HF.out, List.drop_of_length_le (by rw [List.length_map]; omega)]
        rfl
      go_wp2_with fail
      have hst := hr_store d0 d1 d2 d3 Hr.nil
      have HT6 := hide (Turn.new (Turn.new (Turn.new (Turn.new HTW.out HG.out 0 (.int .i64 0)) HG.out 1 (.slice none 0 0)) HG.out 2 (.int .i64 0)) HG.out 3 (.int .i64 0))
      change HrIn ((((W.setCell ⟨w.heap.size, 0, none⟩ (.int .i64 0)).setCell ⟨w.heap.size, 1, none⟩ (.slice none 0 0)).setCell ⟨w.heap.size, 2, none⟩ (.int .i64 0)).setCell ⟨w.heap.size, 3, none⟩ (.int .i64 0)) _ _ _ at hst
      generalize (((W.setCell ⟨w.heap.size, 0, none⟩ (.int .i64 0)).setCell ⟨w.heap.size, 1, none⟩ (.slice none 0 0)).setCell ⟨w.heap.size, 2, none⟩ (.int .i64 0)).setCell ⟨w.heap.size, 3, none⟩ (.int .i64 0) = w6 at *
      obtain ⟨k0, k1, k2, k3⟩ := hst
      simp only [Nat.zero_add, Hr.nil, Hd.nil, List.length_nil] at k0 k1 k2 k3
      clear d0 d1 d2 d3 fz
      refine bodyPost_ret (v := .tuple #[hrV Hr.nil, .bool false]) ?_ rfl ⟨Hr.nil, by rw [HN.out]; rfl, by rw [HN.out]; rfl, ⟨.inl rfl, fun _ => rfl⟩, HT6.out⟩
      simp [results, Try.results10, go_sem, k0, k1, k2, k3, Hr.nil, Hd.nil]

set_option maxRecDepth 100000 in
set_option maxHeartbeats 4000000 in
theorem rdue_any (a : Option Addr) (c : Nat) (l : List Hd) (now : Int) (w : World) (hlen : l.length ≤ 1000) (hL : HoldsAt w a c l) :
    Calls Try.prog 15 #[.slice a l.length c, .int .i64 now] w fun e w' => ∃ a' c', e = .returned (.slice a' (due l now).length c') ∧ HoldsAt w' a' c' (due l now) ∧ Turn [] w w' := by
  obtain ⟨qs, rfl, hQ, hOk, hA⟩ := hL
  rw [List.length_map] at hlen ⊢
  have HQ := hide hQ
  have HOk := hide hOk
  clear hQ hOk hA
  go_enter Try.func15, Try.ntmps15
  go_wp2_with fail
  go_loopw [5, 6] (fun v jv wr => ∃ (j : Nat) (rs : List Hr), j ≤ qs.length ∧ jv = .int .i64 j ∧ Hid (rs.map Hr.x = due ((qs.map Hr.x).take j) now) ∧ Hid (Own wr w.heap.size v rs) ∧ Turn [] w wr) (fun _ jv _ => qs.length - (intOf jv).toNat)
  case atStart => exact ⟨0, [], Nat.zero_le _, rfl, rfl, Own.nil _ _, Turn.refl _ _⟩
  case round =>
    obtain ⟨j, rs, hj, rfl, HR, HO, hT⟩ := hrel
    have HT := hide hT
    clear hT
    by_cases hjl : j < qs.length
    · obtain ⟨b, off, rfl, c0, c1, c2, c3⟩ := (HQ.out.turn0 HT.out).at hjl
      have hb := lt_of_cell c0
      have HO0 := hide (HOk.out _ (mem_getD' hjl))
      have HX := hide (filter_take_step (fun h => decide (h.un ≤ now)) (show j < (qs.map Hr.x).length by rw [List.length_map]; exact hjl))
      rw [map_getD] at HX
      have hrl : rs.length ≤ 2000 := by
        have h1 := congrArg List.length HR.out
        have h2 := filter_take_len (l := qs.map Hr.x) (fun h => decide (h.un ≤ now)) j
        rw [List.length_map] at h1 h2
        change rs.length = (List.filter _ _).length at h1
        omega
      have HSz := hide HT.out.size
      generalize qs.getD j Hr.nil = r at *
      by_cases hu : r.x.un ≤ now
      · simp only [decide_eq_true hu, if_true] at HX
        have hsz : w.heap.size ≤ wr.heap.size := HSz.out
        have HN : Hid (∀ q, u5.ownBlock = some q → ∀ x, r.a = some x → r.x.ps ≠ [] → x.block ≠ q) := fun q hq x hx hp => by
          have h1 := (own_ge HO.out.row hq).1
          have h2 := HO0.out.lt hx hp
          omega
        have HOr := hide (HO0.out.turn0 HT.out)
        go_wp2_with (first | (at_builtin; refine append_hold rfl _ _ rfl w.heap.size u5 rs r rfl HO.out wr.heap.size rfl rfl (by omega) hsz HOr.out HN.out ?_; intro v' w5 hown5 hT5) | fail)
        have HO5 := hide hown5
        have HT5 : Hid (Turn [] w w5) := hT5 w (Nat.le_refl _) HT.out
        have HR5 : Hid ((rs ++ [r]).map Hr.x = due ((qs.map Hr.x).take (j + 1)) now) := by
          unfold Hid due
          rw [List.map_append, HR.out, HX.out]
          rfl
        clear hown5 hT5 HO
        go_wp2_with fail
        go_roundw
        case rel => exact ⟨j + 1, _, by omega, by go_num, HR5, HO5, HT5.out⟩
        case measure => simp [intOf]; omega
      · have HR5 : Hid (rs.map Hr.x = due ((qs.map Hr.x).take (j + 1)) now) := by
          have := HX.out
          rw [decide_eq_false hu] at this
          unfold Hid due
          rw [HR.out, this]
          exact (List.append_nil _).symm
        clear HX
        go_wp2_with fail
        go_roundw
        case rel => exact ⟨j + 1, _, by omega, by go_num, HR5, HO, HT.out⟩
        case measure => simp [intOf]; omega
    · obtain rfl : j = qs.length := by omega
      obtain ⟨a', c', rfl, hA⟩ := HO.out.holds
      have e : (qs.map Hr.x).take qs.length = qs.map Hr.x := List.take_of_length_le (by simp)
      rw [e] at HR
      have HL2 : Hid (rs.length = (due (qs.map Hr.x) now).length) := by have := congrArg List.length HR.out; rw [List.length_map] at this; exact this
      rw [HR.out] at hA
      have HA := hide hA
      clear hA e
      go_wp2_with fail
      go_ret
      exact ⟨a', c', congrArg (fun n => Ending.returned (.slice a' n c')) HL2.out, HA.out, HT.out⟩

set_option maxRecDepth 100000 in
set_option maxHeartbeats 4000000 in
theorem rdrop_any (a : Option Addr) (c : Nat) (l : List Hd) (i : Int) (w : World) (hlen : l.length ≤ 1000) (hL : HoldsAt w a c l) :
    Calls Try.prog 19 #[.slice a l.length c, .int .i64 i] w fun e w' => ∃ a' c', e = .returned (.slice a' (drp l i).length c') ∧ HoldsAt w' a' c' (drp l i) ∧ Turn [] w w' := by
  obtain ⟨qs, rfl, hQ, hOk, hA⟩ := hL
  rw [List.length_map] at hlen ⊢
  have HQ := hide hQ
  have HOk := hide hOk
  clear hQ hOk hA
  go_enter Try.func19, Try.ntmps19
  go_wp2_with fail
  go_loopw [5, 6] (fun v jv wr => ∃ (j : Nat) (rs : List Hr), j ≤ qs.length ∧ jv = .int .i64 j ∧ Hid (rs.map Hr.x = drp ((qs.map Hr.x).take j) i) ∧ Hid (Own wr w.heap.size v rs) ∧ Turn [] w wr) (fun _ jv _ => qs.length - (intOf jv).toNat)
  case atStart => exact ⟨0, [], Nat.zero_le _, rfl, rfl, Own.nil _ _, Turn.refl _ _⟩
  case round =>
    obtain ⟨j, rs, hj, rfl, HR, HO, hT⟩ := hrel
    have HT := hide hT
    clear hT
    by_cases hjl : j < qs.length
    · obtain ⟨b, off, rfl, c0, c1, c2, c3⟩ := (HQ.out.turn0 HT.out).at hjl
      have hb := lt_of_cell c0
      have HO0 := hide (HOk.out _ (mem_getD' hjl))
      have HX := hide (filter_take_step (fun h => decide (h.id ≠ i)) (show j < (qs.map Hr.x).length by rw [List.length_map]; exact hjl))
      rw [map_getD] at HX
      have hrl : rs.length ≤ 2000 := by
        have h1 := congrArg List.length HR.out
        have h2 := filter_take_len (l := qs.map Hr.x) (fun h => decide (h.id ≠ i)) j
        rw [List.length_map] at h1 h2
        change rs.length = (List.filter _ _).length at h1
        omega
      have HSz := hide HT.out.size
      generalize qs.getD j Hr.nil = r at *
      by_cases hu : r.x.id ≠ i
      · simp only [decide_eq_true hu, if_true] at HX
        have hub : (r.x.id != i) = true := by simpa using hu
        have hsz : w.heap.size ≤ wr.heap.size := HSz.out
        have HN : Hid (∀ q, u5.ownBlock = some q → ∀ x, r.a = some x → r.x.ps ≠ [] → x.block ≠ q) := fun q hq x hx hp => by
          have h1 := (own_ge HO.out.row hq).1
          have h2 := HO0.out.lt hx hp
          omega
        have HOr := hide (HO0.out.turn0 HT.out)
        go_wp2_with (first | (at_builtin; refine append_hold rfl _ _ rfl w.heap.size u5 rs r rfl HO.out wr.heap.size rfl rfl (by omega) hsz HOr.out HN.out ?_; intro v' w5 hown5 hT5) | fail)
        have HO5 := hide hown5
        have HT5 : Hid (Turn [] w w5) := hT5 w (Nat.le_refl _) HT.out
        have HR5 : Hid ((rs ++ [r]).map Hr.x = drp ((qs.map Hr.x).take (j + 1)) i) := by
          unfold Hid drp
          rw [List.map_append, HR.out, HX.out]
          rfl
        clear hown5 hT5 HO
        go_wp2_with fail
        go_roundw
        case rel => exact ⟨j + 1, _, by omega, by go_num, HR5, HO5, HT5.out⟩
        case measure => simp [intOf]; omega
      · have HR5 : Hid (rs.map Hr.x = drp ((qs.map Hr.x).take (j + 1)) i) := by
          have := HX.out
          rw [decide_eq_false hu] at this
          unfold Hid drp
          rw [HR.out, this]
          exact (List.append_nil _).symm
        obtain rfl : r.x.id = i := by omega
        clear HX
        go_wp2_with fail
        go_roundw
        case rel => exact ⟨j + 1, _, by omega, by go_num, HR5, HO, HT.out⟩
        case measure => simp [intOf]; omega
    · obtain rfl : j = qs.length := by omega
      obtain ⟨a', c', rfl, hA⟩ := HO.out.holds
      have e : (qs.map Hr.x).take qs.length = qs.map Hr.x := List.take_of_length_le (by simp)
      rw [e] at HR
      have HL2 : Hid (rs.length = (drp (qs.map Hr.x) i).length) := by have := congrArg List.length HR.out; rw [List.length_map] at this; exact this
      rw [HR.out] at hA
      have HA := hide hA
      clear hA e
      go_wp2_with fail
      go_ret
      exact ⟨a', c', congrArg (fun n => Ending.returned (.slice a' n c')) HL2.out, HA.out, HT.out⟩

/-- append of a row of holds. -/
theorem append_row {ops : Array Oper} {rest : List Oper} {o : Oper} {a : Act} {Q : Exit → Act → World → Prop} {w : World} (hgd : o.guard = none) (s x : Operand)
    (ho : o.op = .call { callee := .builtin .append, args := #[s, x], argTypes := #[24, 24] }) (base : Nat) (v : Value) (rs ts : List Hr) (a2 : Option Addr) (n2 c2 : Nat) (hn2 : n2 = ts.length) (hs : a.eval s = v) (hown : Own w base v rs) (hx : a.eval x = .slice a2 n2 c2) (hA : HrsAt w a2 ts) (hnil : a2 = none → c2 = 0) (hb : rs.length + ts.length < 1000000) (hbase : base ≤ w.heap.size)
    (hts : ∀ r ∈ ts, r.Ok w ∧ ∀ q, v.ownBlock = some q → ∀ x, r.a = some x → r.x.ps ≠ [] → x.block ≠ q)
    (h : ∀ v' w', Own w' base v' (rs ++ ts) → (∀ u : World, u.heap.size ≤ base → Turn [] u w → Turn [] u w') → wpList Try.prog ops Q rest (a.put o.dst v') w') :
    wpList Try.prog ops Q (o :: rest) a w := by
  subst hn2
  obtain ⟨i0, hi, hz0, hz1, hz2⟩ := info_parts info_hold
  have go : ∀ ad : Addr, a2 = some ad → (∀ j u, (flatH ts)[j]? = some u → w.cell? (ad.add j) = some u) → wpList Try.prog ops Q (o :: rest) a w := fun ad e hn => by
    subst e
    refine wpList_append_own_at _ hgd s x 24 ho base 27 i0 (hrV Hr.nil) 4 48 Try.underlying24 hi hz0 hz1 hz2 rfl (by decide) v rs.length (flatH rs) hs hown.row ad ts.length c2 (flatH ts) hx (flatH_length ts) hn (flatH_one ts) (by unfold maxLen; omega) (by omega) hbase ?_
    intro v' w' h1 h2 _ h4
    have h1' : w'.ownsRow base 27 4 v' (rs ++ ts).length (flatH (rs ++ ts)) := by
      rw [List.length_append, flatH_append]
      exact h1
    exact h v' w' (hown.more (Turn.refl [] w) hts h1' h2 h4) fun u hu hT => hT.grown h2 fun k hk => .inr (by have := own_ge hown.row hk; omega)
  cases a2 with
  | none =>
    obtain rfl := hnil rfl
    obtain rfl : ts = [] := by
      rcases hA with h | ⟨b, off, hb, _⟩
      · exact h
      · cases hb
    refine wpList_append_own_none hgd s x 24 ho base 27 i0 4 Try.underlying24 hi v rs.length (flatH rs) hs hown.row hx ?_
    exact h v w (by rw [List.append_nil]; exact hown) fun u _ hT => hT
  | some ad =>
    rcases hA with rfl | ⟨b, off, hb, hA⟩
    · exact go ad rfl (by simp [flatH])
    · obtain rfl := Option.some.inj hb
      exact go _ rfl fun j u hj => by rw [add_spot]; exact hA.src j u hj

end Go.Proofs.Ytajnhdlefpeclaa.Ho
