/-
  The law's Good, walked.
-/
import Derived.Test.YtegbinlpojpffaaLTake
import Derived.Test.YtegbinlpojpffaaLGoodP
import Derived.Deep.CutRange
namespace Go.Proofs.Ytegbinlpojpffaa
open Go.RowKit Go.Maps Lo

theorem append_lot {ops : Array Oper} {rest : List Oper} {o : Oper} {a : Act} {Q : Exit → Act → World → Prop} {w : World} (hgd : o.guard = none) (s x : Operand)
    (ho : o.op = .call { callee := .builtin .append, args := #[s, x], argTypes := #[22, 22] }) (base : Nat) (v : Value) (xs : List Lt) (y : Lt) (hs : a.eval s = v) (hown : w.ownsRow base 29 9 v xs.length (flatL xs)) (hx : a.eval x = .slice (some ⟨w.heap.size, 0, none⟩) 1 1) (hb : xs.length < 1000000) (hbase : base ≤ w.heap.size)
    (h : ∀ v' w', w'.ownsRow base 29 9 v' (xs ++ [y]).length (flatL (xs ++ [y])) → (w.alloc (.cells (lotC y).toArray 29)).grownBy w' v.ownBlock → wpList Try.prog ops Q rest (a.put o.dst v') w') :
    wpList Try.prog ops Q (o :: rest) a (w.alloc (.cells (lotC y).toArray 29)) := by
  obtain ⟨i0, hi, hz0, hz1, hz2⟩ := info_parts info_lot
  have hown' := own_keep hown ((Turn.refl [] w).alloc (.cells (lotC y).toArray 29))
  refine wpList_append_own_at (w.alloc (.cells (lotC y).toArray 29)) hgd s x 22 ho base 29 i0 (lotV Lt.nil) 9 72 Try.underlying22 hi hz0 hz1 hz2 rfl (by decide) v xs.length (flatL xs) hs hown' ⟨w.heap.size, 0, none⟩ 1 1 (lotC y) hx rfl (fun j u hj => ?_) (fun u hu => flatL_one [y] u (by simpa [flatL] using hu)) (by unfold maxLen; omega) (by omega) (by simp; omega) ?_
  · rw [add_spot, Nat.zero_add, World.cell?_alloc_at _ _ _ _ rfl]
    simpa using hj
  · intro v' w' h1 h2 _ _
    refine h v' w' ?_ h2
    rw [List.length_append, flatL_append, show flatL [y] = lotC y from List.append_nil _]
    exact h1

theorem own_lt {w : World} {base e m n : Nat} {v : Value} {cs : List Value} (h : w.ownsRow base e m v n cs) {q : Nat} (hq : v.ownBlock = some q) : q < w.heap.size := by
  obtain ⟨_, ⟨rfl, _⟩ | ⟨g, _, cur, rfl, _, hg, _⟩⟩ := h
  · cases hq
  · simp only [Value.ownBlock, Option.some.injEq] at hq
    subst hq
    rcases Nat.lt_or_ge g w.heap.size with h | h
    · exact h
    · rw [Array.getElem?_eq_none h] at hg; cases hg

theorem good_step {now id : Int} {l out : List Lt} {k : Nat} (h : good now l = out ++ goodFrom now id ((l.take 14).drop k)) (hk : k < l.length) (hk2 : k < 14) : good now l = (out ++ [gd now id (l.getD k Lt.nil)]) ++ goodFrom now (gd now id (l.getD k Lt.nil)).id ((l.take 14).drop (k + 1)) := by
  have e : (l.take 14).getD k Lt.nil = l.getD k Lt.nil := by
    rw [List.getD_eq_getElem?_getD, List.getD_eq_getElem?_getD, List.getElem?_take, if_pos hk2]
  rw [h, goodFrom_append now id k (l.take 14) (by rw [List.length_take]; omega), e]
  simp

set_option maxRecDepth 100000 in
set_option maxHeartbeats 40000000 in
theorem good_any (a : Option Addr) (cap : Nat) (l : List Lt) (now : Int) (w : World) (hlen : l.length ≤ 9223372036854775807) (hL : LotsAt w a l) (h0 : 0 ≤ now) (h1 : now ≤ 200000) :
    Calls Try.prog 15 #[.slice a l.length cap, .int .i64 now] w fun e w' => ∃ v, e = .returned v ∧ w'.ownsRow w.heap.size 29 9 v (good now l).length (flatL (good now l)) ∧ Turn [] w w' := by
  have HL := hide hL
  clear hL
  go_enter Try.func15, Try.ntmps15
  go_wp2_with fail
  go_loopw [5, 6, 7] (fun v i j wr => ∃ (k : Nat) (id : Int) (out : List Lt), k ≤ l.length ∧ k ≤ 14 ∧ i = .int .i64 id ∧ j = .int .i64 k ∧ 0 ≤ id ∧ id ≤ 3 * k ∧ out.length = k ∧ Hid (good now l = out ++ goodFrom now id ((l.take 14).drop k)) ∧ Hid (wr.ownsRow w.heap.size 29 9 v out.length (flatL out)) ∧ Turn [] w wr) (fun _ _ j _ => 14 - (intOf j).toNat)
  case atStart => exact ⟨0, 0, [], Nat.zero_le _, Nat.zero_le _, rfl, rfl, by omega, by omega, rfl, hide rfl, World.ownsRow_nil _ _ _ _, Turn.refl _ _⟩
  case round =>
    obtain ⟨k, id, out, hk, hk14, rfl, rfl, hid0, hid1, hol, HF, HO, hT⟩ := hrel
    have HT := hide hT
    clear hT
    by_cases hlt : k < l.length
    · by_cases hlt2 : k < 14
      · obtain ⟨b, off, rfl, hx⟩ := (HL.out.turn0 HT.out).at hlt
        have HS := hide (good_step HF.out hlt hlt2)
        generalize l.getD k Lt.nil = x at *
        have hb := hx.lt
        obtain ⟨c0, c1, c2, c3, c4, c5, c6, c7, c8⟩ := hx
        have hid' : 0 ≤ x.id % 3 ∧ x.id % 3 < 3 := by omega
        have hfr' : 0 ≤ x.fr % 8 ∧ x.fr % 8 < 8 := by omega
        go_upto_region 11 with (first | (go_at_call 14; refine (within_any _ _ _ (by omega) (by omega)).mono ?_; rintro e w1 ⟨rfl, rfl⟩) | fail)
        obtain ⟨V, hVe⟩ : ∃ V, V = if 0 < now - 5 + x.fr % 8 then now - 5 + x.fr % 8 else 0 := ⟨_, rfl⟩
        rw [← hVe]
        have HV : Hid (max 0 (now - 5 + x.fr % 8) = V) := by rw [Hid, hVe]; split <;> omega
        have hV : 0 ≤ V ∧ V ≤ 300000 := by rw [hVe]; split <;> omega
        clear hVe
        have HT2 := hide (HT.out.alloc (.cells (lotC ⟨id + 1 + x.id % 3, x.kd % 3, V, x.un, x.gr, x.co, x.he, x.ex, x.ro⟩).toArray 29))
        have HX2 : Hid (LotIn (wr.alloc (.cells (lotC ⟨id + 1 + x.id % 3, x.kd % 3, V, x.un, x.gr, x.co, x.he, x.ex, x.ro⟩).toArray 29)) wr.heap.size 0 ⟨id + 1 + x.id % 3, x.kd % 3, V, x.un, x.gr, x.co, x.he, x.ex, x.ro⟩) := ⟨World.cell?_alloc_at _ _ _ _ rfl, World.cell?_alloc_at _ _ _ _ rfl, World.cell?_alloc_at _ _ _ _ rfl, World.cell?_alloc_at _ _ _ _ rfl, World.cell?_alloc_at _ _ _ _ rfl, World.cell?_alloc_at _ _ _ _ rfl, World.cell?_alloc_at _ _ _ _ rfl, World.cell?_alloc_at _ _ _ _ rfl, World.cell?_alloc_at _ _ _ _ rfl⟩
        have hz2 : ∀ o, (wr.alloc (.cells (lotC ⟨id + 1 + x.id % 3, x.kd % 3, V, x.un, x.gr, x.co, x.he, x.ex, x.ro⟩).toArray 29)).frozen? ⟨wr.heap.size, o, none⟩ = false := fun o => by simp
        have HO2 := hide (own_keep HO.out ((Turn.refl [] wr).alloc (.cells (lotC ⟨id + 1 + x.id % 3, x.kd % 3, V, x.un, x.gr, x.co, x.he, x.ex, x.ro⟩).toArray 29)))
        have HXb : Hid (w.heap.size ≤ wr.heap.size) := HT.out.size
        have HXo : Hid (∀ q, u5.ownBlock = some q → q < wr.heap.size) := fun q hq => own_lt HO.out hq
        clear c0 c1 c2 c3 c4 c5 c6 c7 c8 HT HO
        simp only [lotC] at HT2 HX2 hz2 HO2
        generalize wr.alloc _ = W at *
        generalize wr.heap.size = X at *
        have hXl : X < W.heap.size := HX2.out.lt
        have hX := HX2.out
        obtain ⟨c0, c1, c2, c3, c4, c5, c6, c7, c8⟩ := hX
        simp only [Nat.zero_add] at c0 c1 c2 c3 c4 c5 c6 c7 c8
        obtain ⟨U, hU⟩ : ∃ U, U = x.un % 9 := ⟨_, rfl⟩
        have hU9 : 0 ≤ U ∧ U < 9 := by omega
        have HW9 := fun w => hide (within_any x.un 9 w (by omega) (by omega))
        rw [← hU] at HW9
        have HU := hide hU
        clear hU
        go_cut [] from 9 to 80 (fun wx => wx = (W.setCell ⟨X, 3, none⟩ (.int .i64 (V + 1 + U))).drew)
        case first =>
          have hw1 : IntKind.i64.wrap (V + 1) = V + 1 := by rw [IntKind.wrap_i64]; omega
          have hw2 : IntKind.i64.wrap (V + 1 + U) = V + 1 + U := by rw [IntKind.wrap_i64]; omega
          go_region_with (go_at_call 14; refine (HW9 _).out.mono ?_; rintro e w1 ⟨rfl, rfl⟩)
          all_goals
            go_wp2_with fail
            go_meet
            exact rfl
        case rest =>
          have hwc := hcut
          have HX3 : Hid (LotIn wc X 0 ⟨id + 1 + x.id % 3, x.kd % 3, V, V + 1 + U, x.gr, x.co, x.he, x.ex, x.ro⟩) := by rw [hwc]; exact (HX2.out.set_un (V + 1 + U)).turn ((Turn.refl [] _).drew) (by simp)
          have HT3 : Hid (Turn [] w wc) := by
            rw [hwc]
            exact (HT2.out.then ((Turn.refl [X] W).setCell (b := X) (by simp) 3 (.int .i64 (V + 1 + U))) (by simp; exact HXb.out)).drew
          have HO3 : Hid (wc.ownsRow w.heap.size 29 9 u5 out.length (flatL out)) := by
            rw [hwc]
            exact own_keepS HO2.out ((Turn.refl [X] W).setCell (b := X) (by simp) 3 (.int .i64 (V + 1 + U))).drew (fun q hq => by have := HXo.out q hq; simp; omega)
          have hz3 : ∀ o, wc.frozen? ⟨X, o, none⟩ = false := fun o => by
            rw [hwc]
            show (W.setCell _ _).frozen? _ = false
            rw [World.frozen?_setCell]
            exact hz2 o
          have hXl3 : X < wc.heap.size := HX3.out.lt
          clear hcut hwc HX2 HT2 HO2 hz2 hXl c0 c1 c2 c3 c4 c5 c6 c7 c8 HW9
          generalize wc = w3 at *
          obtain ⟨c0, c1, c2, c3, c4, c5, c6, c7, c8⟩ := HX3.out
          simp only [Nat.zero_add] at c0 c1 c2 c3 c4 c5 c6 c7 c8
          obtain ⟨C, hC⟩ : ∃ C, C = x.co % 1000 := ⟨_, rfl⟩
          obtain ⟨E, hE⟩ : ∃ E, E = x.ex % 9 := ⟨_, rfl⟩
          obtain ⟨R, hR⟩ : ∃ R, R = x.ro % 9 := ⟨_, rfl⟩
          have hCER : (0 ≤ C ∧ C < 1000) ∧ (0 ≤ E ∧ E < 9) ∧ 0 ≤ R ∧ R < 9 := by omega
          have HC := hide hC
          have HE := hide hE
          have HR := hide hR
          clear hC hE hR
          go_upto_region 12 with fail
          go_cut [] from 9 to 80 (fun wx => wx = ((((w3.setCell ⟨X, 5, none⟩ (.int .i64 C)).setCell ⟨X, 6, none⟩ (.int .i64 0)).setCell ⟨X, 7, none⟩ (.int .i64 E)).setCell ⟨X, 8, none⟩ (.int .i64 R)).drew)
          case first =>
            clear HX3 HT3 HO3 HS HF HL HXb HXo HV c0 c1 c2 c3 c4
            go_region_with (go_at_call 14; refine (within_any _ _ _ (by omega) (by omega)).mono ?_; rintro e w1 ⟨rfl, rfl⟩)
            all_goals
              go_wp2_with fail
              rw [← HC.out, ← HE.out, ← HR.out]
              go_meet
              exact rfl
          case rest =>
            have hwd := hcut
            have HX4 : Hid (LotIn wc X 0 ⟨id + 1 + x.id % 3, x.kd % 3, V, V + 1 + U, x.gr, C, 0, E, R⟩) := by rw [hwd]; exact ((((HX3.out.set_co C).set_he 0).set_ex E).set_ro R).turn ((Turn.refl [] _).drew) (by simp)
            have HT4 : Hid (Turn [] w wc) := by
              rw [hwd]
              exact (HT3.out.then (((((Turn.refl [X] w3).setCell (b := X) (by simp) 5 (.int .i64 C)).setCell (b := X) (by simp) 6 (.int .i64 0)).setCell (b := X) (by simp) 7 (.int .i64 E)).setCell (b := X) (by simp) 8 (.int .i64 R)) (by simp; exact HXb.out)).drew
            have HO4 : Hid (wc.ownsRow w.heap.size 29 9 u5 out.length (flatL out)) := by
              rw [hwd]
              exact own_keepS HO3.out (((((Turn.refl [X] w3).setCell (b := X) (by simp) 5 (.int .i64 C)).setCell (b := X) (by simp) 6 (.int .i64 0)).setCell (b := X) (by simp) 7 (.int .i64 E)).setCell (b := X) (by simp) 8 (.int .i64 R)).drew (fun q hq => by have := HXo.out q hq; simp; omega)
            have hz4 : ∀ o, wc.frozen? ⟨X, o, none⟩ = false := fun o => by
              rw [hwd]
              show ((((w3.setCell _ _).setCell _ _).setCell _ _).setCell _ _).frozen? _ = false
              rw [World.frozen?_setCell, World.frozen?_setCell, World.frozen?_setCell, World.frozen?_setCell]
              exact hz3 o
            have hXl4 : X < wc.heap.size := HX4.out.lt
            clear hcut hwd HX3 HT3 HO3 hz3 hXl3 c0 c1 c2 c3 c4 c5 c6 c7 c8
            generalize wc = w4 at *
            obtain ⟨c0, c1, c2, c3, c4, c5, c6, c7, c8⟩ := HX4.out
            simp only [Nat.zero_add] at c0 c1 c2 c3 c4 c5 c6 c7 c8
            obtain ⟨G, hG⟩ : ∃ G, G = x.gr % 1000 := ⟨_, rfl⟩
            have hG9 : 0 ≤ G ∧ G < 1000 := by omega
            have HG := hide hG
            clear hG
            go_upto_region 13 with fail
            go_cut [] from 9 to 80 (fun wx => wx = (w4.setCell ⟨X, 4, none⟩ (.int .i64 (C + E + R + G))).drew)
            case first =>
              have hw1 : IntKind.i64.wrap (C + E) = C + E := by rw [IntKind.wrap_i64]; omega
              have hw2 : IntKind.i64.wrap (C + E + R) = C + E + R := by rw [IntKind.wrap_i64]; omega
              have hw3 : IntKind.i64.wrap (C + E + R + G) = C + E + R + G := by rw [IntKind.wrap_i64]; omega
              have HWg := fun w => hide (within_any x.gr 1000 w (by omega) (by omega))
              rw [← HG.out] at HWg
              clear HX4 HT4 HO4 HS HF HL HXb HXo HV
              go_region_with (go_at_call 14; refine (HWg _).out.mono ?_; rintro e w1 ⟨rfl, rfl⟩)
              all_goals
                go_wp2_with fail
                go_meet
                exact rfl
            case rest =>
              have hwe := hcut
              have HX5 : Hid (LotIn wc X 0 (gd now id x)) := by
                have e : gd now id x = ⟨id + 1 + x.id % 3, x.kd % 3, V, V + 1 + U, C + E + R + G, C, 0, E, R⟩ := by
                  unfold gd
                  rw [HV.out, ← HC.out, ← HE.out, ← HR.out, ← HG.out, ← HU.out]
                rw [hwe, e]
                exact (HX4.out.set_gr (C + E + R + G)).turn ((Turn.refl [] _).drew) (by simp)
              have HT5 : Hid (Turn [] w wc) := by
                rw [hwe]
                exact (HT4.out.then ((Turn.refl [X] w4).setCell (b := X) (by simp) 4 (.int .i64 (C + E + R + G))) (by simp; exact HXb.out)).drew
              have HO5 : Hid (wc.ownsRow w.heap.size 29 9 u5 out.length (flatL out)) := by
                rw [hwe]
                exact own_keepS HO4.out ((Turn.refl [X] w4).setCell (b := X) (by simp) 4 (.int .i64 (C + E + R + G))).drew (fun q hq => by have := HXo.out q hq; simp; omega)
              have hXl5 : X < wc.heap.size := HX5.out.lt
              have HId : Hid ((gd now id x).id = id + 1 + x.id % 3) := rfl
              clear hcut hwe HX4 HT4 HO4 hz4 hXl4 c0 c1 c2 c3 c4 c5 c6 c7 c8 HV HC HE HR HG HU
              generalize wc = w5 at *
              generalize gd now id x = y at *
              have hsz : w.heap.size ≤ w5.heap.size := HT5.out.size
              obtain ⟨c0, c1, c2, c3, c4, c5, c6, c7, c8⟩ := HX5.out
              simp only [Nat.zero_add] at c0 c1 c2 c3 c4 c5 c6 c7 c8
              go_wp2_with (first | (at_builtin; refine append_lot rfl _ _ rfl w.heap.size u5 out y rfl HO5.out rfl ?_ hsz ?_; omega; intro v' w6 hown6 hgr6) | fail)
              have HO6 := hide hown6
              have HT6 : Hid (Turn [] w w6) := (HT5.out.alloc _).grown hgr6 (fun q hq => .inr (own_ge HO5.out hq))
              clear hown6 hgr6
              go_wp2_with fail
              go_roundw
              case rel => exact ⟨k + 1, id + 1 + x.id % 3, out ++ [y], by omega, by omega, rfl, by go_num, by omega, by omega, by simp; omega, by rw [← HId.out]; exact HS, HO6, HT6.out⟩
              case measure => simp [intOf]; omega
      · have hk1 : k = 14 := by omega
        have HE : Hid (good now l = out) := by
          rw [Hid, HF.out, List.drop_of_length_le (by rw [List.length_take]; omega)]
          simp [goodFrom]
        go_wp2_with fail
        refine bodyPost_ret (v := u5) (by simp [results, Try.results15, go_sem]) rfl ⟨u5, rfl, by rw [HE.out]; exact HO.out, HT.out⟩
    · have hk1 : k = l.length := by omega
      have HE : Hid (good now l = out) := by
        rw [Hid, HF.out, List.drop_of_length_le (by rw [List.length_take]; omega)]
        simp [goodFrom]
      go_wp2_with fail
      refine bodyPost_ret (v := u5) (by simp [results, Try.results15, go_sem]) rfl ⟨u5, rfl, by rw [HE.out]; exact HO.out, HT.out⟩

end Go.Proofs.Ytegbinlpojpffaa
