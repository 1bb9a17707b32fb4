/-
  place, Ask, walked.
-/
import Derived.Test.YtbkphdemmnjhcaaWMem
import Derived.Deep.RegionHeld
namespace Go.Proofs.Ytbkphdemmnjhcaa.Wi
open Go.RowKit Go.Maps

set_option maxRecDepth 100000 in
set_option maxHeartbeats 2000000 in
theorem place_any (a : Option Addr) (c : Nat) (l : List Ent) (i : Int) (w : World) (hlen : l.length ≤ 1000000) (hL : EntsAt w a l) :
    Calls Try.prog 14 #[.slice a l.length c, .int .i64 i] w fun e w' => e = .returned (.int .i64 (pos l i : Nat)) ∧ w' = w := by
  have HL := hide hL
  clear hL
  go_enter Try.func14, Try.ntmps14
  go_wp2_with fail
  go_loop [8] (fun u => ∃ (k : Nat), k ≤ l.length ∧ u = .int .i64 k ∧ Hid (∀ m, m < k → (l.getD m Ent.nil).id < i)) (fun u => l.length - (intOf u).toNat)
  case atStart => exact ⟨0, Nat.zero_le _, rfl, fun m hm => absurd hm (Nat.not_lt_zero _)⟩
  case round =>
    obtain ⟨k, hk, rfl, HF⟩ := hrel
    by_cases hlt : k < l.length
    · obtain ⟨b, off, rfl, hr⟩ := HL.out.at hlt
      have c0 := id_cell hr
      have hb := lt_of_cell c0
      by_cases hge : i ≤ (l.getD k Ent.nil).id
      · have HP : Hid (pos l i = k) := pos_of hk HF.out (fun _ => hge)
        generalize l.getD k Ent.nil = e at *
        clear hr
        go_wp2_with fail
        go_ret
        exact ⟨ret_int (by rw [HP.out]), rfl⟩
      · have HF2 : Hid (∀ m, m < k + 1 → (l.getD m Ent.nil).id < i) := fun m hm => by
          rcases Nat.lt_or_ge m k with h | h
          · exact HF.out m h
          · obtain rfl : m = k := by omega
            omega
        generalize l.getD k Ent.nil = e at *
        clear hr
        go_wp2_with fail
        go_round
        case rel => exact ⟨k + 1, by omega, by go_num, HF2⟩
        case measure => simp [intOf]; omega
    · have HP : Hid (pos l i = l.length) := pos_of (Nat.le_refl _) (by rw [show l.length = k by omega]; exact HF.out) (fun h => absurd h (Nat.lt_irrefl _))
      go_wp2_with fail
      go_ret
      exact ⟨ret_int (by rw [HP.out]), rfl⟩

/-- What Ask answers. -/
abbrev askV (l : List Ent) (i : Int) : Value := .tuple #[.int .i64 (kindOf l i), anV (ansOf l i)]

theorem heap_new (w : World) : (w.alloc zeroObj).heap[w.heap.size]? = some zeroObj := Array.getElem?_push_size
theorem range_new (w : World) : (w.alloc zeroObj).rangeAt w.heap.size 0 (anC An.nil) := fun j v hv => by
  unfold World.cell?
  rw [show (w.alloc zeroObj).heap[(⟨w.heap.size, 0 + j, none⟩ : Addr).block]? = some zeroObj from heap_new w, Nat.zero_add]
  simpa [anC, An.nil] using hv

theorem range_drew {w : World} {b o : Nat} {cs : List Value} (h : w.rangeAt b o cs) : w.drew.rangeAt b o cs := h
theorem there_drew {w : World} {b o n : Nat} (h : w.there b o n) : w.drew.there b o n := h

/-- An answer is stored where there is room for it. -/
theorem store_answer {ops : Array Oper} {rest : List Oper} {dst : Option Tmp} {ty : TypeId} {pos : String} {after : Array Edge} {a : Act} {w : World} {Q : Exit → Act → World → Prop} (x y : Tmp) (b off : Nat) (an : An)
    (hx : a.eval (.tmp x) = .pointer (some ⟨b, off, none⟩)) (hy : a.eval (.tmp y) = anV an) (ht : w.there b off 13)
    (h : wpList Try.prog ops Q rest (a.put dst undef) (w.setCells b off (anC an))) : wpList Try.prog ops Q (⟨dst, .store 29 (.tmp x) (.tmp y), ty, pos, after, none⟩ :: rest) a w :=
  wpList_store_mid rfl 29 (.tmp x) (.tmp y) rfl b off (anC an).toArray hx hy ht info_an (all_oneCell_toArray (anC_one an)) h
/-- An answer is stored where it was made. -/
theorem keep_answer {ops : Array Oper} {rest : List Oper} {dst : Option Tmp} {ty : TypeId} {pos : String} {after : Array Edge} {a : Act} {w : World} {Q : Exit → Act → World → Prop} (x y : Tmp) (an : An)
    (hx : a.eval (.tmp x) = .pointer (some ⟨w.heap.size, 0, none⟩)) (hy : a.eval (.tmp y) = anV an)
    (h : ∀ w', w'.rangeAt w.heap.size 0 (anC an) → Turn [] w w' → w'.heap.size = w.heap.size + 1 → w'.there w.heap.size 0 13 → wpList Try.prog ops Q rest (a.put dst undef) w') : wpList Try.prog ops Q (⟨dst, .store 29 (.tmp x) (.tmp y), ty, pos, after, none⟩ :: rest) a (w.alloc zeroObj) :=
  store_answer x y w.heap.size 0 an hx hy (there_new w)
    (h _ (World.rangeAt_setCells_same _ _ _ _ (there_new w)) (Turn.setCells (.inr (Nat.le_refl _)) _ _ ((Turn.refl [] w).alloc _)) (by rw [size_setCells]; simp) (World.there_setCells (there_new w) _ _ _))
/-- An answer is read. -/
theorem load_answer {ops : Array Oper} {rest : List Oper} {dst : Option Tmp} {ty : TypeId} {pos : String} {after : Array Edge} {a : Act} {w : World} {Q : Exit → Act → World → Prop} (x : Tmp) (b off : Nat) (an : An)
    (hx : a.eval (.tmp x) = .pointer (some ⟨b, off, none⟩)) (hr : w.rangeAt b off (anC an))
    (h : wpList Try.prog ops Q rest (a.put dst (anV an)) w) : wpList Try.prog ops Q (⟨dst, .load 29 (.tmp x), ty, pos, after, none⟩ :: rest) a w := by
  obtain ⟨d, h1, h2⟩ := und_an
  exact wpList_load_mid rfl 29 (.tmp x) rfl b off hx (anC an) d hr h1 h2 (by rw [info_an, anC_length]) h

theorem size_an (w : World) : (sizeOf 29).run Try.prog w = .ok 13 w := by
  have h := info_an
  cases hq : Try.prog.info? 29 with
  | none => rw [hq] at h; cases h
  | some i =>
    rw [hq] at h
    simp only [Option.map_some, Option.some.injEq] at h
    simp [sizeOf, typeInfo, hq, h]
/-- A number and an answer are answered. -/
theorem results_ask {fn : Func} (h : fn.results = #[.tmp 4, .cell 5 29]) {tmps : Array Value} {w : World} {k : Value} {g : Nat} {x : An} (h4 : tmps.getD 4 undef = k) (h5 : tmps.getD 5 undef = .pointer (some ⟨g, 0, none⟩)) (hr : w.rangeAt g 0 (anC x)) :
    (results fn tmps).run Try.prog w = .ok (.tuple #[k, anV x]) w := by
  have h4' : tmps[4]?.getD undef = k := by simpa using h4
  have h5' : tmps[5]?.getD undef = .pointer (some ⟨g, 0, none⟩) := by simpa using h5
  simp [results, h, h4', h5', asAddr, var_an hr]
/-- What a region that draws wants, for an answer that is read and one that is stored. -/
theorem draw_an {w : World} {b o g : Nat} {x : An} (h : w.rangeAt b o (anC x)) (ht : w.there g 0 13) : ∃ N : Nat, (∀ w, Sem.run Try.prog (sizeOf 29) w = .ok N w) ∧ (loadCellsFrom ⟨b, o, none⟩ 0 N #[]).run Try.prog w = .ok (anC x).toArray w ∧ (anC x).length = N ∧ ¬ N = 0 ∧ (storeCells ⟨g, 0, none⟩ (anC x) 0).run Try.prog w = .ok () (w.setCells g 0 (anC x)) := by
  refine ⟨13, size_an, run_loadCells_list (P := Try.prog) w ⟨b, o, none⟩ (anC x) (fun j v hv => by rw [Addr.add_mid]; exact h j v hv), rfl, by omega, ?_⟩
  have := run_storeCells_cells (P := Try.prog) g 0 (anC x) 0 w (fun j hj => by simpa using (ht j hj).1) (fun j hj => by simpa using (ht j hj).2) (anC_one x)
  simpa using this

set_option maxRecDepth 100000 in
set_option maxHeartbeats 4000000 in
theorem ask_any (a : Option Addr) (c : Nat) (l : List Ent) (i : Int) (w : World) (hlen : l.length ≤ 1000000) (hL : EntsAt w a l) :
    Calls Try.prog 9 #[.slice a l.length c, .int .i64 i] w fun e w' => e = .returned (askV l i) ∧ Turn [] w w' := by
  have HT0 := hide ((Turn.refl [] w).alloc zeroObj)
  have HC := hide (place_any a c l i _ hlen (hL.turn0 HT0.out))
  have HL := hide hL
  have HTh := hide (there_new w)
  have hple := pos_le l i
  clear hL
  go_enter Try.func9, Try.ntmps9
  go_wp2_with fail
  obtain ⟨W, hW⟩ : ∃ W, W = w.alloc zeroObj := ⟨_, rfl⟩
  rw [← hW] at HT0 HC HTh ⊢
  clear hW
  refine HC.out.mono ?_
  rintro e w1 ⟨rfl, rfl⟩
  clear HC
  by_cases hh : has l i
  · have HK := hide (kind_has hh)
    have HA := hide (ans_has hh)
    obtain ⟨h1, h2⟩ := hh
    obtain ⟨b, off, rfl, hr⟩ := HL.out.at h1
    have hb0 : b < w.heap.size := lt_of_cell (id_cell hr)
    have hr1 := rangeAt_turn hr HT0.out (by simp)
    have c0 := id_cell hr1
    have hb := lt_of_cell c0
    have hra := an_range hr1
    have hth := HTh.out
    generalize l.getD (pos l i) Ent.nil = e at *
    have HR2 := hide (World.rangeAt_setCells_same w1.drew w.heap.size 0 (anC e.an) (there_drew HTh.out))
    have HT2 := hide (Turn.setCells (.inr (Nat.le_refl w.heap.size)) (anC e.an) 0 HT0.out.drew)
    obtain ⟨N, hN, hld, hcl, hN0, hst⟩ := draw_an (range_drew hra) (there_drew hth)
    have HV : Hid (∀ {tmps : Array Value}, tmps.getD 4 undef = .int .i64 1 → tmps.getD 5 undef = .pointer (some ⟨w.heap.size, 0, none⟩) → (results Try.f9 tmps).run Try.prog (w1.drew.setCells w.heap.size 0 (anC e.an)) = .ok (.tuple #[.int .i64 1, .agg (anC e.an).toArray]) (w1.drew.setCells w.heap.size 0 (anC e.an))) := fun h4 h5 => results_ask Try.results9 h4 h5 HR2.out
    have HAV : Hid (.tuple #[.int .i64 1, .agg (anC e.an).toArray] = askV l i) := by unfold Hid askV; rw [HK.out, HA.out]; rfl
    clear hr hr1 HK HA hra hth HR2
    generalize hp : pos l i = p at *
    clear hp
    generalize anC e.an = cs at *
    generalize w1.drew.setCells w.heap.size 0 cs = w2 at *
    go_wp2_with fail
    go_region
    all_goals
      go_wp2_with fail
      exact bodyPost_ret (v := .tuple #[.int .i64 1, .agg cs.toArray]) (HV.out rfl rfl) rfl ⟨by rw [HAV.out], HT2.out⟩
  · have HK := hide (kind_no hh)
    have HA := hide (ans_no hh)
    have HR2 := hide (World.rangeAt_setCells_same w1 w.heap.size 0 (anC An.nil) HTh.out)
    have HT2 := hide (Turn.setCells (.inr (Nat.le_refl w.heap.size)) (anC An.nil) 0 HT0.out)
    have hfst : pos l i < l.length → ∃ b off, a = some ⟨b, off, none⟩ ∧ w1.cell? ⟨b, off + pos l i * 14, none⟩ = some (.int .i64 (l.getD (pos l i) Ent.nil).id) ∧ (l.getD (pos l i) Ent.nil).id ≠ i := fun h1 => by
      obtain ⟨b, off, h3, hr⟩ := HL.out.at h1
      exact ⟨b, off, h3, id_cell (rangeAt_turn hr HT0.out (by simp)), fun h => hh ⟨h1, h⟩⟩
    generalize hp : pos l i = p at *
    generalize (l.getD p Ent.nil).id = j at *
    clear hp hh
    by_cases h1 : p < l.length
    · obtain ⟨b, off, rfl, c0, hne⟩ := hfst h1
      have hb := lt_of_cell c0
      clear hfst
      go_wp2_with (first | ((with_reducible refine store_answer _ _ w.heap.size 0 An.nil ?_ ?_ HTh.out ?_); rfl; rfl) | fail)
      all_goals
        first
        | exact bodyPost_ret (v := .tuple #[.int .i64 2, anV An.nil]) (results_ask Try.results9 rfl rfl HR2.out) rfl ⟨by rw [askV, HK.out, HA.out, if_pos (by omega)], HT2.out⟩
        | exact bodyPost_ret (v := .tuple #[.int .i64 0, anV An.nil]) (results_ask Try.results9 rfl rfl HR2.out) rfl ⟨by rw [askV, HK.out, HA.out, if_neg (by omega)], HT2.out⟩
    · clear hfst
      go_wp2_with (first | ((with_reducible refine store_answer _ _ w.heap.size 0 An.nil ?_ ?_ HTh.out ?_); rfl; rfl) | fail)
      all_goals
        first
        | exact bodyPost_ret (v := .tuple #[.int .i64 2, anV An.nil]) (results_ask Try.results9 rfl rfl HR2.out) rfl ⟨by rw [askV, HK.out, HA.out, if_pos (by omega)], HT2.out⟩
        | exact bodyPost_ret (v := .tuple #[.int .i64 0, anV An.nil]) (results_ask Try.results9 rfl rfl HR2.out) rfl ⟨by rw [askV, HK.out, HA.out, if_neg (by omega)], HT2.out⟩

theorem pos_first {l : List Ent} (h : 0 < l.length) {i : Int} (hn : (l.getD 0 Ent.nil).id ≠ i) : pos l i = 0 ↔ i < (l.getD 0 Ent.nil).id := by
  cases l with
  | nil => simp at h
  | cons e l =>
    rw [pos]
    simp only [List.getD_cons_zero] at hn ⊢
    split <;> simp <;> omega

set_option maxRecDepth 100000 in
set_option maxHeartbeats 4000000 in
theorem rask_any (a : Option Addr) (c : Nat) (l : List Ent) (i : Int) (w : World) (hU : Up l) (hlen : l.length ≤ 1000000) (hL : EntsAt w a l) :
    Calls Try.prog 10 #[.slice a l.length c, .int .i64 i] w fun e w' => e = .returned (askV l i) ∧ Turn [] w w' := by
  have HT0 := hide ((Turn.refl [] w).alloc zeroObj)
  have HL := hide hL
  have HU := hide hU
  have HTh := hide (there_new w)
  clear hL hU
  go_enter Try.func10, Try.ntmps10
  go_wp2_with fail
  obtain ⟨W, hW⟩ : ∃ W, W = w.alloc zeroObj := ⟨_, rfl⟩
  rw [← hW] at HT0 HTh ⊢
  clear hW
  go_loop [6] (fun u => ∃ (k : Nat), k ≤ l.length ∧ u = .int .i64 k ∧ Hid (∀ m, m < k → (l.getD m Ent.nil).id ≠ i)) (fun u => l.length - (intOf u).toNat)
  case atStart => exact ⟨0, Nat.zero_le _, rfl, fun m hm => absurd hm (Nat.not_lt_zero _)⟩
  case round =>
    obtain ⟨k, hk, rfl, HF⟩ := hrel
    by_cases hlt : k < l.length
    · obtain ⟨b, off, rfl, hr⟩ := HL.out.at hlt
      have hr1 := rangeAt_turn hr HT0.out (by simp)
      have c0 := id_cell hr1
      have hb := lt_of_cell c0
      by_cases heq : (l.getD k Ent.nil).id = i
      · have HK := hide (kind_has (has_at HU.out hlt heq))
        have HA := hide (ans_has (has_at HU.out hlt heq))
        rw [pos_at HU.out hlt heq] at HA
        have hra := an_range hr1
        have hth := HTh.out
        generalize l.getD k Ent.nil = e at *
        have HR2 := hide (World.rangeAt_setCells_same W.drew w.heap.size 0 (anC e.an) (there_drew HTh.out))
        have HT2 := hide (Turn.setCells (.inr (Nat.le_refl w.heap.size)) (anC e.an) 0 HT0.out.drew)
        obtain ⟨N, hN, hld, hcl, hN0, hst⟩ := draw_an (range_drew hra) (there_drew hth)
        have HV : Hid (∀ {tmps : Array Value}, tmps.getD 4 undef = .int .i64 1 → tmps.getD 5 undef = .pointer (some ⟨w.heap.size, 0, none⟩) → (results Try.f10 tmps).run Try.prog (W.drew.setCells w.heap.size 0 (anC e.an)) = .ok (.tuple #[.int .i64 1, .agg (anC e.an).toArray]) (W.drew.setCells w.heap.size 0 (anC e.an))) := fun h4 h5 => results_ask Try.results10 h4 h5 HR2.out
        have HAV : Hid (.tuple #[.int .i64 1, .agg (anC e.an).toArray] = askV l i) := by unfold Hid askV; rw [HK.out, HA.out]; rfl
        clear hr hr1 HK HA hra hth HR2
        generalize anC e.an = cs at *
        generalize W.drew.setCells w.heap.size 0 cs = w2 at *
        go_wp2_with fail
        go_region
        all_goals
          go_wp2_with fail
          exact bodyPost_ret (v := .tuple #[.int .i64 1, .agg cs.toArray]) (HV.out rfl rfl) rfl ⟨by rw [HAV.out], HT2.out⟩
      · have HF2 : Hid (∀ m, m < k + 1 → (l.getD m Ent.nil).id ≠ i) := fun m hm => by
          rcases Nat.lt_or_ge m k with h | h
          · exact HF.out m h
          · obtain rfl : m = k := by omega
            exact heq
        generalize l.getD k Ent.nil = e at *
        clear hr hr1
        go_wp2_with fail
        go_round
        case rel => exact ⟨k + 1, by omega, by go_num, HF2⟩
        case measure => simp [intOf]; omega
    · have hh : ¬ has l i := not_has_ne fun e he => by
        obtain ⟨m, hm, rfl⟩ := mem_getD he
        exact HF.out m (by omega)
      have HK := hide (kind_no hh)
      have HA := hide (ans_no hh)
      have HR2 := hide (World.rangeAt_setCells_same W w.heap.size 0 (anC An.nil) HTh.out)
      have HT2 := hide (Turn.setCells (.inr (Nat.le_refl w.heap.size)) (anC An.nil) 0 HT0.out)
      by_cases h12 : 12 ≤ l.length
      · obtain ⟨b, off, rfl, hr⟩ := HL.out.at (k := 0) (by omega)
        have c0 := id_cell (rangeAt_turn hr HT0.out (by simp))
        simp only [Nat.zero_mul, Nat.add_zero] at c0
        have hb := lt_of_cell c0
        have HP := hide (pos_first (show 0 < l.length by omega) (HF.out 0 (by omega)))
        generalize (l.getD 0 Ent.nil).id = j at *
        generalize pos l i = p at *
        clear hr hh
        go_wp2_with (first | ((with_reducible refine store_answer _ _ w.heap.size 0 An.nil ?_ ?_ HTh.out ?_); rfl; rfl) | fail)
        all_goals
          have HP' := HP.out
          first
          | exact bodyPost_ret (v := .tuple #[.int .i64 2, anV An.nil]) (results_ask Try.results10 rfl rfl HR2.out) rfl ⟨by rw [askV, HK.out, HA.out, if_pos (by omega)], HT2.out⟩
          | exact bodyPost_ret (v := .tuple #[.int .i64 0, anV An.nil]) (results_ask Try.results10 rfl rfl HR2.out) rfl ⟨by rw [askV, HK.out, HA.out, if_neg (by omega)], HT2.out⟩
      · generalize pos l i = p at *
        clear hh
        go_wp2_with (first | ((with_reducible refine store_answer _ _ w.heap.size 0 An.nil ?_ ?_ HTh.out ?_); rfl; rfl) | fail)
        all_goals
          exact bodyPost_ret (v := .tuple #[.int .i64 0, anV An.nil]) (results_ask Try.results10 rfl rfl HR2.out) rfl ⟨by rw [askV, HK.out, HA.out, if_neg (by omega)], HT2.out⟩

end Go.Proofs.Ytbkphdemmnjhcaa.Wi
