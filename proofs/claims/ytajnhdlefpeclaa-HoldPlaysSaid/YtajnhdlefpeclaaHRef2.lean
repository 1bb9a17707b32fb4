/-
  The reference's Put, walked.
-/
import Derived.Test.YtajnhdlefpeclaaHRef
import Derived.Deep.QuietTactic
import Derived.BigQuiet
namespace Go.Proofs.Ytajnhdlefpeclaa.Ho
open Go.RowKit Go.Maps

/-- How far the ids are below. -/
theorem lo_take {l : List Hd} (h : Up l) (i : Int) (k : Nat) (hk : k ≤ l.length) (h1 : ∀ m, m < k → (l.getD m Hd.nil).id < i) (h2 : k < l.length → i < (l.getD k Hd.nil).id) : l.take k = lo l i ∧ l.drop k = hi l i := by
  have hp := place_of h i k hk h1 (fun m hm hml => by
    rcases Nat.lt_or_ge k m with h3 | h3
    · have := h.lt h3 hml
      have := h2 (by omega)
      omega
    · obtain rfl : m = k := by omega
      have := h2 hml
      omega)
  rw [if_neg (fun e => by have := h2 e.1; omega)] at hp
  exact ⟨hp.lo, hp.hi⟩
theorem lo_drp (l : List Hd) (i : Int) : lo (drp l i) i = lo l i := by
  unfold lo drp
  rw [List.filter_filter]
  congr 1
  funext h
  by_cases e : h.id < i
  · have : h.id ≠ i := by omega
    simp [e, this]
  · simp [e]
theorem hi_drp (l : List Hd) (i : Int) : hi (drp l i) i = hi l i := by
  unfold hi drp
  rw [List.filter_filter]
  congr 1
  funext h
  by_cases e : i < h.id
  · have : h.id ≠ i := by omega
    simp [e, this]
  · simp [e]

/-- The row up to k, and from k on. -/
theorem slice_lo (a : Option Addr) (n c k : Nat) (w : World) (hk : k ≤ c) : (Instr.slice 24 (.slice a n c) none (some (.int .i64 (k : Nat))) none).run Try.prog w = .ok (.slice a k c) w := by
  rw [run_slice_h w 24 a n c (by kernel_rfl) .i64 k (by omega) (by omega)]
  have hs : (sizeOf (Try.prog.elem 24)).run Try.prog w = .ok 4 w := by go_simp
  rw [hs]
  simp only [Result.andThen, sliced, Int.toNat_natCast, Nat.zero_mul, Nat.sub_zero]
  congr 2
  split
  · rfl
  · cases a <;> rfl
/-- Where the row from k on lies. -/
def hiA (a : Option Addr) (c k : Nat) : Option Addr := if c = k then a else a.map (·.add (k * 4))
theorem slice_hi (a : Option Addr) (n c k : Nat) (w : World) (hk : k ≤ n) : (Instr.slice 24 (.slice a n c) (some (.int .i64 (k : Nat))) none none).run Try.prog w = .ok (.slice (hiA a c k) (n - k) (c - k)) w := by
  rw [run_slice_l w 24 a n c (by kernel_rfl) .i64 k (by omega) (by omega)]
  have hs : (sizeOf (Try.prog.elem 24)).run Try.prog w = .ok 4 w := by go_simp
  rw [hs]
  simp only [Result.andThen, sliced, Int.toNat_natCast, hiA]
theorem hiA_at {w : World} {a : Option Addr} {c k : Nat} {rs : List Hr} (h : HrsAt w a rs) (hc : rs.length ≤ c) : HrsAt w (hiA a c k) (rs.drop k) := by
  unfold hiA
  split
  · exact .inl (List.drop_of_length_le (by omega))
  · rcases h with rfl | ⟨b, off, rfl, h⟩
    · exact .inl (by simp)
    · refine .inr ⟨b, off + k * 4, ?_, h.drop k⟩
      simp only [Option.map_some, add_spot]
theorem hiA_nil {a : Option Addr} {c k : Nat} (h : a = none → c = 0) (e : hiA a c k = none) : c - k = 0 := by
  unfold hiA at e
  split at e
  · omega
  · have := h (by cases a with | none => rfl | some x => cases e)
    omega

set_option maxRecDepth 100000 in
set_option maxHeartbeats 4000000 in
theorem rput_any (a : Option Addr) (c : Nat) (l : List Hd) (r : Hr) (w : World) (hU : Up l) (hlen : l.length ≤ 900) (hL : HoldsAt w a c l) (hr : r.Ok w) :
    Calls Try.prog 17 #[.slice a l.length c, hrV r] w fun e w' => ∃ a' c', e = .returned (.slice a' (put l r.x).length c') ∧ HoldsAt w' a' c' (put l r.x) ∧ Turn [] w w' := by
  have HT0 := hide ((Turn.refl [] w).alloc (.cells #[.int .i64 r.x.id, .slice r.a r.x.ps.length r.c, .int .i64 r.x.ov, .int .i64 r.x.un] 27))
  have HB0 : Hid ((w.alloc (.cells #[.int .i64 r.x.id, .slice r.a r.x.ps.length r.c, .int .i64 r.x.ov, .int .i64 r.x.un] 27)).heap[w.heap.size]? = some (.cells #[.int .i64 r.x.id, .slice r.a r.x.ps.length r.c, .int .i64 r.x.ov, .int .i64 r.x.un] 27)) := Array.getElem?_push_size
  have HR := hide (hr.turn0 HT0.out)
  have HC := hide (rdrop_any a c l r.x.id _ (by omega) (hL.turn0 HT0.out))
  have HUd := hide (up_drp hU r.x.id)
  have HP : Hid (put l r.x = lo (drp l r.x.id) r.x.id ++ r.x :: hi (drp l r.x.id) r.x.id) := by
    unfold Hid
    rw [lo_drp, hi_drp]
    rfl
  have hdl : (drp l r.x.id).length ≤ 900 := Nat.le_trans (List.length_filter_le _ _) hlen
  have HNe : Hid (∀ y ∈ drp l r.x.id, y.id ≠ r.x.id) := fun y hy => by simpa using (List.mem_filter.1 hy).2
  clear hL hr hU hlen
  generalize put l r.x = res at *
  generalize drp l r.x.id = d at *
  go_enter Try.func17, Try.ntmps17
  go_wp2_with fail
  refine HC.out.mono ?_
  rintro e w1 ⟨a1, c1, rfl, hH1, hT1⟩
  have HT1 := hide (HT0.out.trans hT1)
  have HR1 := hide (HR.out.turn0 hT1)
  have h1 := (hT1.block w.heap.size (by simp) (by simp)).trans HB0.out
  have hlt1 : w.heap.size < w1.heap.size := by have := hT1.size; simp at this; omega
  have d0 : w1.cell? ⟨w.heap.size, 0, none⟩ = some (.int .i64 r.x.id) := by unfold World.cell?; rw [h1]; rfl
  have d1 : w1.cell? ⟨w.heap.size, 1, none⟩ = some (.slice r.a r.x.ps.length r.c) := by unfold World.cell?; rw [h1]; rfl
  have d2 : w1.cell? ⟨w.heap.size, 2, none⟩ = some (.int .i64 r.x.ov) := by unfold World.cell?; rw [h1]; rfl
  have d3 : w1.cell? ⟨w.heap.size, 3, none⟩ = some (.int .i64 r.x.un) := by unfold World.cell?; rw [h1]; rfl
  have HG : Hid (w.heap.size ≤ w.heap.size) := Nat.le_refl _
  obtain ⟨qs, rfl, hQ, hOk, hnil, hc1, hc2⟩ := hH1
  have HQ := hide hQ
  have HOk := hide hOk
  rw [List.length_map] at hdl hc1 ⊢
  clear hT1 h1 HC HB0 HT0 HR hQ hOk
  generalize w.heap.size = g at *
  go_wp2_with fail
  go_loopw [5] (fun u wr => ∃ (k m : Nat), k ≤ qs.length ∧ u = .int .i64 k ∧ Hid (∀ m, m < k → ((qs.map Hr.x).getD m Hd.nil).id < r.x.id) ∧ Hid (wr = w1.drewN m)) (fun u _ => qs.length - (intOf u).toNat)
  case atStart => exact ⟨0, 0, Nat.zero_le _, rfl, fun m hm => absurd hm (Nat.not_lt_zero _), rfl⟩
  case round =>
    obtain ⟨k, m, hk, rfl, HF, HW⟩ := hrel
    have HTr : Hid (Turn [] w1 wr) := by rw [HW.out]; exact (Turn.refl [] w1).drewN m
    have e0 := (HTr.out.cell (p := ⟨g, 0, none⟩) hlt1 (by simp)).trans d0
    have e1 := (HTr.out.cell (p := ⟨g, 1, none⟩) hlt1 (by simp)).trans d1
    have e2 := (HTr.out.cell (p := ⟨g, 2, none⟩) hlt1 (by simp)).trans d2
    have e3 := (HTr.out.cell (p := ⟨g, 3, none⟩) hlt1 (by simp)).trans d3
    have hgr := lt_of_cell e0
    clear d0 d1 d2 d3
    by_cases hgo : k < qs.length ∧ ((qs.map Hr.x).getD k Hd.nil).id < r.x.id
    · obtain ⟨hkl, hid⟩ := hgo
      obtain ⟨b, off, rfl, x0, x1, x2, x3⟩ := (HQ.out.turn0 HTr.out).at hkl
      have hb := lt_of_cell x0
      have HF2 : Hid (∀ m, m < k + 1 → ((qs.map Hr.x).getD m Hd.nil).id < r.x.id) := fun m hm => by
        rcases Nat.lt_or_ge m k with h | h
        · exact HF.out m h
        · obtain rfl : m = k := by omega
          exact hid
      rw [map_getD] at hid
      generalize qs.getD k Hr.nil = q at *
      have hg1 : decide ((k : Int) < (qs.length : Int)) = true := decide_eq_true (by omega)
      go_wp2_with fail
      go_quiet (fail)
      clear x0 x1 x2 x3
      go_wp2_with fail
      go_roundw
      case rel => exact ⟨k + 1, m + nq, by omega, by go_num, HF2, by unfold Hid; rw [HW.out, World.drewN_drewN]⟩
      case measure => simp [intOf]; omega
    · have HLo : Hid ((qs.map Hr.x).take k = lo (qs.map Hr.x) r.x.id ∧ (qs.map Hr.x).drop k = hi (qs.map Hr.x) r.x.id) := lo_take HUd.out r.x.id k (by rw [List.length_map]; exact hk) HF.out fun hkl => by
        have h1 := HNe.out _ (mem_getD hkl)
        rw [List.length_map] at hkl
        have h2 : ¬ ((qs.map Hr.x).getD k Hd.nil).id < r.x.id := fun e => hgo ⟨hkl, e⟩
        omega
      have HPq : Hid ((qs.map Hr.x).take k ++ r.x :: (qs.map Hr.x).drop k = res) := by
        unfold Hid
        rw [HLo.out.1, HLo.out.2, HP.out]
      have HNil := hide hnil
      have hend : (¬ k < qs.length) ∨ (k < qs.length ∧ ¬ ((qs.map Hr.x).getD k Hd.nil).id < r.x.id) := by
        by_cases h : k < qs.length
        · exact .inr ⟨h, fun h2 => hgo ⟨h, h2⟩⟩
        · exact .inl h
      clear hgo HF HP HLo HNe HUd hnil
      rcases hend with hn | ⟨hkl, hid⟩
      · have hg1 : decide ((k : Int) < (qs.length : Int)) = false := decide_eq_false (by omega)
        go_wp2_with fail
        go_quiet (fail)
        have HTq := hide (HTr.out.drewN nq)
        have y0 : (wr.drewN nq).cell? ⟨g, 0, none⟩ = some (.int .i64 r.x.id) := e0
        have y1 : (wr.drewN nq).cell? ⟨g, 1, none⟩ = some (.slice r.a r.x.ps.length r.c) := e1
        have y2 : (wr.drewN nq).cell? ⟨g, 2, none⟩ = some (.int .i64 r.x.ov) := e2
        have y3 : (wr.drewN nq).cell? ⟨g, 3, none⟩ = some (.int .i64 r.x.un) := e3
        have hgq : g < (wr.drewN nq).heap.size := hgr
        generalize wr.drewN nq = wq at *
        clear e0 e1 e2 e3 hgr HTr HW
        have HRq := hide (HR1.out.turn0 HTq.out)
        have HOq : Hid (∀ t ∈ qs, t.Ok wq) := fun t ht => (HOk.out t ht).turn0 HTq.out
        have HQt := hide ((HQ.out.turn0 HTq.out).take k)
        have HQ3 := hide (hiA_at (k := k) (HQ.out.turn0 HTq.out) hc1)
        have HN3 : Hid (hiA a1 c1 k = none → c1 - k = 0) := hiA_nil HNil.out
        have hsl := slice_lo a1 qs.length c1 k
        have hsl1 := fun w => hsl w (by omega)
        have hsh := slice_hi a1 qs.length c1 k
        have hsh1 := fun w => hsh w (by omega)
        have HL1 : Hid (k = (qs.take k).length) := by unfold Hid; rw [List.length_take]; omega
        have HL3 : Hid (qs.length - k = (qs.drop k).length) := by unfold Hid; rw [List.length_drop]
        have hlen1 : (qs.take k).length ≤ 900 := by rw [← HL1.out]; omega
        have hlen3 : (qs.drop k).length ≤ 900 := by rw [← HL3.out]; omega
        have HO1 : Hid (∀ t ∈ qs.take k, t.Ok wq) := fun t ht => HOq.out t (List.mem_of_mem_take ht)
        have HO3 : Hid (∀ t ∈ qs.drop k, t.Ok wq) := fun t ht => HOq.out t (List.mem_of_mem_drop ht)
        have HN0 := hide (Own.nil wq wq.heap.size)
        have HRes : Hid (((qs.take k ++ [r]) ++ qs.drop k).map Hr.x = res) := by
          unfold Hid
          rw [List.map_append, List.map_append, List.map_take, List.map_drop, ← HPq.out]
          simp
        generalize hiA a1 c1 k = a3 at *
        generalize qs.take k = t1 at *
        generalize qs.drop k = t3 at *
        clear hsl hsh
        go_wp2_with (first
          | (at_builtin; refine append_row rfl _ _ rfl wq.heap.size (.slice none 0 0) [] t1 a1 k c1 HL1.out rfl HN0.out rfl HQt.out HNil.out (by simp; omega) (Nat.le_refl _) (fun t ht => ⟨HO1.out t ht, fun q hq => by cases hq⟩) ?_; intro v2 w2 hown2 hT2; have HO2 := hide hown2; have hT2' := hT2 wq (Nat.le_refl _) (Turn.refl _ _); have HT2 := hide hT2'; have z0 := (hT2'.cell (p := ⟨g, 0, none⟩) hgq (by simp)).trans y0; have z1 := (hT2'.cell (p := ⟨g, 1, none⟩) hgq (by simp)).trans y1; have z2 := (hT2'.cell (p := ⟨g, 2, none⟩) hgq (by simp)).trans y2; have z3 := (hT2'.cell (p := ⟨g, 3, none⟩) hgq (by simp)).trans y3; have hg2 := lt_of_cell z0; have hs2 := hT2'.size; clear hown2 hT2 hT2' y0 y1 y2 y3)
          | (at_builtin; refine append_hold rfl _ _ rfl wq.heap.size v2 ([] ++ t1) r rfl HO2.out w2.heap.size rfl rfl (by simp; omega) hs2 (HRq.out.turn0 HT2.out) (fun q hq x hx hp => by have h1 := (own_ge HO2.out.row hq).1; have h2 := HRq.out.lt hx hp; omega) ?_; intro v3 w3 hown3 hT3; have HO3' := hide hown3; have HT3 := hide (hT3 wq (Nat.le_refl _) HT2.out); have hs3 := HT3.out.size; clear hown3 hT3)
          | (at_builtin; refine append_row rfl _ _ rfl wq.heap.size v3 ([] ++ t1 ++ [r]) t3 a3 (qs.length - k) (c1 - k) HL3.out rfl HO3'.out rfl (HQ3.out.turn0 HT3.out) HN3.out (by simp; omega) hs3 (fun t ht => ⟨(HO3.out t ht).turn0 HT3.out, fun q hq x hx hp => by have h1 := (own_ge HO3'.out.row hq).1; have h2 := (HO3.out t ht).lt hx hp; omega⟩) ?_; intro v4 w4 hown4 hT4; have HO4 := hide hown4; have HT4 := hide (hT4 wq (Nat.le_refl _) HT3.out); clear hown4 hT4)
          | fail)
        obtain ⟨a4, c4, rfl, hA4⟩ := HO4.out.holds
        have HL4 : Hid (([] ++ t1 ++ [r] ++ t3).length = res.length) := by unfold Hid; have := congrArg List.length HRes.out; rw [List.length_map] at this; simpa using this
        rw [List.nil_append, HRes.out] at hA4
        have HA4 := hide hA4
        have HTf := hide (HT1.out.trans (HTq.out.trans HT4.out))
        clear hA4 HO4 HT4
        go_wp2_with fail
        go_ret
        exact ⟨a4, c4, congrArg (fun n => Ending.returned (.slice a4 n c4)) HL4.out, HA4.out, HTf.out⟩
      · obtain ⟨b, off, rfl, x0, x1, x2, x3⟩ := (HQ.out.turn0 HTr.out).at hkl
        rw [map_getD] at hid
        generalize qs.getD k Hr.nil = q at *
        have hb := lt_of_cell x0
        have hg1 : decide ((k : Int) < (qs.length : Int)) = true := decide_eq_true (by omega)
        have hg2 : decide (q.x.id < r.x.id) = false := decide_eq_false hid
        go_wp2_with fail
        go_quiet (fail)
        clear x0 x1 x2 x3
        have HTq := hide (HTr.out.drewN nq)
        have y0 : (wr.drewN nq).cell? ⟨g, 0, none⟩ = some (.int .i64 r.x.id) := e0
        have y1 : (wr.drewN nq).cell? ⟨g, 1, none⟩ = some (.slice r.a r.x.ps.length r.c) := e1
        have y2 : (wr.drewN nq).cell? ⟨g, 2, none⟩ = some (.int .i64 r.x.ov) := e2
        have y3 : (wr.drewN nq).cell? ⟨g, 3, none⟩ = some (.int .i64 r.x.un) := e3
        have hgq : g < (wr.drewN nq).heap.size := hgr
        generalize wr.drewN nq = wq at *
        clear e0 e1 e2 e3 hgr HTr HW
        have HRq := hide (HR1.out.turn0 HTq.out)
        have HOq : Hid (∀ t ∈ qs, t.Ok wq) := fun t ht => (HOk.out t ht).turn0 HTq.out
        have HQt := hide ((HQ.out.turn0 HTq.out).take k)
        have HQ3 := hide (hiA_at (k := k) (HQ.out.turn0 HTq.out) hc1)
        have HN3 : Hid (hiA (some ⟨b, off, none⟩) c1 k = none → c1 - k = 0) := hiA_nil HNil.out
        have hsl := slice_lo (some ⟨b, off, none⟩) qs.length c1 k
        have hsl1 := fun w => hsl w (by omega)
        have hsh := slice_hi (some ⟨b, off, none⟩) qs.length c1 k
        have hsh1 := fun w => hsh w (by omega)
        have HL1 : Hid (k = (qs.take k).length) := by unfold Hid; rw [List.length_take]; omega
        have HL3 : Hid (qs.length - k = (qs.drop k).length) := by unfold Hid; rw [List.length_drop]
        have hlen1 : (qs.take k).length ≤ 900 := by rw [← HL1.out]; omega
        have hlen3 : (qs.drop k).length ≤ 900 := by rw [← HL3.out]; omega
        have HO1 : Hid (∀ t ∈ qs.take k, t.Ok wq) := fun t ht => HOq.out t (List.mem_of_mem_take ht)
        have HO3 : Hid (∀ t ∈ qs.drop k, t.Ok wq) := fun t ht => HOq.out t (List.mem_of_mem_drop ht)
        have HN0 := hide (Own.nil wq wq.heap.size)
        have HRes : Hid (((qs.take k ++ [r]) ++ qs.drop k).map Hr.x = res) := by
          unfold Hid
          rw [List.map_append, List.map_append, List.map_take, List.map_drop, ← HPq.out]
          simp
        generalize hiA (some ⟨b, off, none⟩) c1 k = a3 at *
        generalize qs.take k = t1 at *
        generalize qs.drop k = t3 at *
        clear hsl hsh
        go_wp2_with (first
          | (at_builtin; refine append_row rfl _ _ rfl wq.heap.size (.slice none 0 0) [] t1 (some ⟨b, off, none⟩) k c1 HL1.out rfl HN0.out rfl HQt.out HNil.out (by simp; omega) (Nat.le_refl _) (fun t ht => ⟨HO1.out t ht, fun q hq => by cases hq⟩) ?_; intro v2 w2 hown2 hT2; have HO2 := hide hown2; have hT2' := hT2 wq (Nat.le_refl _) (Turn.refl _ _); have HT2 := hide hT2'; have z0 := (hT2'.cell (p := ⟨g, 0, none⟩) hgq (by simp)).trans y0; have z1 := (hT2'.cell (p := ⟨g, 1, none⟩) hgq (by simp)).trans y1; have z2 := (hT2'.cell (p := ⟨g, 2, none⟩) hgq (by simp)).trans y2; have z3 := (hT2'.cell (p := ⟨g, 3, none⟩) hgq (by simp)).trans y3; have hg2 := lt_of_cell z0; have hs2 := hT2'.size; clear hown2 hT2 hT2' y0 y1 y2 y3)
          | (at_builtin; refine append_hold rfl _ _ rfl wq.heap.size v2 ([] ++ t1) r rfl HO2.out w2.heap.size rfl rfl (by simp; omega) hs2 (HRq.out.turn0 HT2.out) (fun q hq x hx hp => by have h1 := (own_ge HO2.out.row hq).1; have h2 := HRq.out.lt hx hp; omega) ?_; intro v3 w3 hown3 hT3; have HO3' := hide hown3; have HT3 := hide (hT3 wq (Nat.le_refl _) HT2.out); have hs3 := HT3.out.size; clear hown3 hT3)
          | (at_builtin; refine append_row rfl _ _ rfl wq.heap.size v3 ([] ++ t1 ++ [r]) t3 a3 (qs.length - k) (c1 - k) HL3.out rfl HO3'.out rfl (HQ3.out.turn0 HT3.out) HN3.out (by simp; omega) hs3 (fun t ht => ⟨(HO3.out t ht).turn0 HT3.out, fun q hq x hx hp => by have h1 := (own_ge HO3'.out.row hq).1; have h2 := (HO3.out t ht).lt hx hp; omega⟩) ?_; intro v4 w4 hown4 hT4; have HO4 := hide hown4; have HT4 := hide (hT4 wq (Nat.le_refl _) HT3.out); clear hown4 hT4)
          | fail)
        obtain ⟨a4, c4, rfl, hA4⟩ := HO4.out.holds
        have HL4 : Hid (([] ++ t1 ++ [r] ++ t3).length = res.length) := by unfold Hid; have := congrArg List.length HRes.out; rw [List.length_map] at this; simpa using this
        rw [List.nil_append, HRes.out] at hA4
        have HA4 := hide hA4
        have HTf := hide (HT1.out.trans (HTq.out.trans HT4.out))
        clear hA4 HO4 HT4
        go_wp2_with fail
        go_ret
        exact ⟨a4, c4, congrArg (fun n => Ending.returned (.slice a4 n c4)) HL4.out, HA4.out, HTf.out⟩

end Go.Proofs.Ytajnhdlefpeclaa.Ho
