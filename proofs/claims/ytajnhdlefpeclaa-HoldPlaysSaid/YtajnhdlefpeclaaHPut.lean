/-
  Put, Drop, walked.
-/
import Derived.Test.YtajnhdlefpeclaaHAll
import Derived.Test.YtajnhdlefpeclaaHFns
import Derived.Deep.RegionHeld
namespace Go.Proofs.Ytajnhdlefpeclaa.Ho
open Go.RowKit Go.Maps

theorem HoldsAt.take {w : World} {a : Option Addr} {c : Nat} {l : List Hd} (h : HoldsAt w a c l) (f : Nat) : HoldsAt w a c (l.take f) := by
  obtain ⟨rs, rfl, h1, h2, h3, h4, h5⟩ := h
  exact ⟨rs.take f, by rw [List.map_take], h1.take f, fun r hr => h2 r (List.mem_of_mem_take hr), h3, by rw [List.length_take]; omega, h5⟩
theorem HoldsAt.drop {w : World} {x : Addr} {c : Nat} {l : List Hd} (h : HoldsAt w (some x) c l) (t : Nat) : HoldsAt w (some (x.add (t * 4))) (c - t) (l.drop t) := by
  obtain ⟨rs, rfl, h1, h2, _, h4, h5⟩ := h
  refine ⟨rs.drop t, by rw [List.map_drop], ?_, fun r hr => h2 r (List.mem_of_mem_drop hr), (fun e => by cases e), by rw [List.length_drop]; omega, by omega⟩
  rcases h1 with rfl | ⟨b, off, hx, h1⟩
  · exact .inl (by simp)
  · obtain rfl := Option.some.inj hx
    rw [add_spot]
    exact .inr ⟨b, off + t * 4, rfl, h1.drop t⟩
theorem HoldsAt.empty (w : World) (x : Addr) : HoldsAt w (some x) 0 [] := ⟨[], rfl, .inl rfl, by simp, fun _ => rfl, by simp, by omega⟩
theorem Fit.append {n : Nat} {l m : List Hd} (h : Fit n l) (k : Fit n m) : Fit n (l ++ m) := fun x hx => (List.mem_append.1 hx).elim (h x) (k x)
theorem Fit.take {n : Nat} {l : List Hd} (h : Fit n l) (k : Nat) : Fit n (l.take k) := fun x hx => h x (List.mem_of_mem_take hx)
theorem Fit.drop {n : Nat} {l : List Hd} (h : Fit n l) (k : Nat) : Fit n (l.drop k) := fun x hx => h x (List.mem_of_mem_drop hx)

/-- copiedAll of two rows. -/
theorem two_any (w : World) (a1 a2 : Option Addr) (c1 c2 n1 n2 : Nat) (l1 l2 l : List Hd) (h1 : HoldsAt w a1 c1 l1) (h2 : HoldsAt w a2 c2 l2) (hn1 : n1 = l1.length) (hn2 : n2 = l2.length) (hl : l = l1 ++ l2) (hlen : l.length ≤ 1000) (hF : Fit 1000 l) :
    Calls Try.prog 23 #[.slice (some ⟨w.heap.size, 0, none⟩) 2 2] (w.alloc (.cells #[.slice a1 n1 c1, .slice a2 n2 c2] 24)).drew fun e w' => ∃ a c', e = .returned (.slice a l.length c') ∧ HoldsAt w' a c' l ∧ Turn [] w w' := by
  subst hn1 hn2 hl
  have hT : Turn [] w (w.alloc (.cells #[.slice a1 l1.length c1, .slice a2 l2.length c2] 24)).drew := ((Turn.refl [] w).alloc _).drew
  have e : flatS [(a1, c1, l1), (a2, c2, l2)] = l1 ++ l2 := by simp [flatS]
  have := copiedAll_any w.heap.size 2 [(a1, c1, l1), (a2, c2, l2)] _ (by simp) (by rw [e]; exact hlen) (by rw [e]; exact hF) (show PiecesAt (w.alloc (.cells #[.slice a1 l1.length c1, .slice a2 l2.length c2] 24)).drew w.heap.size _ from fun i hi => by
    match i, hi with
    | 0, _ => exact ⟨World.cell?_alloc_at _ _ _ _ rfl, h1.turn0 hT⟩
    | 1, _ => exact ⟨World.cell?_alloc_at _ _ _ _ rfl, h2.turn0 hT⟩)
  rw [e] at this
  refine this.mono ?_
  rintro e w1 ⟨a, c, rfl, hH, hT1⟩
  exact ⟨a, c, rfl, hH, hT.trans hT1⟩

/-- copiedAll of three rows. -/
theorem three_any (w : World) (A : Obj) (a1 a2 a3 : Option Addr) (c1 c2 c3 n1 n2 n3 : Nat) (l1 l2 l3 l : List Hd) (h1 : HoldsAt w a1 c1 l1) (h2 : HoldsAt (w.alloc A) a2 c2 l2) (h3 : HoldsAt w a3 c3 l3) (hn1 : n1 = l1.length) (hn2 : n2 = l2.length) (hn3 : n3 = l3.length) (hl : l = l1 ++ (l2 ++ l3)) (hlen : l.length ≤ 1000) (hF : Fit 1000 l) :
    Calls Try.prog 23 #[.slice (some ⟨w.heap.size + 1, 0, none⟩) 3 3] ((w.alloc A).alloc (.cells #[.slice a1 n1 c1, .slice a2 n2 c2, .slice a3 n3 c3] 24)).drew fun e w' => ∃ a c', e = .returned (.slice a l.length c') ∧ HoldsAt w' a c' l ∧ Turn [] w w' := by
  subst hn1 hn2 hn3 hl
  have hTa : Turn [] w (w.alloc A) := (Turn.refl [] w).alloc _
  have hTb : Turn [] (w.alloc A) ((w.alloc A).alloc (.cells #[.slice a1 l1.length c1, .slice a2 l2.length c2, .slice a3 l3.length c3] 24)).drew := ((Turn.refl [] _).alloc _).drew
  have hT := hTa.trans hTb
  have e : flatS [(a1, c1, l1), (a2, c2, l2), (a3, c3, l3)] = l1 ++ (l2 ++ l3) := by simp [flatS]
  have hs : w.heap.size + 1 = (w.alloc A).heap.size := by simp
  have := copiedAll_any (w.heap.size + 1) 3 [(a1, c1, l1), (a2, c2, l2), (a3, c3, l3)] _ (by simp) (by rw [e]; exact hlen) (by rw [e]; exact hF) (show PiecesAt ((w.alloc A).alloc (.cells #[.slice a1 l1.length c1, .slice a2 l2.length c2, .slice a3 l3.length c3] 24)).drew (w.heap.size + 1) _ from fun i hi => by
    rw [hs]
    match i, hi with
    | 0, _ => exact ⟨World.cell?_alloc_at _ _ _ _ rfl, h1.turn0 hT⟩
    | 1, _ => exact ⟨World.cell?_alloc_at _ _ _ _ rfl, h2.turn0 hTb⟩
    | 2, _ => exact ⟨World.cell?_alloc_at _ _ _ _ rfl, h3.turn0 hT⟩)
  rw [e] at this
  refine this.mono ?_
  rintro e w1 ⟨a, c, rfl, hH, hT1⟩
  exact ⟨a, c, rfl, hH, hT.trans hT1⟩

set_option maxRecDepth 100000 in
set_option maxHeartbeats 4000000 in
theorem drop_any (a : Option Addr) (c : Nat) (l : List Hd) (i : Int) (w : World) (hU : Up l) (hlen : l.length ≤ 900) (hF : Fit 1000 l) (hL : HoldsAt w a c l) :
    Calls Try.prog 18 #[.slice a l.length c, .int .i64 i] w fun e w' => ∃ a' c', e = .returned (.slice a' (drp l i).length c') ∧ HoldsAt w' a' c' (drp l i) ∧ Turn [] w w' := by
  have HL := hide hL
  obtain ⟨qs, hqs, hQ, hOk, hnil, hc1, hc2⟩ := hL
  have hql : qs.length = l.length := by rw [hqs, List.length_map]
  have HC := hide (place_any a c qs i (by rw [← hqs]; exact hU) (by omega) w hQ)
  rw [hql, ← hqs] at HC
  have HE := hide (drp_split hU i)
  have HD : Hid ((drp l i).length ≤ 1000) := Nat.le_trans (List.length_filter_le _ _) (by omega)
  have HFd : Hid (Fit 1000 (drp l i)) := hF.filter _
  clear hQ hOk hF hU hqs hql
  generalize drp l i = d at *
  go_enter Try.func18, Try.ntmps18
  go_wp2_with fail
  refine HC.out.mono ?_
  rintro e w1 ⟨f, t, rfl, hPl, htf, hT1⟩
  have HT1 := hide hT1
  have HL1 := hide (HL.out.turn0 hT1)
  have hft := hPl.le
  have htl := hPl.len
  have HS : Hid (d = l.take f ++ l.drop t) := by
    unfold Hid
    rw [HE.out, hPl.lo, hPl.hi]
  clear hPl hT1 HC HE HL
  cases a with
  | none =>
    obtain rfl := hnil rfl
    obtain rfl : l = [] := List.eq_nil_of_length_eq_zero (by omega)
    have HK := hide (two_any w1 none none 0 0 0 0 [] [] d (HoldsAt.nil _) (HoldsAt.nil _) rfl rfl (by rw [HS.out]; simp) HD.out HFd.out)
    simp only [List.length_nil] at htl hc1 hlen ⊢
    obtain rfl : t = 0 := by omega
    obtain rfl : f = 0 := by omega
    go_wp2_with fail
    go_region_with (go_at_call 23; refine HK.out.mono ?_; rintro e w2 ⟨a2, c2, rfl, hH, hT2⟩)
    all_goals
      have HH := hide hH
      have HT2 := hide (HT1.out.trans hT2)
      clear hH hT2
      go_wp2_with fail
      go_ret
      exact ⟨a2, c2, rfl, HH.out, HT2.out⟩
  | some x =>
    rcases Nat.eq_zero_or_pos c with hc | hc
    · subst hc
      obtain rfl : l = [] := List.eq_nil_of_length_eq_zero (by omega)
      have HK := hide (two_any w1 (some x) (some x) 0 0 0 0 [] [] d (HoldsAt.empty _ _) (HoldsAt.empty _ _) rfl rfl (by rw [HS.out]; simp) HD.out HFd.out)
      simp only [List.length_nil] at htl hc1 hlen ⊢
      obtain rfl : t = 0 := by omega
      obtain rfl : f = 0 := by omega
      go_wp2_with fail
      go_region_with (go_at_call 23; refine HK.out.mono ?_; rintro e w2 ⟨a2, c2, rfl, hH, hT2⟩)
      all_goals
        have HH := hide hH
        have HT2 := hide (HT1.out.trans hT2)
        clear hH hT2
        go_wp2_with fail
        go_ret
        exact ⟨a2, c2, rfl, HH.out, HT2.out⟩
    · by_cases htc : c = t
      · subst htc
        have HK := hide (two_any w1 (some x) (some x) c 0 f 0 (l.take f) [] d (HL1.out.take f) (HoldsAt.empty _ _) (by rw [List.length_take]; omega) rfl (by rw [HS.out, List.drop_of_length_le hc1]) HD.out HFd.out)
        go_wp2_with fail
        go_region_with (go_at_call 23; refine HK.out.mono ?_; rintro e w2 ⟨a2, c2, rfl, hH, hT2⟩)
        all_goals
          have HH := hide hH
          have HT2 := hide (HT1.out.trans hT2)
          clear hH hT2
          go_wp2_with fail
          go_ret
          exact ⟨a2, c2, rfl, HH.out, HT2.out⟩
      · have HK := hide (two_any w1 (some x) (some (x.add (t * 4))) c (c - t) f (l.length - t) (l.take f) (l.drop t) d (HL1.out.take f) (HL1.out.drop t) (by rw [List.length_take]; omega) (by rw [List.length_drop]) HS.out HD.out HFd.out)
        go_wp2_with fail
        go_region_with (go_at_call 23; refine HK.out.mono ?_; rintro e w2 ⟨a2, c2, rfl, hH, hT2⟩)
        all_goals
          have HH := hide hH
          have HT2 := hide (HT1.out.trans hT2)
          clear hH hT2
          go_wp2_with fail
          go_ret
          exact ⟨a2, c2, rfl, HH.out, HT2.out⟩

set_option maxRecDepth 100000 in
set_option maxHeartbeats 4000000 in
theorem put_any (a : Option Addr) (c : Nat) (l : List Hd) (r : Hr) (w : World) (hU : Up l) (hlen : l.length ≤ 900) (hF : Fit 1000 l) (hL : HoldsAt w a c l) (hr : r.Ok w) (hrF : r.x.ps.length ≤ 1000) :
    Calls Try.prog 16 #[.slice a l.length c, hrV r] w fun e w' => ∃ a' c', e = .returned (.slice a' (put l r.x).length c') ∧ HoldsAt w' a' c' (put l r.x) ∧ Turn [] w w' := by
  have HT0 := hide ((Turn.refl [] w).alloc (.cells #[.int .i64 r.x.id, .slice r.a r.x.ps.length r.c, .int .i64 r.x.ov, .int .i64 r.x.un] 27))
  have HL := hide (hL.turn0 HT0.out)
  have HR := hide (hr.turn0 HT0.out)
  obtain ⟨qs, hqs, hQ, hOk, hnil, hc1, hc2⟩ := HL.out
  have hql : qs.length = l.length := by rw [hqs, List.length_map]
  have HC := hide (place_any a c qs r.x.id (by rw [← hqs]; exact hU) (by omega) _ hQ)
  rw [hql, ← hqs] at HC
  have HD : Hid ((put l r.x).length ≤ 1000) := Nat.le_trans (put_length _ _) (by omega)
  have HFd : Hid (Fit 1000 (put l r.x)) := hF.put hrF
  have HB0 : Hid ((w.alloc (.cells #[.int .i64 r.x.id, .slice r.a r.x.ps.length r.c, .int .i64 r.x.ov, .int .i64 r.x.un] 27)).heap[w.heap.size]? = some (.cells #[.int .i64 r.x.id, .slice r.a r.x.ps.length r.c, .int .i64 r.x.ov, .int .i64 r.x.un] 27)) := Array.getElem?_push_size
  clear hQ hOk hF hU hqs hql hL hr hrF
  have HE : Hid (put l r.x = lo l r.x.id ++ ([r.x] ++ hi l r.x.id)) := rfl
  generalize put l r.x = d at *
  go_enter Try.func16, Try.ntmps16
  go_wp2_with fail
  refine HC.out.mono ?_
  rintro e w1 ⟨f, t, rfl, hPl, htf, hT1⟩
  have HT1 := hide (HT0.out.trans hT1)
  have HL1 := hide (HL.out.turn0 hT1)
  have HR1' := hide (HR.out.turn0 hT1)
  have hft := hPl.le
  have htl := hPl.len
  have HS : Hid (d = l.take f ++ ([r.x] ++ l.drop t)) := by
    unfold Hid
    rw [HE.out, hPl.lo, hPl.hi]
  have h1 := (hT1.block w.heap.size (by simp) (by simp)).trans HB0.out
  have hlt1 : w.heap.size < w1.heap.size := by have := hT1.size; simp at this; omega
  have d0 : w1.cell? ⟨w.heap.size, 0, none⟩ = some (.int .i64 r.x.id) := by unfold World.cell?; rw [h1]; rfl
  have d1 : w1.cell? ⟨w.heap.size, 1, none⟩ = some (.slice r.a r.x.ps.length r.c) := by unfold World.cell?; rw [h1]; rfl
  have d2 : w1.cell? ⟨w.heap.size, 2, none⟩ = some (.int .i64 r.x.ov) := by unfold World.cell?; rw [h1]; rfl
  have d3 : w1.cell? ⟨w.heap.size, 3, none⟩ = some (.int .i64 r.x.un) := by unfold World.cell?; rw [h1]; rfl
  have HR1 : Hid (HoldsAt (w1.alloc (.cells #[.int .i64 r.x.id, .slice r.a r.x.ps.length r.c, .int .i64 r.x.ov, .int .i64 r.x.un] 27)) (some ⟨w1.heap.size, 0, none⟩) 1 [r.x]) := by
    refine ⟨[r], rfl, .inr ⟨w1.heap.size, 0, rfl, fun i hi => ?_⟩, fun x hx => ?_, (fun e => by cases e), by simp, by omega⟩
    · obtain rfl : i = 0 := by simpa using hi
      exact ⟨World.cell?_alloc_at _ _ _ _ rfl, World.cell?_alloc_at _ _ _ _ rfl, World.cell?_alloc_at _ _ _ _ rfl, World.cell?_alloc_at _ _ _ _ rfl⟩
    · obtain rfl := List.mem_singleton.1 hx
      exact HR1'.out.turn0 ((Turn.refl [] w1).alloc _)
  clear hPl hT1 HC HE HL HT0 HR HR1' HB0 h1
  cases a with
  | none =>
    obtain rfl := hnil rfl
    obtain rfl : l = [] := List.eq_nil_of_length_eq_zero (by omega)
    have HK := hide (three_any w1 (.cells #[.int .i64 r.x.id, .slice r.a r.x.ps.length r.c, .int .i64 r.x.ov, .int .i64 r.x.un] 27) none (some ⟨w1.heap.size, 0, none⟩) none 0 1 0 0 1 0 [] [r.x] [] d (HoldsAt.nil _) HR1.out (HoldsAt.nil _) rfl rfl rfl (by rw [HS.out]; simp) HD.out HFd.out)
    simp only [List.length_nil] at htl hc1 hlen ⊢
    obtain rfl : t = 0 := by omega
    obtain rfl : f = 0 := by omega
    go_wp2_with fail
    go_region_with (go_at_call 23; refine HK.out.mono ?_; rintro e w2 ⟨a2, c2, rfl, hH, hT2⟩)
    all_goals
      have HH := hide hH
      have HT2 := hide (HT1.out.trans hT2)
      clear hH hT2
      go_wp2_with fail
      go_ret
      exact ⟨a2, c2, rfl, HH.out, HT2.out⟩
  | some x =>
    rcases Nat.eq_zero_or_pos c with hc | hc
    · subst hc
      obtain rfl : l = [] := List.eq_nil_of_length_eq_zero (by omega)
      have HK := hide (three_any w1 (.cells #[.int .i64 r.x.id, .slice r.a r.x.ps.length r.c, .int .i64 r.x.ov, .int .i64 r.x.un] 27) (some x) (some ⟨w1.heap.size, 0, none⟩) (some x) 0 1 0 0 1 0 [] [r.x] [] d (HoldsAt.empty _ _) HR1.out (HoldsAt.empty _ _) rfl rfl rfl (by rw [HS.out]; simp) HD.out HFd.out)
      simp only [List.length_nil] at htl hc1 hlen ⊢
      obtain rfl : t = 0 := by omega
      obtain rfl : f = 0 := by omega
      go_wp2_with fail
      go_region_with (go_at_call 23; refine HK.out.mono ?_; rintro e w2 ⟨a2, c2, rfl, hH, hT2⟩)
      all_goals
        have HH := hide hH
        have HT2 := hide (HT1.out.trans hT2)
        clear hH hT2
        go_wp2_with fail
        go_ret
        exact ⟨a2, c2, rfl, HH.out, HT2.out⟩
    · by_cases htc : c = t
      · subst htc
        have HK := hide (three_any w1 (.cells #[.int .i64 r.x.id, .slice r.a r.x.ps.length r.c, .int .i64 r.x.ov, .int .i64 r.x.un] 27) (some x) (some ⟨w1.heap.size, 0, none⟩) (some x) c 1 0 f 1 0 (l.take f) [r.x] [] d (HL1.out.take f) HR1.out (HoldsAt.empty _ _) (by rw [List.length_take]; omega) rfl rfl (by rw [HS.out, List.drop_of_length_le hc1]) HD.out HFd.out)
        go_wp2_with fail
        go_region_with (go_at_call 23; refine HK.out.mono ?_; rintro e w2 ⟨a2, c2, rfl, hH, hT2⟩)
        all_goals
          have HH := hide hH
          have HT2 := hide (HT1.out.trans hT2)
          clear hH hT2
          go_wp2_with fail
          go_ret
          exact ⟨a2, c2, rfl, HH.out, HT2.out⟩
      · have HK := hide (three_any w1 (.cells #[.int .i64 r.x.id, .slice r.a r.x.ps.length r.c, .int .i64 r.x.ov, .int .i64 r.x.un] 27) (some x) (some ⟨w1.heap.size, 0, none⟩) (some (x.add (t * 4))) c 1 (c - t) f 1 (l.length - t) (l.take f) [r.x] (l.drop t) d (HL1.out.take f) HR1.out (HL1.out.drop t) (by rw [List.length_take]; omega) rfl (by rw [List.length_drop]) HS.out HD.out HFd.out)
        go_wp2_with fail
        go_region_with (go_at_call 23; refine HK.out.mono ?_; rintro e w2 ⟨a2, c2, rfl, hH, hT2⟩)
        all_goals
          have HH := hide hH
          have HT2 := hide (HT1.out.trans hT2)
          clear hH hT2
          go_wp2_with fail
          go_ret
          exact ⟨a2, c2, rfl, HH.out, HT2.out⟩

end Go.Proofs.Ytajnhdlefpeclaa.Ho
