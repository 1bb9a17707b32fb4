/-
  FrameAnswers, walked.
-/
import Derived.Test.YtkbboingeacgjaaFwAnsR
import Derived.Deep.Cut
namespace Go.Proofs.Ytkbboingeacgjaa
open Go.RowKit

/-- Bytes that came in. -/
def ArgB (w : World) (a : Option Addr) (c : Nat) (l : List Nat) : Prop := BytesAt w a l ∧ (∀ x ∈ l, x < 256) ∧ (a = none → c = 0) ∧ l.length ≤ c ∧ c ≤ maxLen ∧ (a = none ∧ c = 0 ∨ l = [] ∨ ∃ ab ao, a = some ⟨ab, ao, none⟩)

/-- A struct is laid into a new block. -/
theorem put_new (u : World) (cs : List Value) (hl : cs.length = 13) : (u.alloc (.cells #[.int .i64 0, .int .i64 0, .int .i64 0, .int .i64 0, .string { data := #[] }, .int .i64 0, .int .i64 0, .int .i64 0, .int .i64 0, .int .i64 0, .int .i64 0, .int .i64 0, .int .i64 0] 43)).there u.heap.size 0 13 ∧ Turn [] u ((u.alloc (.cells #[.int .i64 0, .int .i64 0, .int .i64 0, .int .i64 0, .string { data := #[] }, .int .i64 0, .int .i64 0, .int .i64 0, .int .i64 0, .int .i64 0, .int .i64 0, .int .i64 0, .int .i64 0] 43)).setCells u.heap.size 0 cs) ∧ ((u.alloc (.cells #[.int .i64 0, .int .i64 0, .int .i64 0, .int .i64 0, .string { data := #[] }, .int .i64 0, .int .i64 0, .int .i64 0, .int .i64 0, .int .i64 0, .int .i64 0, .int .i64 0, .int .i64 0] 43)).setCells u.heap.size 0 cs).rangeAt u.heap.size 0 cs := by
  have h1 : (u.alloc (.cells #[.int .i64 0, .int .i64 0, .int .i64 0, .int .i64 0, .string { data := #[] }, .int .i64 0, .int .i64 0, .int .i64 0, .int .i64 0, .int .i64 0, .int .i64 0, .int .i64 0, .int .i64 0] 43)).there u.heap.size 0 13 := there_new2 u #[.int .i64 0, .int .i64 0, .int .i64 0, .int .i64 0, .string { data := #[] }, .int .i64 0, .int .i64 0, .int .i64 0, .int .i64 0, .int .i64 0, .int .i64 0, .int .i64 0, .int .i64 0] 43
  exact ⟨h1, ((Turn.refl [] u).alloc _).setCellsN _ (Nat.le_refl _) cs 0, World.rangeAt_setCells_same _ _ 0 cs (by rw [hl]; exact h1)⟩
theorem rng_turn {w w' : World} {q : Nat} {cs : List Value} (h : w.rangeAt q 0 cs) (hT : Turn [] w w') : w'.rangeAt q 0 cs := fun j v hj => (World.cell?_of_block (a := ⟨q, 0 + j, none⟩) (hT.block q (lt_of_cell (h j v hj)) (by simp))).trans (h j v hj)

theorem awB_lt (a : Aw) (h : a.Ok) : ∀ x ∈ awB a, x < 256 := by
  intro x hx
  obtain ⟨h1, h2, h3⟩ := h
  unfold awB ansBy at hx
  rcases List.mem_append.1 hx with hx | hx
  · rcases List.mem_append.1 hx with hx | hx
    · rw [List.mem_singleton] at hx
      omega
    · obtain ⟨y, _, hy⟩ := List.mem_flatMap.1 hx
      exact be8_lt y x hy
  · split at hx
    · rw [List.mem_singleton] at hx
      omega
    · rcases List.mem_append.1 hx with hx | hx
      · rw [List.mem_singleton] at hx
        omega
      · exact tiB_lt _ _ h3 x hx

/-- What both frames come to. -/
theorem frm_two {w w1 w2 : World} {l : List Nat} {v u : Value} {e f : Int} (h1 : FrmP w w1 l v e) (h2 : FrmP w1 w2 l u f) : e = f ∧ ∃ Y a b c d, v = .slice a Y.length c ∧ u = .slice b Y.length d ∧ BytesAt w2 a Y ∧ BytesAt w2 b Y := by
  by_cases hb : l.length = 0 ∨ 512 < l.length
  · obtain ⟨rfl, rfl⟩ := h1.no hb
    obtain ⟨rfl, rfl⟩ := h2.no hb
    exact ⟨rfl, [], none, none, 0, 0, rfl, rfl, .inl rfl, .inl rfl⟩
  · obtain ⟨o1, rfl⟩ := h1.yes hb
    obtain ⟨o2, rfl⟩ := h2.yes hb
    obtain ⟨g, c, e1, _, _, _, b1, _⟩ := own_bytes o1 (by omega)
    obtain ⟨g', d, e2, _, _, _, b2, _⟩ := own_bytes o2 (by omega)
    exact ⟨rfl, _, _, _, c, d, e1, e2, b1.turn h2.old (by simp), b2⟩

set_option maxRecDepth 100000 in
set_option maxHeartbeats 1600000 in
theorem answers_out (a : Aw) (ab : Option Addr) (bc : Nat) (bl : List Nat) (w : World) (hz : a.nm.size ≤ 9223372036854775807) (hbl : bl.length ≤ 9223372036854775807) (h : ¬ (0 ≤ a.er ∧ a.er ≤ 255 ∧ a.nm.size ≤ 255 ∧ bl.length ≤ 2000)) :
    Calls Try.prog 4 #[.agg (awC a).toArray, .slice ab bl.length bc] w fun e w' => e = .returned (.bool true) ∧ Turn [] w w' := by
  have hR := rng_new w (awC a) (awC a).toArray 43 rfl
  have HR : Hid (∀ W : World, Turn [] (w.alloc (.cells (awC a).toArray 43)) W → W.cell? ⟨w.heap.size, 0, none⟩ = some (.int .i64 a.er) ∧ W.cell? ⟨w.heap.size, 4, none⟩ = some (.string a.nm)) := fun W hT => ⟨rng_turn hR hT 0 _ rfl, rng_turn hR hT 4 _ rfl⟩
  have HT0 : Hid (Turn [] w (w.alloc (.cells (awC a).toArray 43))) := (Turn.refl [] w).alloc _
  clear hR
  generalize awC a = cs at *
  generalize a.er = er at *
  generalize a.nm = nm at *
  generalize bl.length = nb at *
  generalize hq : w.heap.size = q at *
  go_enter Try.func4, Try.ntmps4
  go_wp2_with fail
  clear hq
  generalize w.alloc (.cells cs.toArray 43) = w0 at *
  refine (known_any w0).mono ?_
  rintro e w1 ⟨rfl, hT⟩
  obtain ⟨c0, c4⟩ := HR.out w1 hT
  have HT1 := hide (HT0.out.trans hT)
  clear hT HR HT0
  by_cases a0 : er < 0
  · have d0 : decide (er < 0) = true := by simp [a0]
    go_wp2_with fail
    go_ret
    exact ⟨rfl, HT1.out⟩
  · have d0 : decide (er < 0) = false := by simp; omega
    by_cases a1 : 255 < er
    · have d1 : decide (255 < er) = true := by simp [a1]
      go_wp2_with fail
      go_ret
      exact ⟨rfl, HT1.out⟩
    · have d1 : decide (255 < er) = false := by simp; omega
      by_cases a2 : 255 < nm.size
      · have d2 : decide (255 < (nm.size : Int)) = true := by simp; omega
        go_wp2_with fail
        go_ret
        exact ⟨rfl, HT1.out⟩
      · have d2 : decide (255 < (nm.size : Int)) = false := by simp; omega
        have d3 : decide (2000 < (nb : Int)) = true := by simp; omega
        go_wp2_with fail
        go_ret
        exact ⟨rfl, HT1.out⟩

set_option maxRecDepth 100000 in
set_option maxHeartbeats 6400000 in
theorem answers_in (a : Aw) (ab : Option Addr) (bc : Nat) (bl : List Nat) (w : World) (hN : a.Nums) (hok : a.Ok) (hbl : bl.length ≤ 2000) (hb : ArgB w ab bc bl) :
    Calls Try.prog 4 #[.agg (awC a).toArray, .slice ab bl.length bc] w fun e w' => e = .returned (.bool true) ∧ Turn [] w w' := by
  obtain ⟨hB, hby, hnc, hlc, hcm, _⟩ := hb
  have hR := rng_new w (awC a) (awC a).toArray 43 rfl
  have HT0 : Hid (Turn [] w (w.alloc (.cells (awC a).toArray 43))) := (Turn.refl [] w).alloc _
  have HTh : Hid ((w.alloc (.cells (awC a).toArray 43)).there w.heap.size 0 13) := there_new2 w (awC a).toArray 43
  have HR : Hid ((w.alloc (.cells (awC a).toArray 43)).rangeAt w.heap.size 0 (awC a)) := hR
  have HN := hide hN
  have HOk := hide hok
  have HB := hide hB
  have HBy := hide hby
  have HNc := hide hnc
  obtain ⟨PR, hPR⟩ : ∃ P, (if endS (anS ⟨bl, 0⟩).1 = 0 then ranA ⟨bl, 0⟩ else Aw.zero) = P := ⟨_, rfl⟩
  obtain ⟨G, hG⟩ : ∃ G, endS (anS ⟨bl, 0⟩).1 = G := ⟨_, rfl⟩
  have HP1 : Hid (∀ r W W', PaP W (panS ⟨bl, 0⟩).1 (panS ⟨bl, 0⟩).2 r W' → r = .returned (.tuple #[.agg (awC PR).toArray, .int .i64 (G : Nat)]) ∧ Turn [] W W') := fun r W W' h => by
    obtain ⟨h1, h2⟩ := h
    obtain ⟨p1, p2⟩ := pan_ran bl hby
    rw [p1] at h1
    refine ⟨?_, h2⟩
    rw [h1, ← hPR, ← hG]
    by_cases he : endS (anS ⟨bl, 0⟩).1 = 0
    · rw [if_pos he, if_pos he, p2 he]
    · rw [if_neg he, if_neg he]
  have HP2 : Hid (∀ r W W', PaP W (anS ⟨bl, 0⟩).1 (ranA ⟨bl, 0⟩) r W' → r = .returned (.tuple #[.agg (awC PR).toArray, .int .i64 (G : Nat)]) ∧ Turn [] W W') := fun r W W' h => by
    obtain ⟨h1, h2⟩ := h
    refine ⟨?_, h2⟩
    rw [h1, ← hPR, ← hG]
  have HPw : Hid (G = 0 → awB PR = bl ∧ PR.Ok) := fun h0 => by
    rw [hG.trans h0, if_pos rfl] at hPR
    rw [← hPR]
    exact ran_wb bl hby (hG.trans h0)
  have HlP : Hid ((awC PR).length = 13) := rfl
  clear hPR hG
  have HL := hide hbl
  have HLc := hide hlc
  have d0 : decide (a.er < 0) = false := by have := hok.1; simp; omega
  have d1 : decide (255 < a.er) = false := by have := hok.2.1; simp; omega
  have d2 : decide (255 < (a.nm.size : Int)) = false := by have := hok.2.2; simp; omega
  have d3 : decide (2000 < (bl.length : Int)) = false := by simp; omega
  have hz9 : a.nm.size ≤ 255 := hok.2.2
  have HCell : Hid (∀ W : World, W.rangeAt w.heap.size 0 (awC a) → W.cell? ⟨w.heap.size, 0, none⟩ = some (.int .i64 a.er) ∧ W.cell? ⟨w.heap.size, 4, none⟩ = some (.string a.nm) ∧ W.cell? ⟨w.heap.size, 5, none⟩ = some (.int .i64 a.z1)) := fun W h => ⟨h 0 _ rfl, h 4 _ rfl, h 5 _ rfl⟩
  clear hB hby hnc hcm hN hok hR
  have HW : Hid (w.heap.size = w.heap.size) := rfl
  generalize hq : w.heap.size = q at *
  go_enter Try.func4, Try.ntmps4
  go_wp2_with fail
  have HQ := hide hq
  clear hq
  generalize w.alloc (.cells (awC a).toArray 43) = w0 at *
  refine (known_any w0).mono ?_
  rintro e w1 ⟨rfl, hT⟩
  have hr1 := rng_turn HR.out hT
  obtain ⟨c0, c4, c5⟩ := HCell.out w1 hr1
  have hth1 := there_blk HTh.out (hT.block q (lt_of_cell (HR.out 0 (.int .i64 a.er) rfl)) (by simp))
  have HT1 := hide (HT0.out.trans hT)
  have HR1 := hide hr1
  have HTh1 := hide hth1
  clear hT hr1 hth1 HT0 HTh HR HCell
  have hcomm : ∃ (v0 : World) (A : Aw), Hid ((a.z1 = 0 → v0 = w1.setCells q 4 [.string { data := #[] }, .int .i64 0, .int .i64 0, .int .i64 0, .int .i64 0, .int .i64 0, .int .i64 0, .int .i64 0, .int .i64 0]) ∧ (a.z1 ≠ 0 → v0 = w1)) ∧ Hid (v0.rangeAt q 0 (awC A) ∧ Turn [] w v0 ∧ A.Ok ∧ A.Nums ∧ (A.z1 = 0 → A.nm = ByteArray.empty ∧ A.z2 = 0 ∧ A.z3 = 0 ∧ A.z4 = 0 ∧ A.z5 = 0 ∧ A.z6 = 0 ∧ A.z7 = 0 ∧ A.z8 = 0)) := by
    by_cases hz : a.z1 = 0
    · refine ⟨w1.setCells q 4 [.string { data := #[] }, .int .i64 0, .int .i64 0, .int .i64 0, .int .i64 0, .int .i64 0, .int .i64 0, .int .i64 0, .int .i64 0], { Aw.zero with er := a.er, l1 := a.l1, l2 := a.l2, l3 := a.l3 }, ⟨fun _ => rfl, fun k => absurd hz k⟩, ?_, HT1.out.setCellsN q (by have := HQ.out; omega) _ 4, ⟨HOk.out.1, HOk.out.2.1, by show 0 ≤ 255; omega⟩, ?_, fun _ => ⟨rfl, rfl, rfl, rfl, rfl, rfl, rfl, rfl⟩⟩
      · have := range_puts (o := 4) (vs := [.string { data := #[] }, .int .i64 0, .int .i64 0, .int .i64 0, .int .i64 0, .int .i64 0, .int .i64 0, .int .i64 0, .int .i64 0]) HR1.out HTh1.out (by simp [awC])
        exact this
      · intro x hx
        have h0 : I64 0 := ⟨by omega, by omega⟩
        have hn := HN.out
        unfold Aw.Nums at hn
        simp only [List.mem_cons, List.not_mem_nil, or_false] at hx
        rcases hx with rfl | rfl | rfl | rfl | h | h | h | h | h | h | h | h
        · exact hn _ (by simp)
        · exact hn _ (by simp)
        · exact hn _ (by simp)
        · exact hn _ (by simp)
        all_goals (rw [h]; exact h0)
    · exact ⟨w1, a, ⟨fun k => absurd k hz, fun _ => rfl⟩, HR1.out, HT1.out, HOk.out, HN.out, fun k => absurd k hz⟩
  obtain ⟨v0, A, HV, HA⟩ := hcomm
  have hl9 : ([.string { data := #[] }, .int .i64 0, .int .i64 0, .int .i64 0, .int .i64 0, .int .i64 0, .int .i64 0, .int .i64 0, .int .i64 0] : List Value).length = 9 := rfl
  have HO9 : Hid (∀ v ∈ ([.string { data := #[] }, .int .i64 0, .int .i64 0, .int .i64 0, .int .i64 0, .int .i64 0, .int .i64 0, .int .i64 0, .int .i64 0] : List Value), v.oneCell' = true) := by
    intro v hv
    simp only [List.mem_cons, List.not_mem_nil, or_false] at hv
    rcases hv with rfl | rfl | rfl | rfl | rfl | rfl | rfl | rfl | rfl <;> rfl
  have HT9 : Hid (w1.there q 4 9) := fun j hj => by
    have := HTh1.out (4 + j) (by omega)
    rw [Nat.zero_add] at this
    exact this
  clear HN HOk HR1 HTh1
  by_cases hz : a.z1 = 0
  case' pos =>
    rw [hz] at c5
    go_upto_region 7 with (first | ((with_reducible refine store_sz 41 9 sz40 _ _ q 4 [.string { data := #[] }, .int .i64 0, .int .i64 0, .int .i64 0, .int .i64 0, .int .i64 0, .int .i64 0, .int .i64 0, .int .i64 0] hl9 HO9.out ?_ ?_ HT9.out ?_); rfl; rfl) | fail)
  case' neg =>
    go_upto_region 7 with fail
    have hv := HV.out.2 hz
    generalize w1 = w1' at *
    subst hv
  case' pos =>
    have hv := HV.out.1 hz
    rw [← hv]
    clear hv
  all_goals
    clear HV c0 c4 c5 HT9
    obtain ⟨hr0, hT0, hOk, hNu, hzz⟩ := HA.out
    have HX := hide (pan_back A hOk hNu hzz)
    have HC17 : Hid (∃ X, awB A = X ∧ (∀ x ∈ X, x < 256) ∧ panS ⟨X, 0⟩ = (⟨[], 0⟩, A) ∧ Calls Try.prog 17 #[.agg (awC A).toArray] v0 fun e w' => ∃ v, e = .returned v ∧ Out v0 w' v X) := ⟨_, rfl, awB_lt A hOk, HX.out, encans v0 A hOk⟩
    obtain ⟨X, hXe, hXb, hXp, hXc⟩ := HC17.out
    have HXe := hide hXe
    have HXb := hide hXb
    have HXp := hide (fun (_ : Unit) => hXp)
    have HXc := hide hXc
    have HOkA := hide hOk
    have HR0 := hide hr0
    have HTw := hide hT0
    have HB0 := hide (HB.out.turn hT0 (by simp))
    clear hr0 hT0 hOk hNu hzz HX HC17 hXe hXb hXp hXc HA HB
    obtain ⟨cA, hcA⟩ : ∃ c, awC A = c := ⟨_, rfl⟩
    have hlA : cA.length = 13 := by rw [← hcA]; rfl
    have HOneA : Hid (∀ v ∈ cA, v.oneCell' = true) := by rw [← hcA]; exact awC_one A
    rw [hcA] at HR0 HXc
    have HcA := hide (fun (_ : Unit) => hcA)
    clear hcA
    obtain ⟨cP, hcP⟩ : ∃ c, awC PR = c := ⟨_, rfl⟩
    have hlP : cP.length = 13 := by rw [← hcP]; rfl
    have HOneP : Hid (∀ v ∈ cP, v.oneCell' = true) := by rw [← hcP]; exact awC_one PR
    rw [hcP] at HP1 HP2
    have HcP := hide (fun (_ : Unit) => hcP)
    clear hcP
    go_wp2_with (first | ((with_reducible refine load_sz 43 13 sz67 _ q 0 cA hlA ?_ HR0.out ?_); rfl) | fail)
    refine HXc.out.mono ?_
    rintro e w2 ⟨vx, rfl, hO⟩
    obtain ⟨ax, cx, hvx, hyr⟩ := Byr.of hO.own HXb.out
    subst hvx
    have HY2 := hide hyr
    have HTw2 := hide (HTw.out.trans hO.old)
    have HR2 := hide (rng_turn HR0.out hO.old)
    have HB2 := hide (HB0.out.turn hO.old (by simp))
    clear hO hyr HXc HR0 HB0 HTw
    go_wp2_with fail
    refine (parseans w2 ax cx X HY2.out).mono ?_
    rintro e w3 hPa
    rw [HXp.out ()] at hPa
    obtain ⟨h3, hT3⟩ := hPa
    have h3 : e = .returned (.tuple #[.agg (awC A).toArray, .int .i64 0]) := h3
    rw [HcA.out ()] at h3
    subst h3
    have HTw3 := hide (HTw2.out.trans hT3)
    have HR3 := hide (rng_turn HR2.out hT3)
    have HB3 := hide (HB2.out.turn hT3 (by simp))
    have HX3 := hide (HY2.out.bt.turn hT3 (by simp))
    clear hT3 HTw2 HR2 HB2 HY2
    obtain ⟨ht, hTn, hrn⟩ := put_new w3 cA hlA
    have HTh := hide ht
    have HTn := hide hTn
    have HRn := hide hrn
    clear ht hTn hrn
    go_upto_region 9 with (first | ((with_reducible refine store_sz 43 13 sz67 _ _ w3.heap.size 0 cA hlA HOneA.out ?_ ?_ HTh.out ?_); rfl; rfl) | fail)
    generalize w3.heap.size = q6 at *
    generalize (w3.alloc (.cells #[.int .i64 0, .int .i64 0, .int .i64 0, .int .i64 0, .string { data := #[] }, .int .i64 0, .int .i64 0, .int .i64 0, .int .i64 0, .int .i64 0, .int .i64 0, .int .i64 0, .int .i64 0] 43)).setCells q6 0 cA = w4 at *
    clear HTh
    have HTw4 := hide (HTw3.out.trans HTn.out)
    have HR4 := hide (rng_turn HR3.out HTn.out)
    have HB4 := hide (HB3.out.turn HTn.out (by simp))
    have HX4 := hide (HX3.out.turn HTn.out (by simp))
    have HR46 := hide HRn.out
    clear HTw3 HR3 HB3 HX3 HTn HRn
    have HO : Hid ((w4.alloc (.cells #[] 5)).ownsRow w4.heap.size 5 1 (.slice (some ⟨w4.heap.size, 0, none⟩) 0 0) 0 (([] : List Nat).map byteCell)) := World.ownsRow_lit w4 #[] 0 (Nat.le_refl _) (by decide) rfl
    have HBa : Hid (BytesAt (w4.alloc (.cells #[] 5)) ab bl) := HB4.out.turn (S := []) ((Turn.refl [] w4).alloc _) (by simp)
    have HAp : Hid (∀ v' w', w'.ownsRow w4.heap.size 5 1 v' (0 + bl.length) (([] ++ bl).map byteCell) → (w4.alloc (.cells #[] 5)).grownBy w' (some w4.heap.size) → ∃ a c, v' = .slice a bl.length c ∧ Byr w' a c bl ∧ Turn [] w4 w') := fun v' w' h1 h2 => by
      obtain ⟨a5, c5, e5, y5⟩ := Byr.of h1 HBy.out
      exact ⟨a5, c5, e5, y5, ((Turn.refl [] w4).alloc _).grown h2 (fun k e => .inr (by have := Option.some.inj e; omega))⟩
    go_wp2_with (first | (at_builtin; refine append_bytes rfl _ _ rfl w4.heap.size (.slice (some ⟨w4.heap.size, 0, none⟩) 0 0) 0 [] rfl HO.out ab bl.length bc bl rfl rfl HNc.out HBa.out (by omega) (by simp) ?_; intro v5 w5 h1 h2 h3; obtain ⟨a5, c5, rfl, hy5, hT5⟩ := HAp.out v5 w5 h1 h2; have HY5 := hide hy5; have HT5 := hide hT5; clear h1 h2 h3 hy5 hT5) | fail)
    refine (parseans w5 a5 c5 bl HY5.out).mono ?_
    rintro e w6 hPa
    obtain ⟨h6, hT6⟩ := HP1.out _ _ _ hPa
    subst h6
    have hT46 := HT5.out.trans hT6
    have HTw6 := hide (HTw4.out.trans hT46)
    have HR6 := hide (rng_turn HR4.out hT46)
    have HR66 := hide (rng_turn HR46.out hT46)
    have HB6 := hide (HB4.out.turn hT46 (by simp))
    have HX6 := hide (HX4.out.turn hT46 (by simp))
    clear hT6 hPa hT46 HTw4 HR4 HR46 HB4 HX4 HY5 HT5 HO HBa HAp
    obtain ⟨ht, hTn, hrn⟩ := put_new w6 cP hlP
    have HTh := hide ht
    have HTn := hide hTn
    have HRn := hide hrn
    clear ht hTn hrn
    go_upto_region 10 with (first | ((with_reducible refine store_sz 43 13 sz67 _ _ w6.heap.size 0 cP hlP HOneP.out ?_ ?_ HTh.out ?_); rfl; rfl) | fail)
    generalize w6.heap.size = q8 at *
    generalize (w6.alloc (.cells #[.int .i64 0, .int .i64 0, .int .i64 0, .int .i64 0, .string { data := #[] }, .int .i64 0, .int .i64 0, .int .i64 0, .int .i64 0, .int .i64 0, .int .i64 0, .int .i64 0, .int .i64 0] 43)).setCells q8 0 cP = w7 at *
    clear HTh
    have HTw7 := hide (HTw6.out.trans HTn.out)
    have HR7 := hide (rng_turn HR6.out HTn.out)
    have HR76 := hide (rng_turn HR66.out HTn.out)
    have HB7 := hide (HB6.out.turn HTn.out (by simp))
    have HX7 := hide (HX6.out.turn HTn.out (by simp))
    have HR78 := hide HRn.out
    clear HTw6 HR6 HR66 HB6 HX6 HTn HRn
    go_wp2_with fail
    refine (rparseans w7 ab bc bl HB7.out HLc.out (by omega) HBy.out).mono ?_
    rintro e w8 hPa
    obtain ⟨h8, hT8⟩ := HP2.out _ _ _ hPa
    subst h8
    have HTw8 := hide (HTw7.out.trans hT8)
    have HR8 := hide (rng_turn HR7.out hT8)
    have HR86 := hide (rng_turn HR76.out hT8)
    have HR88 := hide (rng_turn HR78.out hT8)
    have HB8 := hide (HB7.out.turn hT8 (by simp))
    have HX8 := hide (HX7.out.turn hT8 (by simp))
    clear hT8 hPa HTw7 HR7 HR76 HR78 HB7 HX7 HP1 HP2
    obtain ⟨ht, hTn, hrn⟩ := put_new w8 cP hlP
    have HTh := hide ht
    have HTn := hide hTn
    have HRn := hide hrn
    clear ht hTn hrn
    go_upto_region 11 with (first | ((with_reducible refine store_sz 43 13 sz67 _ _ w8.heap.size 0 cP hlP HOneP.out ?_ ?_ HTh.out ?_); rfl; rfl) | fail)
    generalize w8.heap.size = q10 at *
    generalize (w8.alloc (.cells #[.int .i64 0, .int .i64 0, .int .i64 0, .int .i64 0, .string { data := #[] }, .int .i64 0, .int .i64 0, .int .i64 0, .int .i64 0, .int .i64 0, .int .i64 0, .int .i64 0, .int .i64 0] 43)).setCells q10 0 cP = w9 at *
    clear HTh
    have HTw9 := hide (HTw8.out.trans HTn.out)
    have HR9 := hide (rng_turn HR8.out HTn.out)
    have HR96 := hide (rng_turn HR86.out HTn.out)
    have HR98 := hide (rng_turn HR88.out HTn.out)
    have HB9 := hide (HB8.out.turn HTn.out (by simp))
    have HX9 := hide (HX8.out.turn HTn.out (by simp))
    have HR910 := hide HRn.out
    clear HTw8 HR8 HR86 HR88 HB8 HX8 HTn HRn
    go_wp2_with fail
    refine (frame_any w9 ab bc bl (by omega) HB9.out HNc.out).mono ?_
    rintro e w10 ⟨v12, e12, rfl, hF1⟩
    have HF1 := hide hF1
    have HB10 := hide (HB9.out.turn hF1.old (by simp))
    clear hF1
    go_wp2_with fail
    refine (rframe_any w10 ab bc bl (by omega) HB10.out HNc.out).mono ?_
    rintro e w11 ⟨v14, e14, rfl, hF2⟩
    obtain ⟨he, Y, a12, a14, c12, c14, hv12, hv14, hY1, hY2⟩ := frm_two HF1.out hF2
    subst he hv12 hv14
    have hT11 := HF1.out.old.trans hF2.old
    have HTw11 := hide (HTw9.out.trans hT11)
    have HR11 := hide (rng_turn HR9.out hT11)
    have HR116 := hide (rng_turn HR96.out hT11)
    have HR118 := hide (rng_turn HR98.out hT11)
    have HR1110 := hide (rng_turn HR910.out hT11)
    have HB11 := hide (HB9.out.turn hT11 (by simp))
    have HX11 := hide (HX9.out.turn hT11 (by simp))
    have HYa := hide hY1
    have HYb := hide hY2
    clear hF2 hT11 hY1 hY2 HF1 HB10 HTw9 HR9 HR96 HR98 HR910 HB9 HX9
    go_wp2_with fail
    rw [← HcA.out ()] at HR11 HR116
    rw [← HcP.out ()] at HR118 HR1110
    by_cases hG0 : G = 0
    · obtain ⟨hPb, hPo⟩ := HPw.out hG0
      refine reg4_ok A PR ab ax a12 a14 bc cx c12 c14 q q6 q8 q10 G e12 bl X Y _ HOkA.out HXe.out hG0 hPo hPb HB11.out HX11.out HYa.out HYb.out HR11.out HR116.out HR118.out HR1110.out ?_
      refine hide ?_
      intros
      rename_i hT
      have HTf := hide (HTw11.out.trans hT)
      clear hT
      go_wp2_with fail
      go_ret
      exact ⟨rfl, HTf.out⟩
    · refine reg4_no A PR ab ax a12 a14 bc cx c12 c14 q q6 q8 q10 G e12 bl X Y _ HOkA.out HXe.out hG0 HB11.out HX11.out HYa.out HYb.out HR11.out HR116.out HR118.out HR1110.out ?_
      refine hide ?_
      intros
      rename_i hT
      have HTf := hide (HTw11.out.trans hT)
      clear hT
      go_wp2_with fail
      go_ret
      exact ⟨rfl, HTf.out⟩

theorem answers_any (a : Aw) (ab : Option Addr) (bc : Nat) (bl : List Nat) (w : World) (hN : a.Nums) (hz : a.nm.size ≤ 9223372036854775807) (hb : ArgB w ab bc bl) :
    Calls Try.prog 4 #[.agg (awC a).toArray, .slice ab bl.length bc] w fun e w' => e = .returned (.bool true) ∧ Turn [] w w' := by
  by_cases h : 0 ≤ a.er ∧ a.er ≤ 255 ∧ a.nm.size ≤ 255 ∧ bl.length ≤ 2000
  · exact answers_in a ab bc bl w hN ⟨h.1, h.2.1, h.2.2.1⟩ h.2.2.2 hb
  · exact answers_out a ab bc bl w hz (by have h1 := hb.2.2.2.1; have h2 := hb.2.2.2.2.1; unfold maxLen at h2; omega) h

end Go.Proofs.Ytkbboingeacgjaa
