/-
  Who and Add of package gate, walked.
-/
import Derived.Test.YtgljldojmpeegaaGFns
import Derived.Deep.CutRange
namespace Go.Proofs.Ytgljldojmpeegaa.Ga
open Go.RowKit Go.Maps

theorem Went.trans {w w' : World} {a b c : Option Nat} (h : Went w a b) (hs : w.heap.size ≤ w'.heap.size) (k : Went w' b c) : Went w a c := by
  rcases h with rfl | ⟨h, m, rfl, hm⟩
  · rcases k with rfl | ⟨k, m, rfl, hm⟩
    · exact .inl rfl
    · exact .inr ⟨k, m, rfl, by omega⟩
  · rcases k with rfl | ⟨k, _⟩
    · exact .inr ⟨h, m, rfl, hm⟩
    · cases k

set_option maxRecDepth 100000 in
set_option maxHeartbeats 4000000 in
theorem who_any {g : Nat} {mo : Option Nat} {s : Gt} {key : ByteArray} {w : World} (hk : key.size ≤ 9223372036854775807) (h5 : s.asked ≤ 100000) (h6 : s.refused ≤ 100000) (hG : GateAt w g mo s) :
    Calls Try.prog 9 #[.pointer (some ⟨g, 0, none⟩), .string key] w fun e w' => ∃ mo', e = .returned (.tuple #[.string (s.whose key).1, .bool (s.whose key).2, .int .i64 (s.whoErr key)]) ∧ GateAt w' g mo' (s.ask key) ∧ Went w mo mo' ∧ Turn [g] w w' := by
  have hnot : ∀ (x : Bool) (w : World), (Op.unary .not (.bool x)).run Try.prog w = .ok (.bool (!x)) w := fun _ _ => rfl
  have hg := hG.lt
  obtain ⟨d, hC⟩ := hG.cells
  have HC5 := hide hC.c5
  have HZ5 := hide (hC.fz 5)
  have HG1 := hide (hG.count5 (s.asked + 1))
  have HT1 : Hid (Turn [g] w (w.setCell ⟨g, 5, none⟩ (.int .i64 ((s.asked + 1 : Nat) : Int)))) := (Turn.refl _ _).setCell (by simp) _ _
  obtain ⟨o, ho⟩ : ∃ o, o = s.own key := ⟨_, rfl⟩
  have HO := hide ho
  obtain ⟨E, hE⟩ : ∃ E : Ending → World → Prop, E = fun e w' => ∃ mo', e = .returned (.tuple #[.string (s.whose key).1, .bool (s.whose key).2, .int .i64 (s.whoErr key)]) ∧ GateAt w' g mo' (s.ask key) ∧ Went w mo mo' ∧ Turn [g] w w' := ⟨_, rfl⟩
  rw [← hE]
  have HE := hide hE
  clear hC hG ho hE
  go_enter Try.func9, Try.ntmps9
  go_wp2_with fail
  refine (aadd (by omega) HC5.out HZ5.out).mono ?_
  rintro e w1 ⟨⟨v1, rfl⟩, rfl⟩
  have hg1 := HG1.out.lt
  generalize w.setCell ⟨g, 5, none⟩ (.int .i64 ((s.asked + 1 : Nat) : Int)) = w1 at *
  go_wp2_with fail
  refine (gknown_any HG1.out).mono ?_
  rintro e w2 ⟨m, rfl, hG2, hW2, hT2⟩
  have hlook : (Instr.lookup 50 (.map (some m)) (.string key) true).run Try.prog w2 = .ok (.tuple #[.agg #[.string (o.getD (empty, false)).1, .bool (o.getD (empty, false)).2], .bool o.isSome]) w2 := by
    have := hG2.2.2.2.look hk
    rw [HO.out]
    exact this
  have HG2 := hide hG2
  have HW2 : Hid (Went w mo (some m)) := by
    rcases hW2 with e | ⟨e, m', e2, hm⟩
    · exact .inl e
    · exact .inr ⟨e, m', e2, by have := HT1.out.size; omega⟩
  have HT2 := hide (HT1.out.trans hT2)
  have hg2 := hG2.lt
  clear hG2 hW2 hT2 HC5 HZ5 HT1 HG1
  cases o with
  | none =>
    have hG3 := HG2.out.turn0 ((Turn.refl [] w2).alloc (.cells #[.string empty, .bool false] 58))
    obtain ⟨d3, hC3⟩ := hG3.cells
    have HC6 := hide hC3.c6
    have HZ6 := hide (hC3.fz 6)
    have HF : Hid (∀ v : Value, E (.returned (.tuple #[.string ⟨#[]⟩, .bool false, .int .i64 21])) ((w2.alloc (.cells #[.string empty, .bool false] 58)).setCell ⟨g, 6, none⟩ (.int .i64 ((s.refused + 1 : Nat) : Int)))) := fun _ => by
      rw [HE.out]
      have e1 : s.whose key = (empty, false) := by unfold Gt.whose; rw [← HO.out]; rfl
      have e2 : s.whoErr key = 21 := by unfold Gt.whoErr; rw [← HO.out]; rfl
      have e3 : s.ask key = { s with asked := s.asked + 1, refused := s.refused + 1 } := by unfold Gt.ask; rw [← HO.out]; rfl
      refine ⟨some m, by rw [e1, e2]; rfl, ?_, HW2.out, (HT2.out.alloc _).setCell (by simp) _ _⟩
      rw [e3]
      exact hG3.count6 (s.refused + 1)
    have hg3 := hG3.lt
    simp only [Option.getD_none, Option.isSome_none] at hlook
    clear hC3 hG3
    go_wp2_with fail
    refine (aadd (by omega) HC6.out HZ6.out).mono ?_
    rintro e w3 ⟨⟨v3, rfl⟩, rfl⟩
    have HF' := hide (HF.out v3)
    clear HF HC6 HZ6 HE
    generalize (w2.alloc (.cells #[.string empty, .bool false] 58)).setCell ⟨g, 6, none⟩ (.int .i64 ((s.refused + 1 : Nat) : Int)) = w3 at *
    go_wp2_with fail
    go_ret3
    exact HF'.out
  | some p =>
    obtain ⟨p1, p2⟩ := p
    obtain ⟨w3, hw3⟩ : ∃ w3, w3 = w2.alloc (.cells #[.string p1, .bool p2] 58) := ⟨_, rfl⟩
    have hb : w3.heap[w2.heap.size]? = some (.cells #[.string p1, .bool p2] 58) := by rw [hw3]; exact Array.getElem?_push_size
    have x0 : w3.cell? ⟨w2.heap.size, 0, none⟩ = some (.string p1) := by unfold World.cell?; rw [hb]; rfl
    have x1 : w3.cell? ⟨w2.heap.size, 1, none⟩ = some (.bool p2) := by unfold World.cell?; rw [hb]; rfl
    have hG3 := HG2.out.turn0 ((Turn.refl [] w2).alloc (.cells #[.string p1, .bool p2] 58))
    rw [← hw3] at hG3
    have HT3 : Hid (Turn [g] w w3) := by rw [hw3]; exact HT2.out.alloc _
    have HF : Hid (E (.returned (.tuple #[.string p1, .bool p2, .int .i64 0])) w3.drew) := by
      unfold Hid
      rw [HE.out]
      have e1 : s.whose key = (p1, p2) := by unfold Gt.whose; rw [← HO.out]; rfl
      have e2 : s.whoErr key = 0 := by unfold Gt.whoErr; rw [← HO.out]; rfl
      have e3 : s.ask key = { s with asked := s.asked + 1 } := by unfold Gt.ask; rw [← HO.out]; rfl
      refine ⟨some m, by rw [e1, e2], ?_, HW2.out, HT3.out.drew⟩
      rw [e3]
      exact hG3.turn0 ((Turn.refl [] w3).drew)
    have hl3 := lt_of_cell x0
    simp only [Option.getD_some, Option.isSome_some] at hlook
    clear hG3 hb HT3 HG2 HT2 HE
    go_upto_region 6 with fail
    rw [← hw3]
    clear hw3 hlook
    go_region_with (fail)
    all_goals
      go_wp2_with fail
      go_ret3
      exact HF.out

set_option maxRecDepth 100000 in
set_option maxHeartbeats 4000000 in
theorem add_any {g : Nat} {mo : Option Nat} {s : Gt} {key name : ByteArray} {w : World} (hk : key.size ≤ 9223372036854775807) (hn : name.size ≤ 9223372036854775807) (h5 : s.n ≤ 100000) (hG : GateAt w g mo s) :
    Calls Try.prog 8 #[.pointer (some ⟨g, 0, none⟩), .string key, .string name] w fun e w' => ∃ mo', e = .returned (.int .i64 (s.addErr key name)) ∧ GateAt w' g mo' (s.addTo key name) ∧ Went w mo mo' ∧ Turn (g :: mo.toList) w w' := by
  have hnot : ∀ (x : Bool) (w : World), (Op.unary .not (.bool x)).run Try.prog w = .ok (.bool (!x)) w := fun _ _ => rfl
  have hg := hG.lt
  obtain ⟨E, hE⟩ : ∃ E : Ending → World → Prop, E = fun e w' => ∃ mo', e = .returned (.int .i64 (s.addErr key name)) ∧ GateAt w' g mo' (s.addTo key name) ∧ Went w mo mo' ∧ Turn (g :: mo.toList) w w' := ⟨_, rfl⟩
  rw [← hE]
  have HE := hide hE
  have HG := hide hG
  clear hE hG
  have HB : Hid (nm key = false ∨ nm name = false → E (.returned (.int .i64 1)) w) := fun h => by
    rw [HE.out]
    exact ⟨mo, by unfold Gt.addErr; rw [if_pos h], by unfold Gt.addTo; rw [if_pos h]; exact HG.out, .inl rfl, Turn.refl _ _⟩
  go_enter Try.func8, Try.ntmps8
  go_wp2_with fail
  refine (name_any key hk w).mono ?_
  rintro e w1 ⟨rfl, rfl⟩
  cases h1 : nm key with
  | false =>
    have HF := hide (HB.out (.inl h1))
    clear h1 HB HE
    go_wp2_with fail
    exact HF.out
  | true =>
    have H1 := hide h1
    clear h1
    go_wp2_with fail
    refine (name_any name hn _).mono ?_
    rintro e w2 ⟨rfl, rfl⟩
    cases h2 : nm name with
    | false =>
      have HF := hide (HB.out (.inr h2))
      clear h2 HB HE
      go_wp2_with fail
      exact HF.out
    | true =>
      have H2 := hide h2
      clear h2 HB
      obtain ⟨_, hk1⟩ := nm_le H1.out
      obtain ⟨_, hn1⟩ := nm_le H2.out
      go_wp2_with fail
      refine (gknown_any HG.out).mono ?_
      rintro e w3 ⟨m, rfl, hG3, hW3, hT3⟩
      have hlook := hG3.2.2.2.look hk
      obtain ⟨o, ho⟩ : ∃ o, o = s.own key := ⟨_, rfl⟩
      rw [← ho] at hlook
      have HO := hide ho
      have HG3 := hide hG3
      have HW3 := hide hW3
      have HT3 := hide hT3
      have hg3 := hG3.lt
      clear ho hG3 hW3 hT3
      cases o with
      | some p =>
        obtain ⟨p1, p2⟩ := p
        have hlook' : (Instr.lookup 50 (.map (some m)) (.string key) true).run Try.prog w3 = .ok (.tuple #[.agg #[.string p1, .bool p2], .bool true]) w3 := hlook
        clear hlook
        have HF : Hid (E (.returned (.int .i64 7)) (w3.alloc (.cells #[.string p1, .bool p2] 58))) := by
          unfold Hid
          rw [HE.out]
          have hno : ¬ (nm key = false ∨ nm name = false) := by rw [H1.out, H2.out]; simp
          have hyes : (s.own key).isSome = true := by rw [← HO.out]; rfl
          refine ⟨some m, by unfold Gt.addErr; rw [if_neg hno, if_pos hyes], ?_, HW3.out, (HT3.out.mono (by simp)).alloc _⟩
          unfold Gt.addTo
          rw [if_neg hno, if_pos hyes]
          exact HG3.out.turn0 ((Turn.refl [] w3).alloc _)
        clear HE
        go_wp2_with fail
        exact HF.out
      | none =>
        have hlook' : (Instr.lookup 50 (.map (some m)) (.string key) true).run Try.prog w3 = .ok (.tuple #[.agg #[.string ⟨#[]⟩, .bool false], .bool false]) w3 := hlook
        clear hlook
        obtain ⟨w4, hw4⟩ : ∃ w4, w4 = w3.alloc (.cells #[.string ⟨#[]⟩, .bool false] 58) := ⟨_, rfl⟩
        have HT4 : Hid (Turn [] w3 w4) := by rw [hw4]; exact (Turn.refl [] w3).alloc _
        go_wp2_with fail
        rw [← hw4]
        clear hw4 hlook'
        refine (sclone_any key w4 (by omega)).mono ?_
        rintro e w5 ⟨rfl, hT5⟩
        have HT5 := hide (HT4.out.trans hT5)
        clear hT5 HT4
        go_wp2_with fail
        refine (sclone_any name w5 (by omega)).mono ?_
        rintro e w6 ⟨rfl, hT6⟩
        have HT6 := hide (HT5.out.trans hT6)
        clear hT6 HT5
        obtain ⟨w7, hrun, hM7, hT7⟩ := (HG3.out.turn0 HT6.out).2.2.2.put (by omega) hk (name, false)
        have hrun' : (Instr.mapUpdate 50 (.map (some m)) (.string key) (.agg #[.string name, .bool false])).run Try.prog w6 = .ok () w7 := hrun
        have HF : Hid (E (.returned (.int .i64 0)) w7) := by
          unfold Hid
          rw [HE.out]
          have hno : ¬ (nm key = false ∨ nm name = false) := by rw [H1.out, H2.out]; simp
          have hyes : ¬ (s.own key).isSome = true := by rw [← HO.out]; simp
          have hG6 := HG3.out.turn0 HT6.out
          have hT6 := HT3.out.then (HT6.out) (by simp)
          refine ⟨some m, by unfold Gt.addErr; rw [if_neg hno, if_neg hyes], ?_, HW3.out, (hT6.mono (by simp)).then hT7 (fun x hx => ?_)⟩
          · unfold Gt.addTo
            rw [if_neg hno, if_neg hyes]
            have hC7 := hG6.2.1.of_block (hT7.block g hG6.lt (by simp; exact fun e => hG6.2.2.1 e.symm))
            exact ⟨hG6.1, ⟨hC7.c0, hC7.c1, hC7.c2, hC7.c4, hC7.c5, hC7.c6, hC7.fz⟩, hG6.2.2.1, hM7⟩
          · obtain rfl : x = m := by simpa using hx
            rcases HW3.out with e | ⟨_, m', e, hm⟩
            · exact .inl (by rw [← e]; simp)
            · injection e with e
              exact .inr (by omega)
        clear HE hrun hM7 hT7 HT6 HG3
        go_wp2_with fail
        exact HF.out

end Go.Proofs.Ytgljldojmpeegaa.Ga
