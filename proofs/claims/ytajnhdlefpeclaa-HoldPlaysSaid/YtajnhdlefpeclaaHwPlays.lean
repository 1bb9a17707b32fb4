/-
  HoldPlays, walked.
-/
import Derived.Test.YtajnhdlefpeclaaHRef2
import Derived.Test.YtajnhdlefpeclaaHSame
import Derived.Test.YtajnhdlefpeclaaHFrame2
import Derived.Deep.CutRange
import Derived.Deep.RegionHeld
import Derived.Deep.RegionHeld3
namespace Go.Proofs.Ytajnhdlefpeclaa.Ho
open Go.RowKit Go.Maps

theorem own_empty (w : World) : Own (w.alloc (.cells #[] 27)) w.heap.size (.slice (some ⟨w.heap.size, 0, none⟩) 0 0) [] :=
  ⟨World.ownsRow_lit w #[] 0 (Nat.le_refl _) (by unfold maxLen; omega) (by simp), by simp, by simp⟩

/-- A copy of a row of holds. -/
theorem append_was {ops : Array Oper} {rest : List Oper} {o : Oper} {a : Act} {Q : Exit → Act → World → Prop} {w : World} (hgd : o.guard = none) (s x : Operand)
    (ho : o.op = .call { callee := .builtin .append, args := #[s, x], argTypes := #[24, 24] }) (l : List Hd) (a2 : Option Addr) (c2 : Nat) (b0 : Nat) (hb0 : b0 = w.heap.size) (hs : a.eval s = .slice (some ⟨b0, 0, none⟩) 0 0) (hx : a.eval x = .slice a2 l.length c2) (hA : HoldsAt w a2 c2 l) (hb : l.length ≤ 1000)
    (h : ∀ a' c' w', HoldsAt w' a' c' l → Turn [] w w' → wpList Try.prog ops Q rest (a.put o.dst (.slice a' l.length c')) w') :
    wpList Try.prog ops Q (o :: rest) a (w.alloc (.cells #[] 27)) := by
  subst hb0
  obtain ⟨qs, rfl, hQ, hOk, hnil, _, _⟩ := hA
  rw [List.length_map] at hx hb h
  have hT := (Turn.refl [] w).alloc (.cells #[] 27)
  refine append_row hgd s x ho w.heap.size _ [] qs a2 qs.length c2 rfl hs (own_empty w) hx (hQ.turn0 hT) hnil (by simp; omega) (by simp) (fun t ht => ⟨(hOk t ht).turn0 hT, fun q hq x hx hp => ?_⟩) ?_
  · have h1 := (hOk t ht).lt hx hp
    simp only [Value.ownBlock, Option.some.injEq] at hq
    omega
  · intro v' w' ho' hT'
    obtain ⟨a', c', rfl, hA'⟩ := ho'.holds
    rw [List.nil_append] at hA' ⊢
    exact h a' c' w' hA' (hT' w (Nat.le_refl _) hT)

/-- A hold laid by itself. -/
theorem one_at (w : World) (r : Hr) (hr : r.Ok w) : HoldsAt (w.alloc (.cells #[.int .i64 r.x.id, .slice r.a r.x.ps.length r.c, .int .i64 r.x.ov, .int .i64 r.x.un] 27)) (some ⟨w.heap.size, 0, none⟩) 1 [r.x] := by
  refine ⟨[r], rfl, .inr ⟨w.heap.size, 0, rfl, fun i hi => ?_⟩, fun x hx => ?_, (fun e => by cases e), by simp, by omega⟩
  · obtain rfl : i = 0 := by simpa using hi
    exact ⟨World.cell?_alloc_at _ _ _ _ rfl, World.cell?_alloc_at _ _ _ _ rfl, World.cell?_alloc_at _ _ _ _ rfl, World.cell?_alloc_at _ _ _ _ rfl⟩
  · obtain rfl := List.mem_singleton.1 hx
    exact hr.turn0 ((Turn.refl [] w).alloc _)
/-- Two holds laid, one behind the other: they are the same. -/
theorem same_one (w : World) (r s : Hr) (hr : r.Ok w) (hs : s.Ok w) (he : s.x = r.x) (hl : r.x.ps.length ≤ 1000) :
    Calls Try.prog 11 #[.slice (some ⟨w.heap.size, 0, none⟩) 1 1, .slice (some ⟨w.heap.size + 1, 0, none⟩) 1 1] ((w.alloc (.cells #[.int .i64 r.x.id, .slice r.a r.x.ps.length r.c, .int .i64 r.x.ov, .int .i64 r.x.un] 27)).alloc (.cells #[.int .i64 s.x.id, .slice s.a s.x.ps.length s.c, .int .i64 s.x.ov, .int .i64 s.x.un] 27)).drew fun e w' => e = .returned (.bool true) ∧ Turn [] w w' := by
  obtain ⟨sx, sa, sc⟩ := s
  simp only at he
  subst he
  have h1 := (one_at w r hr).turn0 (((Turn.refl [] _).alloc (.cells #[.int .i64 r.x.id, .slice sa r.x.ps.length sc, .int .i64 r.x.ov, .int .i64 r.x.un] 27)).drew)
  have h2 := (one_at (w.alloc (.cells #[.int .i64 r.x.id, .slice r.a r.x.ps.length r.c, .int .i64 r.x.ov, .int .i64 r.x.un] 27)) ⟨r.x, sa, sc⟩ (hs.turn0 ((Turn.refl [] _).alloc _))).turn0 (Turn.refl [] _).drew
  rw [World.size_alloc] at h2
  refine (sameHolds_any _ _ 1 1 [r.x] _ (by simp) (fun x hx => by obtain rfl := List.mem_singleton.1 hx; exact hl) h1 h2).mono ?_
  rintro e w1 ⟨rfl, m, rfl⟩
  exact ⟨rfl, ((((Turn.refl [] w).alloc _).alloc _).drew).drewN m⟩
theorem same_one' (w : World) (r s : Hr) (hr : r.Ok w) (hs : s.Ok w) (he : s.x = r.x) (hl : r.x.ps.length ≤ 1000) :
    Calls Try.prog 11 #[.slice (some ⟨w.heap.size + 1, 0, none⟩) 1 1, .slice (some ⟨w.heap.size, 0, none⟩) 1 1] ((w.alloc (.cells #[.int .i64 s.x.id, .slice s.a s.x.ps.length s.c, .int .i64 s.x.ov, .int .i64 s.x.un] 27)).alloc (.cells #[.int .i64 r.x.id, .slice r.a r.x.ps.length r.c, .int .i64 r.x.ov, .int .i64 r.x.un] 27)).drew fun e w' => e = .returned (.bool true) ∧ Turn [] w w' := by
  obtain ⟨sx, sa, sc⟩ := s
  simp only at he
  subst he
  have h1 := (one_at w ⟨r.x, sa, sc⟩ hs).turn0 (((Turn.refl [] _).alloc (.cells #[.int .i64 r.x.id, .slice r.a r.x.ps.length r.c, .int .i64 r.x.ov, .int .i64 r.x.un] 27)).drew)
  have h2 := (one_at (w.alloc (.cells #[.int .i64 r.x.id, .slice sa r.x.ps.length sc, .int .i64 r.x.ov, .int .i64 r.x.un] 27)) r (hr.turn0 ((Turn.refl [] _).alloc _))).turn0 (Turn.refl [] _).drew
  rw [World.size_alloc] at h2
  refine (sameHolds_any _ _ 1 1 [r.x] _ (by simp) (fun x hx => by obtain rfl := List.mem_singleton.1 hx; exact hl) h2 h1).mono ?_
  rintro e w1 ⟨rfl, m, rfl⟩
  exact ⟨rfl, ((((Turn.refl [] w).alloc _).alloc _).drew).drewN m⟩

theorem fit_fnd {n : Nat} {l : List Hd} (h : Fit n l) (i : Int) : ((fnd l i).getD Hd.nil).ps.length ≤ n := by
  cases e : fnd l i with
  | none => exact Nat.zero_le _
  | some x => exact h x (fnd_id e).1

theorem Fit.mono {m n : Nat} {l : List Hd} (h : Fit m l) (hmn : m ≤ n) : Fit n l := fun x hx => Nat.le_trans (h x hx) hmn

set_option maxRecDepth 100000 in
set_option maxHeartbeats 6000000 in
theorem plays_any (a : Option Addr) (c : Nat) (l : List Cr) (w : World) (hL : CallsAt w a l) :
    Calls Try.prog 3 #[.slice a l.length c] w fun e w' => e = .returned (.bool true) ∧ Turn [] w w' := by
  have HL := hide hL
  clear hL
  go_enter Try.func3, Try.ntmps3
  go_wp2_with fail
  refine (known_any w).mono ?_
  rintro e w1 ⟨rfl, hT1⟩
  have HT1 := hide hT1
  clear hT1
  go_wp2_with fail
  go_loopw [3, 4] (fun u i wr => ∃ (k : Nat) (lk : List Hd) (ak : Option Addr) (ck : Nat), k ≤ l.length ∧ k ≤ 60 ∧ u = .slice ak lk.length ck ∧ i = .int .i64 k ∧ lk.length ≤ k ∧ Hid (HoldsAt wr ak ck lk) ∧ Hid (Up lk) ∧ Hid (Fit 1000 lk) ∧ Turn [] w wr) (fun _ i _ => 60 - (intOf i).toNat)
  case atStart => exact ⟨0, [], none, 0, Nat.zero_le _, by omega, rfl, rfl, Nat.le_refl _, HoldsAt.nil _, Up.nil, fun x hx => by simp at hx, HT1.out⟩
  case round =>
    obtain ⟨k, lk, ak, ck, hk, hk2, rfl, rfl, hlk, HH, HU, HF, hT⟩ := hrel
    have HT := hide hT
    clear hT
    by_cases hlt : k < l.length ∧ k < 60
    · obtain ⟨hlt, hk60⟩ := hlt
      obtain ⟨b, off, rfl, ⟨c0, c1, c2, c3, c4, c5⟩, hok⟩ := (HL.out.turn0 HT.out).at hlt
      have HOk := hide hok
      clear hok
      generalize l.getD k Cr.nil = q at *
      obtain ⟨kd, now, r⟩ := q
      simp only at c0 c1 c2 c3 c4 c5 HOk
      have hb := lt_of_cell c0
      by_cases h20 : 20 < r.x.ps.length
      · go_wp2_with fail
        go_roundw
        case rel => exact ⟨k + 1, lk, ak, ck, by omega, by omega, rfl, by go_num, by omega, HH.out.turn0 ((Turn.refl [] wr).alloc _), HU, HF, HT.out.alloc _⟩
        case measure => simp [intOf]; omega
      · obtain ⟨W, hW⟩ : ∃ W, W = wr.alloc (.cells #[.int .i64 kd, .int .i64 now, .int .i64 r.x.id, .slice r.a r.x.ps.length r.c, .int .i64 r.x.ov, .int .i64 r.x.un] 29) := ⟨_, rfl⟩
        have HTW : Hid (Turn [] wr W) := by rw [hW]; exact (Turn.refl [] wr).alloc _
        go_upto_region 9 with fail
        rw [← hW]
        have hbW : W.heap[wr.heap.size]? = some (.cells #[.int .i64 kd, .int .i64 now, .int .i64 r.x.id, .slice r.a r.x.ps.length r.c, .int .i64 r.x.ov, .int .i64 r.x.un] 29) := by rw [hW]; exact Array.getElem?_push_size
        have hq : CrIn W wr.heap.size 0 ⟨kd, now, r⟩ := by
          refine ⟨?_, ?_, ?_, ?_, ?_, ?_⟩ <;> (unfold World.cell?; rw [hbW]; rfl)
        have HQ := hide hq
        have HHW := hide (HH.out.turn0 HTW.out)
        have HTw := hide (HT.out.trans HTW.out)
        have HOW := hide (HOk.out.turn0 HTW.out)
        clear c0 c1 c2 c3 c4 c5 hW hbW hq HT HTW HH HOk
        generalize wr.heap.size = gq at *
        have hll : lk.length ≤ 60 := by omega
        go_wp2_with (first | (at_builtin; refine append_was rfl _ _ rfl lk ak ck W.heap.size rfl rfl rfl HHW.out (by omega) ?_; intro aw cw w2 hAw hT2; have HAw := hide hAw; have HT2 := hide hT2; have hgq := (HQ.out.turn0 hT2); clear hAw hT2; obtain ⟨q0, q1, q2, q3, q4, q5⟩ := hgq; simp only [Nat.zero_add] at q0 q1 q2 q3 q4 q5; have hgl := lt_of_cell q0) | fail)
        refine (find_any ak ck lk r.x.id w2 HU.out (by omega) HF.out (HHW.out.turn0 HT2.out)).mono ?_
        rintro e w3 ⟨r7, rfl, hr7, hO7, hT3⟩
        have HT3 := hide (HT2.out.trans hT3)
        have HAw3 := hide (HAw.out.turn0 hT3)
        have HO7 := hide hO7
        have HR7 := hide hr7
        have hg3 : gq < w3.heap.size := Nat.lt_of_lt_of_le hgl hT3.size
        have p2 := (hT3.cell (p := ⟨gq, 2, none⟩) hgl (by simp)).trans q2
        clear hT3 HAw HT2 hO7 hr7 q0 q1 q2 q3 q4 q5 hgl
        obtain ⟨W3, hW3⟩ : ∃ W, W = w3.alloc (.cells #[.int .i64 r7.x.id, .slice r7.a r7.x.ps.length r7.c, .int .i64 r7.x.ov, .int .i64 r7.x.un] 27) := ⟨_, rfl⟩
        have HT4 : Hid (Turn [] w3 W3) := by rw [hW3]; exact (Turn.refl [] w3).alloc _
        go_wp2_with fail
        rw [← hW3]
        refine (rfind_any aw cw lk r.x.id W3 (by omega) (HAw3.out.turn0 HT4.out)).mono ?_
        rintro e w5 ⟨r9, rfl, hr9, hO9, hT5⟩
        have HO9 := hide hO9
        have HR9 : Hid (r9.x = r7.x) := hr9.trans HR7.out.symm
        have h7 : HrIn W3 w3.heap.size 0 r7 := by
          have hb3 : W3.heap[w3.heap.size]? = some (.cells #[.int .i64 r7.x.id, .slice r7.a r7.x.ps.length r7.c, .int .i64 r7.x.ov, .int .i64 r7.x.un] 27) := by rw [hW3]; exact Array.getElem?_push_size
          refine ⟨?_, ?_, ?_, ?_⟩ <;> (unfold World.cell?; rw [hb3]; rfl)
        have H7 := hide (h7.turn hT5 (by simp))
        have HT5 := hide (HT3.out.trans (HT4.out.trans hT5))
        have HO75 := hide ((HO7.out.turn0 HT4.out).turn0 hT5)
        have HAw5 := hide ((HAw3.out.turn0 HT4.out).turn0 hT5)
        have HL7 : Hid (r7.x.ps.length ≤ 1000) := by unfold Hid; rw [HR7.out]; exact fit_fnd HF.out _
        generalize w3.heap.size = g7 at *
        clear hr9 hO9 hT5 h7 hW3 HT4 HT3 HR7 HAw3 HO7 p2 hg3
        obtain ⟨W5, hW5⟩ : ∃ W, W = w5.alloc (.cells #[.int .i64 r9.x.id, .slice r9.a r9.x.ps.length r9.c, .int .i64 r9.x.ov, .int .i64 r9.x.un] 27) := ⟨_, rfl⟩
        generalize (fnd lk r.x.id).isSome = is at *
        go_upto_region 12 with fail
        rw [← hW5]
        have h9 : HrIn W5 w5.heap.size 0 r9 := by
          have hb5 : W5.heap[w5.heap.size]? = some (.cells #[.int .i64 r9.x.id, .slice r9.a r9.x.ps.length r9.c, .int .i64 r9.x.ov, .int .i64 r9.x.un] 27) := by rw [hW5]; exact Array.getElem?_push_size
          refine ⟨?_, ?_, ?_, ?_⟩ <;> (unfold World.cell?; rw [hb5]; rfl)
        have HTW5 : Hid (Turn [] w5 W5) := by rw [hW5]; exact (Turn.refl [] w5).alloc _
        have h7 := H7.out.turn HTW5.out (by simp)
        have hT05 : Turn [] W W5 := HT5.out.trans HTW5.out
        have hq := HQ.out.turn0 hT05
        have HT0 := hide hT05
        have HLa := hide (HHW.out.turn0 hT05)
        have HWa := hide (HAw5.out.turn0 HTW5.out)
        have HO7 := hide (HO75.out.turn0 HTW5.out)
        have HO9' := hide (HO9.out.turn0 HTW5.out)
        have HOr := hide (HOW.out.turn0 hT05)
        have HTwf := hide (HTw.out.trans hT05)
        have H7' := hide h7
        have H9' := hide h9
        have HQ' := hide hq
        generalize w5.heap.size = g9 at *
        clear hW5 H7 HTW5 HT5 HQ HHW HO75 HO9 HOW HTw hT05 HAw5 h7 h9 hq
        go_cut [83] from 14 to 119 (fun u wx => u = .bool false ∧ Turn [] W5 wx)
        case first =>
          have HAll : Hid (∀ w', Turn [] W5 w' → w'.cell? ⟨g7, 0, none⟩ = some (.int .i64 r7.x.id) ∧ w'.cell? ⟨g7, 1, none⟩ = some (.slice r7.a r7.x.ps.length r7.c) ∧ w'.cell? ⟨g7, 2, none⟩ = some (.int .i64 r7.x.ov) ∧ w'.cell? ⟨g7, 3, none⟩ = some (.int .i64 r7.x.un) ∧ w'.cell? ⟨g9, 0, none⟩ = some (.int .i64 r9.x.id) ∧ w'.cell? ⟨g9, 1, none⟩ = some (.slice r9.a r9.x.ps.length r9.c) ∧ w'.cell? ⟨g9, 2, none⟩ = some (.int .i64 r9.x.ov) ∧ w'.cell? ⟨g9, 3, none⟩ = some (.int .i64 r9.x.un) ∧ w'.cell? ⟨gq, 1, none⟩ = some (.int .i64 now) ∧ w'.cell? ⟨gq, 2, none⟩ = some (.int .i64 r.x.id) ∧ w'.cell? ⟨gq, 3, none⟩ = some (.slice r.a r.x.ps.length r.c) ∧ w'.cell? ⟨gq, 4, none⟩ = some (.int .i64 r.x.ov) ∧ w'.cell? ⟨gq, 5, none⟩ = some (.int .i64 r.x.un)) := fun w' hT =>
            have k7 := H7'.out.turn hT (by simp)
            have k9 := H9'.out.turn hT (by simp)
            have kq := HQ'.out.turn0 hT
            ⟨k7.id, k7.ps, k7.ov, k7.un, k9.id, k9.ps, k9.ov, k9.un, kq.now, kq.id, kq.ps, kq.ov, kq.un⟩
          obtain ⟨s0, s1, s2, s3, s4, s5, s6, s7, s8, s9, s10, s11, s12⟩ := HAll.out W5 (Turn.refl _ _)
          have hne : (is != is) = false := by simp
          have HSa := hide (same_one W5 r7 r9 HO7.out HO9'.out HR9.out HL7.out)
          have HSb := hide (same_one' W5 r7 r9 HO7.out HO9'.out HR9.out HL7.out)
          have HTo : Hid (∀ w', Turn [] W5 w' → Calls Try.prog 12 #[hrV r] w' fun e w'' => e = .returned (.int .i64 (tot r.x)) ∧ Turn [] w' w'') := fun w' h => total_any r w' (by omega) (HOr.out.turn0 h)
          have HRo : Hid (∀ w', Turn [] W5 w' → Calls Try.prog 13 #[hrV r] w' fun e w'' => e = .returned (.int .i64 (tot r.x)) ∧ Turn [] w' w'') := fun w' h => rtotal_any r w' (by omega) (HOr.out.turn0 h)
          have HDu : Hid (∀ w', Turn [] W5 w' → Calls Try.prog 14 #[.slice ak lk.length ck, .int .i64 now] w' fun e w'' => ∃ a' c', e = .returned (.slice a' (due lk now).length c') ∧ HoldsAt w'' a' c' (due lk now) ∧ Turn [] w' w'') := fun w' h => due_any ak ck lk now w' (by omega) HF.out (HLa.out.turn0 h)
          have HRu : Hid (∀ w', Turn [] W5 w' → Calls Try.prog 15 #[.slice aw lk.length cw, .int .i64 now] w' fun e w'' => ∃ a' c', e = .returned (.slice a' (due lk now).length c') ∧ HoldsAt w'' a' c' (due lk now) ∧ Turn [] w' w'') := fun w' h => rdue_any aw cw lk now w' (by omega) (HWa.out.turn0 h)
          have HDl : Hid ((due lk now).length ≤ 1000) := Nat.le_trans (List.length_filter_le _ _) (by omega)
          have HDf : Hid (Fit 1000 (due lk now)) := HF.out.filter _
          generalize tot r.x = T at *
          generalize due lk now = D at *
          have hTT : (T != T) = false := by simp
          refine wp_region_noPanic ?_
          go_region_held (fun w' => w'.cell? ⟨g7, 0, none⟩ = some (.int .i64 r7.x.id) ∧ w'.cell? ⟨g7, 1, none⟩ = some (.slice r7.a r7.x.ps.length r7.c) ∧ w'.cell? ⟨g7, 2, none⟩ = some (.int .i64 r7.x.ov) ∧ w'.cell? ⟨g7, 3, none⟩ = some (.int .i64 r7.x.un) ∧ w'.cell? ⟨g9, 0, none⟩ = some (.int .i64 r9.x.id) ∧ w'.cell? ⟨g9, 1, none⟩ = some (.slice r9.a r9.x.ps.length r9.c) ∧ w'.cell? ⟨g9, 2, none⟩ = some (.int .i64 r9.x.ov) ∧ w'.cell? ⟨g9, 3, none⟩ = some (.int .i64 r9.x.un) ∧ w'.cell? ⟨gq, 1, none⟩ = some (.int .i64 now) ∧ w'.cell? ⟨gq, 2, none⟩ = some (.int .i64 r.x.id) ∧ w'.cell? ⟨gq, 3, none⟩ = some (.slice r.a r.x.ps.length r.c) ∧ w'.cell? ⟨gq, 4, none⟩ = some (.int .i64 r.x.ov) ∧ w'.cell? ⟨gq, 5, none⟩ = some (.int .i64 r.x.un)) (first | assumption | exact HAll.out _ (Turn.refl [] _) | exact HAll.out _ (Turn.refl [] _).drew | exact HAll.out _ ((Turn.refl [] _).alloc _) | exact HAll.out _ ((Turn.refl [] _).alloc _).drew | exact HAll.out _ (((Turn.refl [] _).alloc _).alloc _) | exact HAll.out _ (((Turn.refl [] _).alloc _).alloc _).drew | exact HAll.out _ HT6.out | exact HAll.out _ HT7.out | exact HAll.out _ HT8.out | exact HAll.out _ HT9.out | exact HAll.out _ HT10.out | exact HAll.out _ HT11.out)
            (first
              | (go_at_call 11; refine (sameHolds_any a9 a10 c9 c10 D _ HDl.out HDf.out HH910.out HH10.out).mono ?_; rintro e w11 ⟨rfl, m, hw11⟩; have HT11 : Hid (Turn [] W5 w11) := (by rw [hw11]; exact HT10.out.drewN m); clear hw11)
              | (go_at_call 11; with_reducible refine HSa.out.mono ?_; rintro e w6 ⟨rfl, hT6⟩; have HT6 := hide hT6; clear hT6)
              | (go_at_call 11; with_reducible refine HSb.out.mono ?_; rintro e w6 ⟨rfl, hT6⟩; have HT6 := hide hT6; clear hT6)
              | (go_at_call 12; refine (HTo.out _ HT6.out).mono ?_; rintro e w7 ⟨rfl, hT7⟩; have HT7 := hide (HT6.out.trans hT7); clear hT7)
              | (go_at_call 13; refine (HRo.out _ HT7.out).mono ?_; rintro e w8 ⟨rfl, hT8⟩; have HT8 := hide (HT7.out.trans hT8); clear hT8)
              | (go_at_call 14; refine (HDu.out _ HT8.out).mono ?_; rintro e w9 ⟨a9, c9, rfl, hH9, hT9⟩; have HT9 := hide (HT8.out.trans hT9); have HH9 := hide hH9; clear hT9 hH9)
              | (go_at_call 15; refine (HRu.out _ HT9.out).mono ?_; rintro e w10 ⟨a10, c10, rfl, hH10, hT10⟩; have HT10 := hide (HT9.out.trans hT10); have HH10 := hide hH10; have HH910 := hide (HH9.out.turn0 hT10); clear hT10 hH10))
          all_goals
            refine NoPanic.normal ?_
            go_wp2_with fail
            go_meet
            case rel => exact ⟨rfl, HT11.out⟩
        case rest =>
          obtain ⟨rfl, hTc⟩ := hcut
          have hqc := HQ'.out.turn0 hTc
          have HLc := hide (HLa.out.turn0 hTc)
          have HWc := hide (HWa.out.turn0 hTc)
          have HOc := hide (HOr.out.turn0 hTc)
          have HTc := hide (HTwf.out.trans hTc)
          have HQc := hide hqc
          clear hTc HQ' H7' H9' HLa HWa HOr HTwf HO7 HO9' HR9 HL7 HT0
          obtain ⟨q0, q1, q2, q3, q4, q5⟩ := hqc
          simp only [Nat.zero_add] at q0 q1 q2 q3 q4 q5
          have hgl := lt_of_cell q0
          by_cases hk0 : kd = 0
          · subst hk0
            go_wp2_with fail
            refine (put_any ak ck lk r wc HU.out (by omega) HF.out HLc.out HOc.out (by omega)).mono ?_
            rintro e w6 ⟨a6, c6, rfl, hH6, hT6⟩
            have HH6 := hide hH6
            have HT6 := hide hT6
            have HU6 := hide (up_put HU.out r.x)
            have HF6 : Hid (Fit 1000 (put lk r.x)) := HF.out.put (by omega)
            have hl6 := put_length lk r.x
            have HRp := hide (rput_any aw cw lk r w6 HU.out (by omega) (HWc.out.turn0 hT6) (HOc.out.turn0 hT6))
            clear hH6 hT6 q0 q1 q2 q3 q4 q5
            generalize put lk r.x = l6 at *
            obtain ⟨p0, p1, p2, p3, p4, p5⟩ := HQc.out.turn0 HT6.out
            simp only [Nat.zero_add] at p0 p1 p2 p3 p4 p5
            have hg6 := lt_of_cell p0
            go_wp2_with fail
            refine HRp.out.mono ?_
            rintro e w7 ⟨a7, c7, rfl, hH7, hT7⟩
            have HH7 := hide hH7
            have HH67 := hide (HH6.out.turn0 hT7)
            have HT7 := hide (HT6.out.trans hT7)
            clear hH7 hT7 HRp HT6 HH6 p0 p1 p2 p3 p4 p5 hg6
            go_wp2_with fail
            refine (sameHolds_any a6 a7 c6 c7 l6 w7 (by omega) HF6.out HH67.out HH7.out).mono ?_
            rintro e w8 ⟨rfl, m, rfl⟩
            have HT8 := hide (HT7.out.drewN m)
            have HH8 := hide (HH67.out.turn0 (turn_drewN w7 m))
            generalize w7.drewN m = w8 at *
            clear HT7 HH67 HH7
            go_wp2_with fail
            refine (sameHolds_any ak aw ck cw lk w8 (by omega) HF.out (HLc.out.turn0 HT8.out) (HWc.out.turn0 HT8.out)).mono ?_
            rintro e w9 ⟨rfl, m, rfl⟩
            have HT9 := hide (HT8.out.drewN m)
            have HH9 := hide (HH8.out.turn0 (turn_drewN w8 m))
            generalize w8.drewN m = w9 at *
            clear HT8 HH8
            go_wp2_with fail
            go_roundw
            case rel => exact ⟨k + 1, l6, a6, c6, by omega, by omega, rfl, by go_num, by omega, HH9, HU6, HF6, HTc.out.trans HT9.out⟩
            case measure => simp [intOf]; omega
          · have hk0b : (kd == 0) = false := by simpa using hk0
            by_cases hk1 : kd = 1
            · subst hk1
              go_wp2_with fail
              refine (drop_any ak ck lk r.x.id wc HU.out (by omega) HF.out HLc.out).mono ?_
              rintro e w6 ⟨a6, c6, rfl, hH6, hT6⟩
              have HH6 := hide hH6
              have HT6 := hide hT6
              have HU6 := hide (up_drp HU.out r.x.id)
              have HF6 : Hid (Fit 1000 (drp lk r.x.id)) := HF.out.filter _
              have hl6 : (drp lk r.x.id).length ≤ lk.length := List.length_filter_le _ _
              have HRp := hide (rdrop_any aw cw lk r.x.id w6 (by omega) (HWc.out.turn0 hT6))
              clear hH6 hT6 q0 q1 q2 q3 q4 q5
              generalize drp lk r.x.id = l6 at *
              obtain ⟨p0, p1, p2, p3, p4, p5⟩ := HQc.out.turn0 HT6.out
              simp only [Nat.zero_add] at p0 p1 p2 p3 p4 p5
              have hg6 := lt_of_cell p0
              go_wp2_with fail
              refine HRp.out.mono ?_
              rintro e w7 ⟨a7, c7, rfl, hH7, hT7⟩
              have HH7 := hide hH7
              have HH67 := hide (HH6.out.turn0 hT7)
              have HT7 := hide (HT6.out.trans hT7)
              clear hH7 hT7 HRp HT6 HH6 p0 p1 p2 p3 p4 p5 hg6
              go_wp2_with fail
              refine (sameHolds_any a6 a7 c6 c7 l6 w7 (by omega) HF6.out HH67.out HH7.out).mono ?_
              rintro e w8 ⟨rfl, m, rfl⟩
              have HT8 := hide (HT7.out.drewN m)
              have HH8 := hide (HH67.out.turn0 (turn_drewN w7 m))
              generalize w7.drewN m = w8 at *
              clear HT7 HH67 HH7
              go_wp2_with fail
              refine (sameHolds_any ak aw ck cw lk w8 (by omega) HF.out (HLc.out.turn0 HT8.out) (HWc.out.turn0 HT8.out)).mono ?_
              rintro e w9 ⟨rfl, m, rfl⟩
              have HT9 := hide (HT8.out.drewN m)
              have HH9 := hide (HH8.out.turn0 (turn_drewN w8 m))
              generalize w8.drewN m = w9 at *
              clear HT8 HH8
              go_wp2_with fail
              go_roundw
              case rel => exact ⟨k + 1, l6, a6, c6, by omega, by omega, rfl, by go_num, by omega, HH9, HU6, HF6, HTc.out.trans HT9.out⟩
              case measure => simp [intOf]; omega
            · have hk1b : (kd == 1) = false := by simpa using hk1
              go_wp2_with fail
              refine (sameHolds_any ak aw ck cw lk wc (by omega) HF.out HLc.out HWc.out).mono ?_
              rintro e w9 ⟨rfl, m, rfl⟩
              have HT9 := hide (HTc.out.drewN m)
              have HH9 := hide (HLc.out.turn0 (turn_drewN wc m))
              generalize wc.drewN m = w9 at *
              clear HTc HLc q0 q1 q2 q3 q4 q5
              go_wp2_with fail
              go_roundw
              case rel => exact ⟨k + 1, lk, ak, ck, by omega, by omega, rfl, by go_num, by omega, HH9, HU, HF, HT9.out⟩
              case measure => simp [intOf]; omega
    · have hcs : (¬ k < l.length) ∨ (k < l.length ∧ ¬ k < 60) := by
        by_cases h : k < l.length
        · exact .inr ⟨h, fun h2 => hlt ⟨h, h2⟩⟩
        · exact .inl h
      clear hlt
      rcases hcs with h1 | ⟨h1, h2⟩
      all_goals
        go_wp2_with fail
        go_ret
        exact ⟨rfl, HT.out⟩

end Go.Proofs.Ytajnhdlefpeclaa.Ho
