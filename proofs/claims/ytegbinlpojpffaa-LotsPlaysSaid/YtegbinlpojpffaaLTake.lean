/-
  Take, walked.
-/
import Derived.Test.YtegbinlpojpffaaLTurn
namespace Go.Proofs.Ytegbinlpojpffaa
open Go.RowKit Go.Maps Lo

theorem info_part : (Try.prog.info? 47).map (fun i => (i.zero, i.size, i.bytes)) = some (some (.agg #[.int .i64 0, .int .i64 0]), 2, 16) := by kernel_rfl

theorem append_part {ops : Array Oper} {rest : List Oper} {o : Oper} {a : Act} {Q : Exit → Act → World → Prop} {w : World} (hgd : o.guard = none) (s x : Operand)
    (ho : o.op = .call { callee := .builtin .append, args := #[s, x], argTypes := #[38, 38] }) (base : Nat) (v : Value) (xs : List (Int × Int)) (k t : Int) (hs : a.eval s = v) (hown : w.ownsRow base 47 2 v xs.length (flatP xs)) (b0 : Nat) (hb0 : b0 = w.heap.size) (hx : a.eval x = .slice (some ⟨b0, 0, none⟩) 1 1) (hb : xs.length < 1000000) (hbase : base ≤ w.heap.size)
    (h : ∀ v' w', w'.ownsRow base 47 2 v' (xs ++ [(k, t)]).length (flatP (xs ++ [(k, t)])) → (w.alloc (.cells #[.int .i64 k, .int .i64 t] 47)).grownBy w' v.ownBlock → wpList Try.prog ops Q rest (a.put o.dst v') w') :
    wpList Try.prog ops Q (o :: rest) a (w.alloc (.cells #[.int .i64 k, .int .i64 t] 47)) := by
  subst hb0
  obtain ⟨i0, hi, hz0, hz1, hz2⟩ := info_parts info_part
  have hown' := own_keep hown ((Turn.refl [] w).alloc (.cells #[.int .i64 k, .int .i64 t] 47))
  refine wpList_append_own_at (w.alloc (.cells #[.int .i64 k, .int .i64 t] 47)) hgd s x 38 ho base 47 i0 (.agg #[.int .i64 0, .int .i64 0]) 2 16 Try.underlying38 hi hz0 hz1 hz2 rfl (by decide) v xs.length (flatP xs) hs hown' ⟨w.heap.size, 0, none⟩ 1 1 [.int .i64 k, .int .i64 t] hx rfl (fun j u hj => ?_) (by simp [Value.oneCell']) (by unfold maxLen; omega) (by omega) (by simp; omega) ?_
  · rw [add_spot, Nat.zero_add, World.cell?_alloc_at _ _ _ _ rfl]
    simpa using hj
  · intro v' w' h1 h2 _ _
    refine h v' w' ?_ h2
    rw [List.length_append, flatP_append]
    exact h1

/-- A part taken: what there is behind it. -/
theorem tk_step {l lk : List Lt} {is : List Nat} {n nk : Int} {pk : List (Int × Int)} {k i : Nat} {x : Lt} (h : tk lk (is.drop k) nk pk = tk l is n []) (hk : k < is.length) (hi : is.getD k 0 = i) (hx : lk.getD i Lt.nil = x) (hn : 0 < nk) : tk (lk.set i (hold x (min (rest x) nk))) (is.drop (k + 1)) (nk - min (rest x) nk) (pk ++ [(x.id, min (rest x) nk)]) = tk l is n [] := by
  rw [← h, drop_getD hk, tk_cons _ _ _ _ _ hn, hi, hx]

theorem own_keepS {S : List Nat} {w w' : World} {base e m n : Nat} {v : Value} {cs : List Value} (h : w.ownsRow base e m v n cs) (hT : Turn S w w') (hS : ∀ q, v.ownBlock = some q → q ∉ S) : w'.ownsRow base e m v n cs := by
  obtain ⟨hl, h | ⟨g, cap, cur, rfl, hb, hg, rest⟩⟩ := h
  · exact ⟨hl, .inl h⟩
  · have hlt : g < w.heap.size := by
      rcases Nat.lt_or_ge g w.heap.size with h | h
      · exact h
      · rw [Array.getElem?_eq_none h] at hg; cases hg
    exact ⟨hl, .inr ⟨g, cap, cur, rfl, hb, (hT.block g hlt (hS g rfl)).trans hg, rest⟩⟩
theorem OwnL.grown {w w' : World} {g : Nat} {l : List Lt} {row : Option Nat} (h : OwnL w g l) (hg : w.grownBy w' row) (hr : row ≠ some g) : OwnL w' g l :=
  have hb : w'.heap[g]? = w.heap[g]? := hg.block g h.lt (fun e => hr e.symm)
  ⟨fun i hi => (h.lots i hi).keep hb, Nat.lt_of_lt_of_le h.lt hg.size, fun o => (World.frozen?_of_block (a := ⟨g, o, none⟩) hb).trans (h.fz o)⟩
theorem min_ite (a b : Int) : (if b < a then b else a) = min a b := by split <;> omega

/-- What Take answers. -/
def Took (l : List Lt) (n now : Int) (w : World) (e : Ending) (w' : World) : Prop := ∃ (is : List Nat) (g : Nat) (L : List Lt) (P : List (Int × Int)) (N : Int) (pa : Option Addr) (pc : Nat), Turned l now is ∧ tk l is n [] = (L, P, N) ∧ e = .returned (.tuple #[.slice (some ⟨g, 0, none⟩) l.length l.length, .slice pa P.length pc, .int .i64 N]) ∧ L.length = l.length ∧ Bhs L ∧ w.heap.size ≤ g ∧ OwnL w' g L ∧ PartsAt w' pa P ∧ (pa = none → pc = 0) ∧ P.length ≤ 14 ∧ P.length ≤ pc ∧ pc ≤ 9223372036854775807 ∧ (∀ x, pa = some x → w.heap.size ≤ x.block) ∧ Turn [] w w'

set_option maxRecDepth 100000 in
set_option maxHeartbeats 4000000 in
theorem take_any (a : Option Addr) (cap : Nat) (l : List Lt) (n now : Int) (w : World) (hR : Rises l) (hlen : l.length ≤ 14) (hB : Bhs l) (hL : LotsAt w a l) (hnil : a = none → cap = 0) (hn0 : 0 ≤ n) (hn1 : n ≤ 1000000000000000) :
    Calls Try.prog 18 #[.slice a l.length cap, .int .i64 n, .int .i64 now] w (Took l n now w) := by
  have HR := hide hR
  have HB := hide hB
  have HL := hide hL
  have HNil := hide hnil
  clear hR hB hL hnil
  go_enter Try.func18, Try.ntmps18
  go_wp2_with fail
  refine (copied_any a cap l w (by omega) HL.out HNil.out).mono ?_
  rintro e w1 ⟨g, rfl, hg, hO, hT1⟩
  have HO := hide hO
  have HT1 := hide hT1
  have HGw : g < w1.heap.size := hO.lt
  clear hO hT1
  go_wp2_with fail
  refine (inTurn_any g 0 l.length l now w1 HR.out hlen HB.out HO.out.lt HO.out.lots).mono ?_
  rintro e w2 ⟨is, ia, ic, rfl, hTd, hP, hil, hT2⟩
  have HTd := hide hTd
  have HP := hide hP
  have HO2 := hide (HO.out.turn hT2 (by simp))
  have HT2 := hide (HT1.out.trans hT2)
  have hgl : g < w2.heap.size := HO2.out.lt
  have HGl := hide HGw
  clear hTd hP hT2 HO HT1
  go_wp2_with fail
  go_loopw [1, 10, 21] (fun u v j wr => ∃ (k : Nat) (lk : List Lt) (pk : List (Int × Int)) (nk : Int), k ≤ is.length ∧ u = .int .i64 nk ∧ j = .int .i64 k ∧ 0 ≤ nk ∧ nk ≤ 1000000000000000 + k * 10000000000000 ∧ lk.length = l.length ∧ pk.length ≤ k ∧ Hid (tk lk (is.drop k) nk pk = tk l is n []) ∧ Hid (Bhs lk) ∧ Hid (OwnL wr g lk) ∧ Hid (wr.ownsRow w2.heap.size 47 2 v pk.length (flatP pk)) ∧ Turn [g] w2 wr) (fun _ _ j _ => is.length - (intOf j).toNat)
  case atStart => exact ⟨0, l, [], n, Nat.zero_le _, rfl, rfl, hn0, by omega, rfl, Nat.le_refl _, hide rfl, HB, HO2, World.ownsRow_nil _ _ _ _, Turn.refl _ _⟩
  case round =>
    obtain ⟨k, lk, pk, nk, hk, rfl, rfl, hnk0, hnk1, hll, hpk, HF, HBk, HOk, HPk, hT⟩ := hrel
    have HT := hide hT
    clear hT
    by_cases hlt : k < is.length
    · rcases HP.out with hP | ⟨gi, rfl, hI, hgi, hgb⟩
      · rw [hP] at hlt; simp at hlt
      have hgg : gi ≠ g := by have := HGl.out; omega
      have hci := (hI.turn HT.out (by simp; exact hgg) hgi).cell k hlt
      have HIs : Hid (is.getD k 0 < l.length) := ((HTd.out.mem _).1 (by rw [List.getD_eq_getElem?_getD, List.getElem?_eq_getElem hlt]; exact List.getElem_mem hlt)).1
      generalize hi : is.getD k 0 = i at *
      have hil : i < l.length := HIs.out
      have hgi2 : gi < wr.heap.size := Nat.lt_of_lt_of_le hgi HT.out.size
      have hg2 : g < wr.heap.size := HOk.out.lt
      clear hI
      by_cases hz : 0 < nk
      · have hx := HOk.out.lots i (by omega)
        have HX := hide hx
        have HQ := hide (HBk.out.at (show i < lk.length by omega))
        have HRx := HQ.out.rest
        obtain ⟨x, hxe⟩ : ∃ x, x = lk.getD i Lt.nil := ⟨_, rfl⟩
        have HN := hide (tk_step HF.out hlt hi hxe.symm hz)
        have HBn := hide (HBk.out.set i (HQ.out.hold (n := nk) (by omega)))
        rw [← hxe] at hx HX HQ HRx HBn
        have HXe := hide hxe
        simp only [Nat.zero_add] at hx
        obtain ⟨c0, c1, c2, c3, c4, c5, c6, c7, c8⟩ := hx
        have hf := HOk.out.fz
        clear hxe
        go_wp2_with fail
        refine (rest_any x _ HQ.out.q).mono ?_
        rintro e w3 ⟨rfl, hT3⟩
        have hX3 := HX.out.turn hT3 (by simp)
        have HX3 := hide hX3
        have HO3 := hide (HOk.out.turn hT3 (by simp))
        have HP3 := hide (own_keep HPk.out hT3)
        have HT3 := hide (HT.out.then hT3 (by simp))
        have hg3 : g < w3.heap.size := HO3.out.lt
        have hz3 := HO3.out.fz
        have hheb := HQ.out.he
        clear hT3 c0 c1 c2 c3 c4 c5 c6 c7 c8 HX HOk HPk HT hf HF HBk hi
        simp only [Nat.zero_add] at hX3
        obtain ⟨c0, c1, c2, c3, c4, c5, c6, c7, c8⟩ := hX3
        generalize rest x = r at *
        by_cases hrn : nk < r
        · have hmn : min r nk = nk := by omega
          rw [hmn] at HN HBn
          rw [Int.sub_self] at HN
          have HO4 : Hid (OwnL (w3.setCell ⟨g, i * 9 + 6, none⟩ (.int .i64 (x.he + nk))) g (lk.set i (hold x nk))) := by
            refine ⟨HO3.out.lots.put (by omega) ?_ (fun q hq => World.cell?_setCell_other _ _ _ _ (off_ne (by omega))), by rw [World.size_setCell]; exact hg3, fun o => by rw [World.frozen?_setCell]; exact hz3 o⟩
            have := HX3.out.set_he (x.he + nk)
            simp only [Nat.zero_add] at this ⊢
            exact this
          have HT4 := hide (HT3.out.setCell (b := g) (by simp) (i * 9 + 6) (.int .i64 (x.he + nk)))
          have HP4 : Hid ((w3.setCell ⟨g, i * 9 + 6, none⟩ (.int .i64 (x.he + nk))).ownsRow w2.heap.size 47 2 u10 pk.length (flatP pk)) := own_keepS HP3.out ((Turn.refl [g] w3).setCell (by simp) _ _) (fun q hq => by have := own_ge HP3.out hq; simp; omega)
          have hsz : w2.heap.size ≤ (w3.setCell ⟨g, i * 9 + 6, none⟩ (.int .i64 (x.he + nk))).heap.size := HT4.out.size
          have HSz : Hid (w3.heap.size = (w3.setCell ⟨g, i * 9 + 6, none⟩ (.int .i64 (x.he + nk))).heap.size) := (World.size_setCell ..).symm
          clear HO3 HP3 HT3 HX3
          go_wp2_with (first | (at_builtin; refine append_part rfl _ _ rfl w2.heap.size u10 pk x.id nk rfl HP4.out w3.heap.size HSz.out rfl ?_ hsz ?_; omega; intro v' w5 hown5 hgr5) | fail)
          have HP5 := hide hown5
          have HT5 : Hid (Turn [g] w2 w5) := (HT4.out.alloc _).grown hgr5 (fun q hq => .inr (own_ge HP4.out hq))
          have HO5 : Hid (OwnL w5 g (lk.set i (hold x nk))) := (HO4.out.turn ((Turn.refl [] _).alloc _) (by simp)).grown hgr5 (fun e => by have := own_ge HP4.out e; omega)
          clear hown5 hgr5 HT4 HO4 HP4
          go_wp2_with fail
          go_roundw
          case rel => exact ⟨k + 1, _, _, _, by omega, rfl, by go_num, by omega, by omega, by rw [List.length_set]; exact hll, by simp; omega, HN, HBn, HO5, HP5, HT5.out⟩
          case measure => simp [intOf]; omega
        · have hmn : min r nk = r := by omega
          rw [hmn] at HN HBn
          have HO4 : Hid (OwnL (w3.setCell ⟨g, i * 9 + 6, none⟩ (.int .i64 (x.he + r))) g (lk.set i (hold x r))) := by
            refine ⟨HO3.out.lots.put (by omega) ?_ (fun q hq => World.cell?_setCell_other _ _ _ _ (off_ne (by omega))), by rw [World.size_setCell]; exact hg3, fun o => by rw [World.frozen?_setCell]; exact hz3 o⟩
            have := HX3.out.set_he (x.he + r)
            simp only [Nat.zero_add] at this ⊢
            exact this
          have HT4 := hide (HT3.out.setCell (b := g) (by simp) (i * 9 + 6) (.int .i64 (x.he + r)))
          have HP4 : Hid ((w3.setCell ⟨g, i * 9 + 6, none⟩ (.int .i64 (x.he + r))).ownsRow w2.heap.size 47 2 u10 pk.length (flatP pk)) := own_keepS HP3.out ((Turn.refl [g] w3).setCell (by simp) _ _) (fun q hq => by have := own_ge HP3.out hq; simp; omega)
          have hsz : w2.heap.size ≤ (w3.setCell ⟨g, i * 9 + 6, none⟩ (.int .i64 (x.he + r))).heap.size := HT4.out.size
          have HSz : Hid (w3.heap.size = (w3.setCell ⟨g, i * 9 + 6, none⟩ (.int .i64 (x.he + r))).heap.size) := (World.size_setCell ..).symm
          clear HO3 HP3 HT3 HX3
          go_wp2_with (first | (at_builtin; refine append_part rfl _ _ rfl w2.heap.size u10 pk x.id r rfl HP4.out w3.heap.size HSz.out rfl ?_ hsz ?_; omega; intro v' w5 hown5 hgr5) | fail)
          have HP5 := hide hown5
          have HT5 : Hid (Turn [g] w2 w5) := (HT4.out.alloc _).grown hgr5 (fun q hq => .inr (own_ge HP4.out hq))
          have HO5 : Hid (OwnL w5 g (lk.set i (hold x r))) := (HO4.out.turn ((Turn.refl [] _).alloc _) (by simp)).grown hgr5 (fun e => by have := own_ge HP4.out e; omega)
          clear hown5 hgr5 HT4 HO4 HP4
          go_wp2_with fail
          go_roundw
          case rel => exact ⟨k + 1, _, _, _, by omega, rfl, by go_num, by omega, by omega, by rw [List.length_set]; exact hll, by simp; omega, HN, HBn, HO5, HP5, HT5.out⟩
          case measure => simp [intOf]; omega
      · have HE : Hid (tk l is n [] = (lk, pk, nk)) := by rw [Hid, ← HF.out, tk_stop _ _ _ _ (by omega)]
        obtain ⟨pa, pc, rfl, _, hpn, hpa, hpc, hpx⟩ := own_parts HPk.out
        have HPA := hide hpa
        have HPX := hide hpx
        clear hpa hpx HF
        go_wp2_with fail
        refine bodyPost_ret (v := .tuple #[.slice (some ⟨g, 0, none⟩) l.length l.length, .slice pa pk.length pc, .int .i64 nk]) (by simp [results, Try.results18, go_sem]) rfl ?_
        exact ⟨is, g, lk, pk, nk, pa, pc, HTd.out, HE.out, rfl, hll, HBk.out, hg, HOk.out, HPA.out, hpn, by omega, hpc.1, hpc.2, fun y hy => Nat.le_trans HT2.out.size (HPX.out y hy).2.1, HT2.out.then HT.out (by simp; exact hg)⟩
    · have HE : Hid (tk l is n [] = (lk, pk, nk)) := by
        rw [Hid, ← HF.out, List.drop_of_length_le (by omega)]
        rfl
      obtain ⟨pa, pc, rfl, _, hpn, hpa, hpc, hpx⟩ := own_parts HPk.out
      have HPA := hide hpa
      have HPX := hide hpx
      clear hpa hpx HF
      go_wp2_with fail
      refine bodyPost_ret (v := .tuple #[.slice (some ⟨g, 0, none⟩) l.length l.length, .slice pa pk.length pc, .int .i64 nk]) (by simp [results, Try.results18, go_sem]) rfl ?_
      exact ⟨is, g, lk, pk, nk, pa, pc, HTd.out, HE.out, rfl, hll, HBk.out, hg, HOk.out, HPA.out, hpn, by omega, hpc.1, hpc.2, fun y hy => Nat.le_trans HT2.out.size (HPX.out y hy).2.1, HT2.out.then HT.out (by simp; exact hg)⟩

end Go.Proofs.Ytegbinlpojpffaa
