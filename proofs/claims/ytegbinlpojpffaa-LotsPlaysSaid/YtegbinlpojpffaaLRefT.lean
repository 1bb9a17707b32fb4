/-
  The reference's Take, walked.
-/
import Derived.Test.YtegbinlpojpffaaLRefW
import Derived.Test.YtegbinlpojpffaaLTake
namespace Go.Proofs.Ytegbinlpojpffaa
open Go.RowKit Go.Maps Lo

/-- A copy of a row of lots. -/
theorem append_lots {ops : Array Oper} {rest : List Oper} {o : Oper} {a : Act} {Q : Exit → Act → World → Prop} {w : World} (hgd : o.guard = none) (s x : Operand)
    (ho : o.op = .call { callee := .builtin .append, args := #[s, x], argTypes := #[22, 22] }) (l : List Lt) (a2 : Option Addr) (c2 : Nat) (b0 : Nat) (hb0 : b0 = w.heap.size) (hs : a.eval s = .slice (some ⟨b0, 0, none⟩) 0 0) (hx : a.eval x = .slice a2 l.length c2) (hA : LotsAt w a2 l) (hnil : a2 = none → c2 = 0) (hb : l.length ≤ 1000)
    (h : ∀ g c' w', OwnL w' g l → w.heap.size ≤ g → l.length ≤ c' → c' ≤ 9223372036854775807 → Turn [] w w' → wpList Try.prog ops Q rest (a.put o.dst (.slice (some ⟨g, 0, none⟩) l.length c')) w') :
    wpList Try.prog ops Q (o :: rest) a (w.alloc (.cells #[] 29)) := by
  subst hb0
  obtain ⟨i0, hi, hz0, hz1, hz2⟩ := info_parts info_lot
  have hT := (Turn.refl [] w).alloc (.cells #[] 29)
  have hown : (w.alloc (.cells #[] 29)).ownsRow w.heap.size 29 9 (.slice (some ⟨w.heap.size, 0, none⟩) 0 0) 0 (flatL []) := World.ownsRow_lit w #[] 0 (Nat.le_refl _) (by unfold maxLen; omega) (by simp)
  have fin : ∀ v' w', w'.ownsRow w.heap.size 29 9 v' l.length (flatL l) → v' ≠ .slice none 0 0 → Turn [] w w' → wpList Try.prog ops Q rest (a.put o.dst v') w' := fun v' w' h1 h2 h3 => by
    obtain ⟨a', c', rfl, _, hn', _, hc', hx'⟩ := own_lots h1
    cases a' with
    | none =>
      exfalso
      obtain rfl := hn' rfl
      have : l.length = 0 := by omega
      rw [this] at h2
      exact h2 rfl
    | some y =>
      obtain ⟨e1, e2, e3, e4, e5⟩ := hx' y rfl
      rw [e1]
      exact h y.block c' w' ⟨e5, e3, e4⟩ e2 hc'.1 hc'.2 h3
  have go : ∀ ad : Addr, a2 = some ad → (∀ j u, (flatL l)[j]? = some u → (w.alloc (.cells #[] 29)).cell? (ad.add j) = some u) → wpList Try.prog ops Q (o :: rest) a (w.alloc (.cells #[] 29)) := fun ad e hn => by
    subst e
    refine wpList_append_own_at _ hgd s x 22 ho w.heap.size 29 i0 (lotV Lt.nil) 9 72 Try.underlying22 hi hz0 hz1 hz2 rfl (by decide) _ 0 (flatL []) hs hown ad l.length c2 (flatL l) hx (flatL_length l) hn (flatL_one l) (by unfold maxLen; omega) (by omega) (by simp) ?_
    intro v' w' h1 h2 h3 _
    refine fin v' w' (by rw [Nat.zero_add] at h1; exact h1) (fun e => by have := (h3.1 e).1; cases this) (hT.grown h2 fun k hk => .inr ?_)
    simp only [Value.ownBlock, Option.some.injEq] at hk
    omega
  cases a2 with
  | none =>
    obtain rfl := hnil rfl
    obtain rfl : l = [] := by
      rcases hA with h | ⟨b, off, hb, _⟩
      · exact h
      · cases hb
    refine wpList_append_own_none hgd s x 22 ho w.heap.size 29 i0 9 Try.underlying22 hi _ 0 (flatL []) hs hown hx ?_
    exact fin _ _ hown (fun e => by cases e) hT
  | some ad =>
    rcases hA with rfl | ⟨b, off, hb, hA⟩
    · exact go ad rfl (by simp [flatL])
    · obtain rfl := Option.some.inj hb
      exact go _ rfl fun j u hj => by rw [add_spot]; exact (hA.turn0 hT).src j u hj

/-- A slice's length. -/
def sl (v : Value) : Nat := match v with
  | .slice _ n _ => n
  | _ => 0

/-- What the reference's Take answers. -/
def RTook (l : List Lt) (is : List Nat) (n : Int) (w : World) (e : Ending) (w' : World) : Prop := ∃ (g c : Nat) (L : List Lt) (P : List (Int × Int)) (N : Int) (pa : Option Addr) (pc : Nat), tk l is n [] = (L, P, N) ∧ e = .returned (.tuple #[.slice (some ⟨g, 0, none⟩) l.length c, .slice pa P.length pc, .int .i64 N]) ∧ L.length = l.length ∧ w.heap.size ≤ g ∧ OwnL w' g L ∧ PartsAt w' pa P ∧ Turn [] w w'

set_option maxRecDepth 100000 in
set_option maxHeartbeats 4000000 in
theorem rtake_any (a : Option Addr) (cap : Nat) (l : List Lt) (is : List Nat) (n now : Int) (w : World) (hR : Rises l) (hTd : Turned l now is) (hlen : l.length ≤ 14) (hB : Bhs l) (hL : LotsAt w a l) (hnil : a = none → cap = 0) (hn0 : 0 ≤ n) (hn1 : n ≤ 1000000000000000) (hil : is.length ≤ 14) :
    Calls Try.prog 19 #[.slice a l.length cap, .int .i64 n, .int .i64 now] w (RTook l is n w) := by
  have HR := hide hR
  have HTd := hide hTd
  have HB := hide hB
  have HL := hide hL
  have HNil := hide hnil
  clear hR hTd hB hL hnil
  go_enter Try.func19, Try.ntmps19
  go_wp2_with (first | (at_builtin; refine append_lots rfl _ _ rfl l a cap w.heap.size rfl rfl rfl HL.out HNil.out (by omega) ?_; intro g c w1 hO1 hg hc1 hc2 hT1; have HO1 := hide hO1; have HT1 := hide hT1; have hgl := hO1.lt; clear hO1 hT1) | fail)
  go_loopw [1, 9] (fun u v wr => ∃ (lk : List Lt) (js : List Nat) (pk : List (Int × Int)) (nk : Int) (pa : Option Addr) (pc : Nat), u = .int .i64 nk ∧ v = .slice pa pk.length pc ∧ 0 ≤ nk ∧ nk ≤ n ∧ lk.length = l.length ∧ pk.length ≤ is.length ∧ (0 < nk → pk.length + js.length ≤ is.length) ∧ Hid (tk lk js nk pk = tk l is n []) ∧ Hid (Turned lk now js) ∧ Hid (Rises lk) ∧ Hid (Bhs lk) ∧ Hid (OwnL wr g lk) ∧ Hid (wr.ownsRow w1.heap.size 47 2 (.slice pa pk.length pc) pk.length (flatP pk)) ∧ Turn [g] w1 wr) (fun _ v _ => is.length + 1 - sl v)
  case atStart => exact ⟨l, is, [], n, none, 0, rfl, rfl, hn0, Int.le_refl _, rfl, Nat.zero_le _, fun _ => by simp, rfl, HTd, HR, HB, HO1, World.ownsRow_nil _ _ _ _, Turn.refl _ _⟩
  case round =>
    obtain ⟨lk, js, pk, nk, pa, pc, rfl, rfl, hnk0, hnk1, hll, hpk, hpj, HF, HTk, HRk, HBk, HOk, HPk, hT⟩ := hrel
    have HT := hide hT
    clear hT
    by_cases hz : 0 < nk
    · have hpj := hpj hz
      have hlk : lk.length ≤ 14 := by omega
      have HC := hide (rfirst_any (some ⟨g, 0, none⟩) c lk now js wr HRk.out HTk.out (by omega) HBk.out HOk.out.at)
      rw [hll] at HC
      go_wp2_with fail
      refine HC.out.mono ?_
      rintro e w2 ⟨rfl, hT2⟩
      have HT2 := hide (HT.out.then hT2 (by simp))
      have HO2 := hide (HOk.out.turn hT2 (by simp))
      have HP2 := hide (own_keep HPk.out hT2)
      clear hT2 HC HT HOk HPk
      cases js with
      | nil =>
        have HE : Hid (tk l is n [] = (lk, pk, nk)) := HF.out.symm
        obtain ⟨pa', pc', he, _, _, hpa, _, _⟩ := own_parts HP2.out
        injection he with he1 he2 he3
        subst he1 he3
        have HPA := hide hpa
        clear hpa HF
        simp only [firstOf]
        go_wp2_with fail
        refine bodyPost_ret (v := .tuple #[.slice (some ⟨g, 0, none⟩) l.length c, .slice pa pk.length pc, .int .i64 nk]) (by simp [results, Try.results19, go_sem]) rfl ?_
        exact ⟨g, c, lk, pk, nk, pa, pc, HE.out, rfl, hll, hg, HO2.out, HPA.out, HT1.out.then HT2.out (by simp; exact hg)⟩
      | cons i js =>
        obtain ⟨hil2, hcan⟩ := HTk.out.head
        have hx := HO2.out.lots i hil2
        have HX := hide hx
        have HQ := hide (HBk.out.at hil2)
        have HRx := HQ.out.rest
        have hheb := HQ.out.he
        have HRp := can_rest hcan
        have HBn := hide (HBk.out.set i (HQ.out.hold (n := nk) (by omega)))
        have HRn := fun t => hide (HRk.out.hold i t hil2)
        have HTt := hide HTk.out.tail
        have HTp := fun t h => hide (HTk.out.keep (t := t) h)
        have HNx := HF.out
        rw [tk_cons _ _ _ _ _ hz] at HNx
        obtain ⟨x, hxe⟩ : ∃ x, x = lk.getD i Lt.nil := ⟨_, rfl⟩
        rw [← hxe] at hx HX HQ HRx hheb HRp HBn HTt HNx
        simp only [← hxe] at HRn HTp
        have HN := hide HNx
        simp only [Nat.zero_add] at hx
        obtain ⟨c0, c1, c2, c3, c4, c5, c6, c7, c8⟩ := hx
        have hf := HO2.out.fz
        have hg2 := HO2.out.lt
        have hi14 : i < 14 := by omega
        clear hxe hcan HNx HF HTk HRk HBk
        simp only [firstOf]
        go_wp2_with fail
        refine (rrest_any x _ HQ.out.q).mono ?_
        rintro e w3 ⟨rfl, hT3⟩
        have HX3 := hide (HX.out.turn hT3 (by simp))
        have HO3 := hide (HO2.out.turn hT3 (by simp))
        have HP3 := hide (own_keep HP2.out hT3)
        have HT3 := hide (HT2.out.then hT3 (by simp))
        have hg3 : g < w3.heap.size := HO3.out.lt
        have hz3 := HO3.out.fz
        clear hT3 c0 c1 c2 c3 c4 c5 c6 c7 c8 HX HO2 HP2 HT2 hf hg2
        have hX3 := HX3.out
        simp only [Nat.zero_add] at hX3
        obtain ⟨c0, c1, c2, c3, c4, c5, c6, c7, c8⟩ := hX3
        generalize rest x = r at *
        by_cases hrn : r < nk
        · have hmn : min r nk = r := by omega
          rw [hmn] at HN HBn
          have HRn := HRn r
          clear HTp
          have HO4 : Hid (OwnL (w3.setCell ⟨g, i * 9 + 6, none⟩ (.int .i64 (x.he + r))) g (lk.set i (hold x r))) := by
            refine ⟨HO3.out.lots.put hil2 ?_ (fun q hq => World.cell?_setCell_other _ _ _ _ (off_ne (by omega))), by rw [World.size_setCell]; exact hg3, fun o => by rw [World.frozen?_setCell]; exact hz3 o⟩
            have := HX3.out.set_he (x.he + r)
            simp only [Nat.zero_add] at this ⊢
            exact this
          have HT4 := hide (HT3.out.setCell (b := g) (by simp) (i * 9 + 6) (.int .i64 (x.he + r)))
          have HP4 : Hid ((w3.setCell ⟨g, i * 9 + 6, none⟩ (.int .i64 (x.he + r))).ownsRow w1.heap.size 47 2 (.slice pa pk.length pc) pk.length (flatP pk)) := own_keepS HP3.out ((Turn.refl [g] w3).setCell (by simp) _ _) (fun q hq => by have := own_ge HP3.out hq; simp; omega)
          have hsz : w1.heap.size ≤ (w3.setCell ⟨g, i * 9 + 6, none⟩ (.int .i64 (x.he + r))).heap.size := HT4.out.size
          have HSz : Hid (w3.heap.size = (w3.setCell ⟨g, i * 9 + 6, none⟩ (.int .i64 (x.he + r))).heap.size) := (World.size_setCell ..).symm
          clear HO3 HP3 HT3 HX3
          go_wp2_with (first | (at_builtin; refine append_part rfl _ _ rfl w1.heap.size (.slice pa pk.length pc) pk x.id r rfl HP4.out w3.heap.size HSz.out rfl ?_ hsz ?_; omega; intro v' w5 hown5 hgr5; obtain ⟨pa', pc', rfl, _, _, _, _, _⟩ := own_parts hown5) | fail)
          have HP5 := hide hown5
          have HT5 : Hid (Turn [g] w1 w5) := (HT4.out.alloc _).grown hgr5 (fun q hq => .inr (own_ge HP4.out hq))
          have HO5 : Hid (OwnL w5 g (lk.set i (hold x r))) := (HO4.out.turn ((Turn.refl [] _).alloc _) (by simp)).grown hgr5 (fun e => by have := own_ge HP4.out e; omega)
          clear hown5 hgr5 HT4 HO4 HP4 c0 c1 c2 c3 c4 c5 c6 c7 c8
          go_wp2_with fail
          go_roundw
          case rel => exact ⟨_, js, _, _, pa', pc', rfl, by simp, by omega, by omega, by rw [List.length_set]; exact hll, by simp at hpj ⊢; omega, fun _ => by simp at hpj ⊢; omega, HN, HTt, HRn, HBn, HO5, HP5, HT5.out⟩
          case measure => simp [sl]; simp at hpj; omega
        · have hmn : min r nk = nk := by omega
          rw [hmn] at HN HBn
          have HRn := HRn nk
          obtain ⟨jn, HTn⟩ : ∃ jn, Hid (Turned (lk.set i (hold x nk)) now jn) := by
            by_cases h : nk < r
            · exact ⟨_, HTp nk h⟩
            · obtain rfl : r = nk := by omega
              exact ⟨_, HTt⟩
          have HN2 : Hid (tk (lk.set i (hold x nk)) jn (nk - nk) (pk ++ [(x.id, nk)]) = tk l is n []) := by
            unfold Hid
            rw [← HN.out, tk_stop _ _ _ _ (by omega), tk_stop _ _ _ _ (by omega)]
          rw [Int.sub_self] at HN2
          clear HTp HTt HN
          have HO4 : Hid (OwnL (w3.setCell ⟨g, i * 9 + 6, none⟩ (.int .i64 (x.he + nk))) g (lk.set i (hold x nk))) := by
            refine ⟨HO3.out.lots.put hil2 ?_ (fun q hq => World.cell?_setCell_other _ _ _ _ (off_ne (by omega))), by rw [World.size_setCell]; exact hg3, fun o => by rw [World.frozen?_setCell]; exact hz3 o⟩
            have := HX3.out.set_he (x.he + nk)
            simp only [Nat.zero_add] at this ⊢
            exact this
          have HT4 := hide (HT3.out.setCell (b := g) (by simp) (i * 9 + 6) (.int .i64 (x.he + nk)))
          have HP4 : Hid ((w3.setCell ⟨g, i * 9 + 6, none⟩ (.int .i64 (x.he + nk))).ownsRow w1.heap.size 47 2 (.slice pa pk.length pc) pk.length (flatP pk)) := own_keepS HP3.out ((Turn.refl [g] w3).setCell (by simp) _ _) (fun q hq => by have := own_ge HP3.out hq; simp; omega)
          have hsz : w1.heap.size ≤ (w3.setCell ⟨g, i * 9 + 6, none⟩ (.int .i64 (x.he + nk))).heap.size := HT4.out.size
          have HSz : Hid (w3.heap.size = (w3.setCell ⟨g, i * 9 + 6, none⟩ (.int .i64 (x.he + nk))).heap.size) := (World.size_setCell ..).symm
          clear HO3 HP3 HT3 HX3
          go_wp2_with (first | (at_builtin; refine append_part rfl _ _ rfl w1.heap.size (.slice pa pk.length pc) pk x.id nk rfl HP4.out w3.heap.size HSz.out rfl ?_ hsz ?_; omega; intro v' w5 hown5 hgr5; obtain ⟨pa', pc', rfl, _, _, _, _, _⟩ := own_parts hown5) | fail)
          have HP5 := hide hown5
          have HT5 : Hid (Turn [g] w1 w5) := (HT4.out.alloc _).grown hgr5 (fun q hq => .inr (own_ge HP4.out hq))
          have HO5 : Hid (OwnL w5 g (lk.set i (hold x nk))) := (HO4.out.turn ((Turn.refl [] _).alloc _) (by simp)).grown hgr5 (fun e => by have := own_ge HP4.out e; omega)
          clear hown5 hgr5 HT4 HO4 HP4 c0 c1 c2 c3 c4 c5 c6 c7 c8
          go_wp2_with fail
          go_roundw
          case rel => exact ⟨_, jn, _, _, pa', pc', rfl, by simp, by omega, by omega, by rw [List.length_set]; exact hll, by simp at hpj ⊢; omega, fun h => by omega, HN2, HTn, HRn, HBn, HO5, HP5, HT5.out⟩
          case measure => simp [sl]; simp at hpj; omega
    · have HE : Hid (tk l is n [] = (lk, pk, nk)) := by rw [Hid, ← HF.out, tk_stop _ _ _ _ (by omega)]
      obtain ⟨pa', pc', he, _, _, hpa, _, _⟩ := own_parts HPk.out
      injection he with he1 he2 he3
      subst he1 he3
      have HPA := hide hpa
      clear hpa HF
      go_wp2_with fail
      refine bodyPost_ret (v := .tuple #[.slice (some ⟨g, 0, none⟩) l.length c, .slice pa pk.length pc, .int .i64 nk]) (by simp [results, Try.results19, go_sem]) rfl ?_
      exact ⟨g, c, lk, pk, nk, pa, pc, HE.out, rfl, hll, hg, HOk.out, HPA.out, HT1.out.then HT.out (by simp; exact hg)⟩

end Go.Proofs.Ytegbinlpojpffaa
