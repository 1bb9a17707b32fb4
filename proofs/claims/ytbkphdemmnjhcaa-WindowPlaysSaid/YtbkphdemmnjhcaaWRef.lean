/-
  Rows of entries that grow; the reference's Note, SameWindow, walked.
-/
import Derived.Test.YtbkphdemmnjhcaaWNote
namespace Go.Proofs.Ytbkphdemmnjhcaa.Wi
open Go.RowKit Go.Maps

theorem own_keepS {S : List Nat} {w w' : World} {base e m n : Nat} {v : Value} {cs : List Value} (h : w.ownsRow base e m v n cs) (hT : Turn S w w') (hS : ∀ q, v.ownBlock = some q → q ∉ S) : w'.ownsRow base e m v n cs := by
  obtain ⟨hl, h | ⟨g, cap, cur, rfl, hb, hg, rest⟩⟩ := h
  · exact ⟨hl, .inl h⟩
  · have hlt : g < w.heap.size := by
      rcases Nat.lt_or_ge g w.heap.size with h | h
      · exact h
      · rw [Array.getElem?_eq_none h] at hg; cases hg
    exact ⟨hl, .inr ⟨g, cap, cur, rfl, hb, (hT.block g hlt (hS g rfl)).trans hg, rest⟩⟩
theorem own_ge {w : World} {base e m n : Nat} {v : Value} {cs : List Value} (h : w.ownsRow base e m v n cs) {q : Nat} (hq : v.ownBlock = some q) : base ≤ q ∧ q < w.heap.size := by
  obtain ⟨hl, ⟨rfl, _⟩ | ⟨g, cap, cur, rfl, hb, hg, rest⟩⟩ := h
  · cases hq
  · have hlt : g < w.heap.size := by
      rcases Nat.lt_or_ge g w.heap.size with h | h
      · exact h
      · rw [Array.getElem?_eq_none h] at hg; cases hg
    simp only [Value.ownBlock, Option.some.injEq] at hq
    omega

/-- A row of entries of the call's own. -/
def Row (w : World) (base : Nat) (v : Value) (l : List Ent) : Prop := w.ownsRow base 43 14 v l.length (flatE l)
theorem Row.nil (w : World) (base : Nat) : Row w base (.slice none 0 0) [] := World.ownsRow_nil _ _ _ _
theorem Row.turn {w w' : World} {base : Nat} {v : Value} {l : List Ent} (h : Row w base v l) (hT : Turn [] w w') : Row w' base v l := own_keepS h hT (by simp)
theorem Row.win {w : World} {base : Nat} {v : Value} {l : List Ent} (h : Row w base v l) : ∃ a c, v = .slice a l.length c ∧ WinAt w a c l := by
  obtain ⟨hl, ⟨rfl, hn⟩ | ⟨g, cap, cur, rfl, hb, hg, hnc, hm, hsz, hcur⟩⟩ := h
  · have : l = [] := List.eq_nil_of_length_eq_zero hn
    subst this
    exact ⟨none, 0, rfl, WinAt.nil w⟩
  · unfold maxLen at hm
    refine ⟨some ⟨g, 0, none⟩, cap, rfl, .inr ⟨g, 0, rfl, fun j u hj => ?_⟩, fun e => (by cases e), hnc, hm⟩
    rw [Nat.zero_add, cell_of_row w g j _ _ _ hg]
    have hjl : j < l.length * 14 := by
      rw [← hl]
      exact (List.getElem?_eq_some_iff.1 hj).1
    rw [← hcur, List.getElem?_take, if_pos hjl] at hj
    rw [← Array.getElem?_toList]
    exact hj

theorem append_ents {ops : Array Oper} {rest : List Oper} {o : Oper} {a : Act} {Q : Exit → Act → World → Prop} {w : World} (hgd : o.guard = none) (s x : Operand)
    (ho : o.op = .call { callee := .builtin .append, args := #[s, x], argTypes := #[24, 24] }) (base : Nat) (v : Value) (rs ts : List Ent) (a2 : Option Addr) (n2 c2 : Nat) (hn2 : n2 = ts.length) (hs : a.eval s = v) (hown : Row w base v rs) (hx : a.eval x = .slice a2 n2 c2) (hA : EntsAt w a2 ts) (hnil : a2 = none → c2 = 0) (hb : rs.length + ts.length < 1000000) (hbase : base ≤ w.heap.size)
    (h : ∀ v' w', Row w' base v' (rs ++ ts) → (∀ u : World, u.heap.size ≤ base → Turn [] u w → Turn [] u w') → wpList Try.prog ops Q rest (a.put o.dst v') w') :
    wpList Try.prog ops Q (o :: rest) a w := by
  subst hn2
  obtain ⟨i0, hi, hz0, hz1, hz2⟩ := info_parts info_ent
  have go : ∀ ad : Addr, a2 = some ad → (∀ j u, (flatE ts)[j]? = some u → w.cell? (ad.add j) = some u) → wpList Try.prog ops Q (o :: rest) a w := fun ad e hn => by
    subst e
    refine wpList_append_own_at _ hgd s x 24 ho base 43 i0 (enV Ent.nil) 14 120 Try.underlying24 hi hz0 hz1 hz2 rfl (by decide) v rs.length (flatE rs) hs hown ad ts.length c2 (flatE ts) hx (flatE_length ts) hn (flatE_one ts) (by unfold maxLen; omega) (by omega) hbase ?_
    intro v' w' h1 h2 _ _
    have h1' : Row w' base v' (rs ++ ts) := by
      unfold Row
      rw [List.length_append, flatE_append]
      exact h1
    exact h v' w' h1' fun u hu hT => hT.grown h2 fun k hk => .inr (by have := own_ge hown hk; omega)
  cases a2 with
  | none =>
    obtain rfl := hnil rfl
    obtain rfl : ts = [] := by
      rcases hA with h | ⟨b, off, hb, _⟩
      · exact h
      · cases hb
    refine wpList_append_own_none hgd s x 24 ho base 43 i0 14 Try.underlying24 hi v rs.length (flatE rs) hs hown hx ?_
    exact h v w (by rw [List.append_nil]; exact hown) fun u _ hT => hT
  | some ad =>
    rcases hA with rfl | ⟨b, off, hb, hA⟩
    · exact go ad rfl (by simp [flatE])
    · obtain rfl := Option.some.inj hb
      exact go _ rfl fun j u hj => by rw [Addr.add_mid]; exact hA j u hj

abbrev entObj (e : Ent) : Obj := .cells #[.int .i64 e.id, .int .i64 e.an.er, .int .i64 e.an.lf, .int .i64 e.an.ov, .int .i64 e.an.n, .string e.an.nm, .int .i64 e.an.s1, .int .i64 e.an.s2, .int .i64 e.an.s3, .int .i64 e.an.s4, .int .i64 e.an.s5, .int .i64 e.an.s6, .int .i64 e.an.s7, .int .i64 e.an.s8] 43
theorem ents_one (w : World) (e : Ent) : EntsAt (w.alloc (entObj e)) (some ⟨w.heap.size, 0, none⟩) [e] := .inr ⟨w.heap.size, 0, rfl, fun j v hv => by
  have hb : (w.alloc (entObj e)).heap[w.heap.size]? = _ := Array.getElem?_push_size
  rw [cell_of_row _ _ _ _ _ _ hb, Nat.zero_add]
  simpa [flatE, enC, anC] using hv⟩

theorem noted_hi {w w' : World} {a : Option Addr} {c : Nat} {l : List Ent} {x : Ent} (hA : WinAt w' a c (ins l x)) (hT : Turn [] w w') (h : 12 < l.length + 1) : Noted w w' (note l x) (.returned (.slice (hiA a c 1) l.length (c - 1))) := by
  have e : ((ins l x).drop 1).length = l.length := by rw [List.length_drop, ins_length]; omega
  unfold note
  rw [ins_length, if_pos h]
  exact ⟨_, _, by rw [e], hA.drop (by rw [ins_length]; omega), hT⟩
theorem noted_lo {w w' : World} {a : Option Addr} {c : Nat} {l : List Ent} {x : Ent} (hA : WinAt w' a c (ins l x)) (hT : Turn [] w w') (h : ¬ 12 < l.length + 1) : Noted w w' (note l x) (.returned (.slice a (l.length + 1) c)) := by
  unfold note
  rw [ins_length, if_neg h]
  exact ⟨_, _, by rw [ins_length], hA, hT⟩

set_option maxRecDepth 100000 in
set_option maxHeartbeats 4000000 in
theorem rnote_any (a : Option Addr) (c : Nat) (l : List Ent) (i : Int) (x : An) (w : World) (hlen : l.length ≤ 1000) (hL : WinAt w a c l) :
    Calls Try.prog 13 #[.slice a l.length c, .int .i64 i, anV x] w fun e w' => Noted w w' (note l ⟨i, x⟩) e := by
  have HT0 := hide ((Turn.refl [] w).alloc (.cells #[.int .i64 x.er, .int .i64 x.lf, .int .i64 x.ov, .int .i64 x.n, .string x.nm, .int .i64 x.s1, .int .i64 x.s2, .int .i64 x.s3, .int .i64 x.s4, .int .i64 x.s5, .int .i64 x.s6, .int .i64 x.s7, .int .i64 x.s8] 29))
  have HR0 := hide (range_obj w x)
  have HL := hide (hL.turn0 HT0.out)
  have hcl := hL.2.2.1
  clear hL
  go_enter Try.func13, Try.ntmps13
  go_wp2_with fail
  obtain ⟨W, hW⟩ : ∃ W, W = w.alloc (.cells #[.int .i64 x.er, .int .i64 x.lf, .int .i64 x.ov, .int .i64 x.n, .string x.nm, .int .i64 x.s1, .int .i64 x.s2, .int .i64 x.s3, .int .i64 x.s4, .int .i64 x.s5, .int .i64 x.s6, .int .i64 x.s7, .int .i64 x.s8] 29) := ⟨_, rfl⟩
  rw [← hW] at HT0 HL HR0 ⊢
  clear hW
  go_loop [7] (fun u => ∃ (k : Nat), k ≤ l.length ∧ u = .int .i64 k ∧ Hid (∀ m, m < k → (l.getD m Ent.nil).id < i)) (fun u => l.length - (intOf u).toNat)
  case atStart => exact ⟨0, Nat.zero_le _, rfl, fun m hm => absurd hm (Nat.not_lt_zero _)⟩
  case round =>
    obtain ⟨k, hk, rfl, HF⟩ := hrel
    by_cases hgo : k < l.length ∧ (l.getD k Ent.nil).id < i
    · obtain ⟨hlt, hid⟩ := hgo
      obtain ⟨b, off, rfl, hr⟩ := HL.out.1.at hlt
      have c0 := id_cell hr
      have hb := lt_of_cell c0
      have HF2 : Hid (∀ m, m < k + 1 → (l.getD m Ent.nil).id < i) := fun m hm => by
        rcases Nat.lt_or_ge m k with h | h
        · exact HF.out m h
        · obtain rfl : m = k := by omega
          omega
      generalize l.getD k Ent.nil = e at *
      clear hr
      go_wp2_with fail
      go_round
      case rel => exact ⟨k + 1, by omega, by go_num, HF2⟩
      case measure => simp [intOf]; omega
    · have hpos : pos l i = k := pos_of hk HF.out (fun h => by
        rcases Int.lt_or_le (l.getD k Ent.nil).id i with h2 | h2
        · exact absurd ⟨h, h2⟩ hgo
        · exact h2)
      have HIn : Hid (l.take k ++ [(⟨i, x⟩ : Ent)] ++ l.drop k = ins l ⟨i, x⟩) := by
        unfold Hid ins
        simp only [hpos, List.append_assoc, List.singleton_append]
      have HN : Hid (note l ⟨i, x⟩ = if 12 < l.length + 1 then (ins l ⟨i, x⟩).drop 1 else ins l ⟨i, x⟩) := by unfold Hid note; rw [ins_length]
      have HIL : Hid ((ins l ⟨i, x⟩).length = l.length + 1) := ins_length _ _
      have hs1 := fun w => slice_lo a l.length c k w (by omega)
      have hs3 := fun w => slice_hi a l.length c k w hk
      have HE1 := hide (HL.out.1.take k)
      have HE3 := hide (hiA_at HL.out.1 HL.out.2.2.1 hk)
      have HNil := hide HL.out.2.1
      have HNil3 : Hid (hiA a c k = none → c - k = 0) := hiA_nil HL.out.2.1
      have HL1 : Hid (k = (l.take k).length) := by unfold Hid; rw [List.length_take]; omega
      have HL3 : Hid (l.length - k = (l.drop k).length) := by unfold Hid; rw [List.length_drop]
      have hl1 : (l.take k).length ≤ 1000 := by rw [← HL1.out]; omega
      have hl3 : (l.drop k).length ≤ 1000 := by rw [← HL3.out]; omega
      have hgW := rangeAt_lt HR0.out (by simp [anC])
      have hcase : k < l.length → ∃ b off, a = some ⟨b, off, none⟩ ∧ W.cell? ⟨b, off + k * 14, none⟩ = some (.int .i64 (l.getD k Ent.nil).id) ∧ ¬ (l.getD k Ent.nil).id < i := fun h => by
        obtain ⟨b, off, h3, hr⟩ := HL.out.1.at h
        exact ⟨b, off, h3, id_cell hr, fun h2 => hgo ⟨h, h2⟩⟩
      clear hpos hgo HF HL
      generalize l.take k = t1 at *
      generalize l.drop k = t3 at *
      generalize hiA a c k = a3 at *
      generalize (l.getD k Ent.nil).id = j at *
      by_cases hlt : k < l.length
      · obtain ⟨b, off, rfl, c0, hji⟩ := hcase hlt
        have hb := lt_of_cell c0
        clear hcase
        go_wp2_with (first
          | (at_builtin; refine append_ents rfl _ _ rfl W.heap.size (.slice none 0 0) [] t1 (some ⟨b, off, none⟩) k c HL1.out rfl (Row.nil _ _) rfl HE1.out HNil.out (by simp; omega) (Nat.le_refl _) ?_; intro v2 w2 hown2 hT2; have HO2 := hide hown2; have hT2' := hT2 W (Nat.le_refl _) (Turn.refl _ _); have HT2 := hide hT2'; have HR2 := hide (rangeAt_turn HR0.out hT2' (by simp)); have hs2 := hT2'.size; clear hown2 hT2 hT2')
          | ((with_reducible refine load_answer _ w.heap.size 0 x ?_ HR2.out ?_); rfl)
          | (at_builtin; refine append_ents rfl _ _ rfl W.heap.size v2 ([] ++ t1) [⟨i, x⟩] (some ⟨w2.heap.size, 0, none⟩) 1 1 rfl rfl (HO2.out.turn ((Turn.refl [] w2).alloc (entObj ⟨i, x⟩))) rfl (ents_one w2 ⟨i, x⟩) (fun e => by cases e) (by simp; omega) (by simp; omega) ?_; intro v3 w3 hown3 hT3; have HO3 := hide hown3; have HT3 := hide (hT3 W (Nat.le_refl _) (HT2.out.alloc (entObj ⟨i, x⟩))); have hs4 := HT3.out.size; clear hown3 hT3)
          | (at_builtin; refine append_ents rfl _ _ rfl W.heap.size v3 ([] ++ t1 ++ [⟨i, x⟩]) t3 a3 (l.length - k) (c - k) HL3.out rfl HO3.out rfl (HE3.out.turn0 HT3.out) HNil3.out (by simp; omega) hs4 ?_; intro v4 w4 hown4 hT4; have HO4 := hide hown4; have HT4 := hide (hT4 W (Nat.le_refl _) HT3.out); clear hown4 hT4; obtain ⟨a4, c4, hv4, hA4⟩ := HO4.out.win; rw [List.nil_append, HIn.out] at hA4 hv4; rw [HIL.out] at hv4; subst hv4; have hs5 := fun w => slice_hi a4 (l.length + 1) c4 1 w (by omega); have HA4 := hide hA4; have HTf := hide (HT0.out.trans HT4.out); clear hA4 HO4 HT4; simp only [Int.natCast_one] at hs5)
          | fail)
        all_goals
          go_ret
          first
          | exact noted_hi HA4.out HTf.out (by omega)
          | exact noted_lo HA4.out HTf.out (by omega)
      · clear hcase
        go_wp2_with (first
          | (at_builtin; refine append_ents rfl _ _ rfl W.heap.size (.slice none 0 0) [] t1 a k c HL1.out rfl (Row.nil _ _) rfl HE1.out HNil.out (by simp; omega) (Nat.le_refl _) ?_; intro v2 w2 hown2 hT2; have HO2 := hide hown2; have hT2' := hT2 W (Nat.le_refl _) (Turn.refl _ _); have HT2 := hide hT2'; have HR2 := hide (rangeAt_turn HR0.out hT2' (by simp)); have hs2 := hT2'.size; clear hown2 hT2 hT2')
          | ((with_reducible refine load_answer _ w.heap.size 0 x ?_ HR2.out ?_); rfl)
          | (at_builtin; refine append_ents rfl _ _ rfl W.heap.size v2 ([] ++ t1) [⟨i, x⟩] (some ⟨w2.heap.size, 0, none⟩) 1 1 rfl rfl (HO2.out.turn ((Turn.refl [] w2).alloc (entObj ⟨i, x⟩))) rfl (ents_one w2 ⟨i, x⟩) (fun e => by cases e) (by simp; omega) (by simp; omega) ?_; intro v3 w3 hown3 hT3; have HO3 := hide hown3; have HT3 := hide (hT3 W (Nat.le_refl _) (HT2.out.alloc (entObj ⟨i, x⟩))); have hs4 := HT3.out.size; clear hown3 hT3)
          | (at_builtin; refine append_ents rfl _ _ rfl W.heap.size v3 ([] ++ t1 ++ [⟨i, x⟩]) t3 a3 (l.length - k) (c - k) HL3.out rfl HO3.out rfl (HE3.out.turn0 HT3.out) HNil3.out (by simp; omega) hs4 ?_; intro v4 w4 hown4 hT4; have HO4 := hide hown4; have HT4 := hide (hT4 W (Nat.le_refl _) HT3.out); clear hown4 hT4; obtain ⟨a4, c4, hv4, hA4⟩ := HO4.out.win; rw [List.nil_append, HIn.out] at hA4 hv4; rw [HIL.out] at hv4; subst hv4; have hs5 := fun w => slice_hi a4 (l.length + 1) c4 1 w (by omega); have HA4 := hide hA4; have HTf := hide (HT0.out.trans HT4.out); clear hA4 HO4 HT4; simp only [Int.natCast_one] at hs5)
          | fail)
        all_goals
          go_ret
          first
          | exact noted_hi HA4.out HTf.out (by omega)
          | exact noted_lo HA4.out HTf.out (by omega)

end Go.Proofs.Ytbkphdemmnjhcaa.Wi
