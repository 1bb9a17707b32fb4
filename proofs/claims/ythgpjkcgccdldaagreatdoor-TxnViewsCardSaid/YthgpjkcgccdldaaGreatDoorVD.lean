/-
  A transaction's Put and Del: change, and what is noted of a key, walked.
  A transaction's change, Put and Del, walked.
  A transaction's commit: end, commit, Commit, walked.
  The law's plain rows by themselves: Del and Put of a row whose keys rise; rows of letters.
  The law's plain rows: Find, Del, Put, Same, walked.
  The law's Find on a plain row, walked.
  The law's Put on plain rows, walked.
  The law's Same on plain rows, walked: two rows of the same pairs.
  The law of TxnViews by itself: where its loops stand, and what each call of a round makes of it.
-/
import Derived.Test.YthgpjkcgccdldaaGreatDoorVB
import Derived.Test.YthgpjkcgccdldaaGreatDoorVA
import Derived.Deep.Cut
import Derived.Test.YthgpjkcgccdldaaGreatDoorTFind
import Derived.Deep.RegionHeld
import Derived.Deep.RegionHeld3
import Derived.Test.YthgpjkcgccdldaaGreatDoorVC
namespace Go.Proofs.YthgpjkcgccdldaaGreatDoor
open Go.RowKit Go.Maps

theorem law9 : Keyed Tryz.prog 9 := string_keyed Tryz.underlying9
theorem key9 {s : ByteArray} (h : s.size ≤ 1000) : keyOf Tryz.prog 9 (.string s) = some (.string s.data.toList) := by
  rw [keyOf_string Tryz.underlying9]
  unfold mapKey
  rw [Tryz.underlying9]
  simp
  unfold maxLen
  omega

/-- All blocks that are new are the store's own from now on. -/
theorem StoreIn.grow {w w' : World} {O OT : Nat → Prop} {st t p sg N c vw : Nat} {fs : Bool} {tx : Option Nat} {did : Nat} {ch : Bool} {l : KVs} (h : StoreIn w O OT st t p sg N c vw fs tx did ch l) (hT : Turn [] w w') : StoreIn w' O (fun x => OT x ∨ (w.heap.size ≤ x ∧ x < w'.heap.size)) st t p sg N c vw fs tx did ch l := by
  have h0 := h.turn0 hT
  have hb : ∀ x, (OT x ∨ (w.heap.size ≤ x ∧ x < w'.heap.size)) → x < w'.heap.size := fun x hx => by
    rcases hx with hx | hx
    · exact h0.ob x hx
    · exact hx.2
  refine ⟨h.tree.turn hT (by simp) (fun x hx => by rcases hx with hx | hx; exact .inl hx; exact .inr hx.1) hb, h0.obj, fun hf => ⟨(h0.sight hf).1, .inl (h0.sight hf).2.1, (h0.sight hf).2.2⟩, fun x hx => .inl (h.sub x hx), .inl h.ost, h.nst, h.ne, ?_, hb, h0.sgl⟩
  have h5 := h0.txp
  cases tx with
  | none => trivial
  | some tb =>
    obtain ⟨mb, h1, h2, h3, h4⟩ := h5
    exact ⟨mb, h1, .inl h2, .inl h3, h4⟩

/-- The notes turn. -/
theorem StoreIn.noted {w w' : World} {O OT : Nat → Prop} {st t p sg N c vw : Nat} {fs : Bool} {tb mb : Nat} {did did' : Nat} {ch : Bool} {l : KVs} (h : StoreIn w O OT st t p sg N c vw fs (some tb) did ch l) (hT : Turn [mb] w w') (hm : OT mb ∧ ¬ O mb ∧ tb ≠ mb ∧ mb ≠ st ∧ mb ≠ sg ∧ OT tb ∧ ¬ O tb ∧ tb ≠ st ∧ tb ≠ sg) (hx : TxAt w' tb mb st did') : StoreIn w' O OT st t p sg N c vw fs (some tb) did' ch l ∧ Keep O w w' := by
  have hb : ∀ x, OT x → x < w'.heap.size := fun x hx => Nat.lt_of_lt_of_le (h.ob x hx) hT.size
  exact ⟨⟨h.tree.turn hT (by simp; exact hm.1) (fun x hx => .inl hx) hb, h.obj.same (hT.block st h.obj.lt (by simp; exact hm.2.2.2.1.symm)), fun hf => ⟨(h.sight hf).1.same (hT.block sg (h.sight hf).1.lt (by simp; exact hm.2.2.2.2.1.symm)), (h.sight hf).2⟩, h.sub, h.ost, h.nst, h.ne, ⟨mb, hx, hm.2.2.2.2.2.1, hm.1, hm.2.2.2.2.2.2.1, hm.2.1, hm.2.2.1, hm.2.2.2.2.2.2.2.1, hm.2.2.2.2.2.2.2.2, hm.2.2.2.1, hm.2.2.2.2.1⟩, hb, Nat.lt_of_lt_of_le h.sgl hT.size⟩, Keep.of hT (by simp; exact ⟨hm.2.1, h.tree.not1 hm.1⟩)⟩

set_option maxRecDepth 100000 in
set_option maxHeartbeats 800000 in
theorem isOver_no {w : World} {tb st : Nat} (h0 : w.cell? ⟨tb, 0, none⟩ = some (.pointer (some ⟨st, 0, none⟩))) : Calls Tryz.prog 39 #[.pointer (some ⟨tb, 0, none⟩)] w fun e w' => e = .returned (.bool false) ∧ w' = w := by
  go_enter Tryz.func39, Tryz.ntmps39
  go_wp2
  go_ret
  exact ⟨rfl, rfl⟩

abbrev SI (w : World) (O OT : Nat → Prop) (st t p sg N c vw : Nat) (fs : Bool) (tb : Nat) (did : Nat) (ch : Bool) (l : KVs) : Prop := StoreIn w O OT st t p sg N c vw fs (some tb) did ch l

set_option maxRecDepth 100000 in
set_option maxHeartbeats 1600000 in
theorem doPut {w : World} {O OT : Nat → Prop} {st t p sg N c vw : Nat} {fs : Bool} {tb : Nat} {did : Nat} {ch : Bool} {l : KVs} (h : SI w O OT st t p sg N c vw fs tb did ch l) (b3 b4 b5 : Nat) (k v : ByteArray) (hk : k.size = 1) (hv : v.size ≤ 2) (hroom : ∀ l', IsPut l k v l' → l'.length ≤ 20) (h3 : w.cell? ⟨b3, 0, none⟩ = some (.pointer (some ⟨tb, 0, none⟩))) (h4 : w.cell? ⟨b4, 0, none⟩ = some (.string k)) (h5 : w.cell? ⟨b5, 0, none⟩ = some (.string v)) :
    Calls Tryz.prog 41 #[.pointer (some ⟨b3, 0, none⟩), .pointer (some ⟨b4, 0, none⟩), .pointer (some ⟨b5, 0, none⟩)] w fun e w' => e = .returned (.int .i64 0) ∧ (∃ l', IsPut l k v l' ∧ SI w' O OT st t p sg N c vw fs tb did true l' ∧ Keep OT w w') := by
  obtain ⟨mb, hx, hxs⟩ := h.txp
  have ht0 := hx.c0
  have hs1 := h.obj.c1
  have HC := hide ((ok_put (h.tree.turn (Turn.refl [] w).drew (by simp) (fun x hx => .inl hx) h.ob) k v hk hv hroom))
  have H := hide h
  clear h hx hxs hroom
  go_enter Tryz.func41, Tryz.ntmps41
  go_wp2_with fail
  go_region_with (go_at_call 42; refine HC.out.mono ?_; rintro e w1 ⟨rfl, l', hP1, hT1, hK1'⟩; have hK1 : Keep OT w w1 := (Keep.of (Turn.refl [] w).drew (by simp)).trans hK1'; have HP1 := hide hP1; clear hP1 hK1'; have H1 := hide (H.out.tree' hK1 hT1); have HK1 := hide hK1; clear hT1 hK1)
  all_goals
    go_wp2_with fail
    go_ret
    exact ⟨rfl, l', HP1.out, H1.out, HK1.out⟩

set_option maxRecDepth 100000 in
set_option maxHeartbeats 1600000 in
theorem doDel {w : World} {O OT : Nat → Prop} {st t p sg N c vw : Nat} {fs : Bool} {tb : Nat} {did : Nat} {ch : Bool} {l : KVs} (h : SI w O OT st t p sg N c vw fs tb did ch l) (b3 b4 : Nat) (k : ByteArray) (i : Nat) (hi : i < l.length) (hik : l[i].1 = k) (h3 : w.cell? ⟨b3, 0, none⟩ = some (.pointer (some ⟨tb, 0, none⟩))) (h4 : w.cell? ⟨b4, 0, none⟩ = some (.string k)) :
    Calls Tryz.prog 43 #[.pointer (some ⟨b3, 0, none⟩), .pointer (some ⟨b4, 0, none⟩)] w fun e w' => e = .returned (.int .i64 0) ∧ (SI w' O OT st t p sg N c vw fs tb did true (l.eraseIdx i) ∧ Keep OT w w') := by
  obtain ⟨mb, hx, hxs⟩ := h.txp
  have ht0 := hx.c0
  have hs1 := h.obj.c1
  have HC := hide ((ok_del (h.tree.turn (Turn.refl [] w).drew (by simp) (fun x hx => .inl hx) h.ob) k i hi hik))
  have H := hide h
  clear h hx hxs hik hi
  go_enter Tryz.func43, Tryz.ntmps43
  go_wp2_with fail
  go_region_with (go_at_call 44; refine HC.out.mono ?_; rintro e w1 ⟨rfl, hT1, hK1'⟩; have hK1 : Keep OT w w1 := (Keep.of (Turn.refl [] w).drew (by simp)).trans hK1'; clear hK1'; have H1 := hide (H.out.tree' hK1 hT1); have HK1 := hide hK1; clear hT1 hK1)
  all_goals
    go_wp2_with fail
    go_ret
    exact ⟨rfl, H1.out, HK1.out⟩

end Go.Proofs.YthgpjkcgccdldaaGreatDoor

namespace Go.Proofs.YthgpjkcgccdldaaGreatDoor
open Go.RowKit Go.Maps

/-- The notes behind an update. -/
theorem TxAt.note {w w' : World} {tb mb st : Nat} {did : Nat} (h : TxAt w tb mb st did) (hne : tb ≠ mb) {n : Nat} {D : DataW Value} {kl : Lit} {d : DataW Value} (hn : n ≤ did) (ho : w'.ownsMap Tryz.prog 9 formerElem mb (n + 1) (D.put kl d)) (ht : Tidy D) (hg : w.grownBy w' (some mb)) : TxAt w' tb mb st (did + 1) := by
  have hb : w'.heap[tb]? = w.heap[tb]? := hg.block tb h.lt.1 (fun e => hne (Option.some.inj e))
  have hc : ∀ o, w'.cell? ⟨tb, o, none⟩ = w.cell? ⟨tb, o, none⟩ := fun o => World.cell?_of_block (a := ⟨tb, o, none⟩) hb
  refine ⟨(hc _).trans h.c0, (hc _).trans h.c1, (hc _).trans h.c2, fun o => (World.frozen?_of_block (a := ⟨tb, o, none⟩) hb).trans (h.fz o), n + 1, _, by omega, ho, fun _ => ?_⟩
  rw [size_put ht d]
  split
  · rename_i hh
    by_cases h0 : 0 < Maps.size D
    · exact h0
    · exfalso
      cases D with
      | map es =>
        have : es = [] := by
          have : es.length = 0 := by simpa [Maps.size] using h0
          exact List.eq_nil_of_length_eq_zero this
        subst this
        simp [has] at hh
      | _ => simp [has] at hh
  · omega

/-- Room for another note. -/
theorem StoreIn.tx' {w : World} {O OT : Nat → Prop} {st t p sg N c vw : Nat} {fs : Bool} {tb : Nat} {did : Nat} {ch : Bool} {l : KVs} (h : SI w O OT st t p sg N c vw fs tb did ch l) : ∃ mb, TxAt w tb mb st did ∧ (OT mb ∧ ¬ O mb ∧ tb ≠ mb ∧ mb ≠ st ∧ mb ≠ sg ∧ OT tb ∧ ¬ O tb ∧ tb ≠ st ∧ tb ≠ sg) := by
  obtain ⟨mb, h1, h2, h3, h4, h5, h6, h7, h8, h9, h10⟩ := h.txp
  exact ⟨mb, h1, h3, h5, h6, h9, h10, h2, h4, h7, h8⟩

set_option maxRecDepth 100000 in
set_option maxHeartbeats 3200000 in
theorem changeDel {w : World} {O OT : Nat → Prop} {st t p sg N c vw : Nat} {fs : Bool} {tb : Nat} {did : Nat} {ch : Bool} {l : KVs} (h : SI w O OT st t p sg N c vw fs tb did ch l) (b3 b4 : Nat) (k : ByteArray) (hks : k.size ≤ 1000) (i : Nat) (hi : i < l.length) (hik : l[i].1 = k) (hb : OT b3 ∧ OT b4) (hdid : did ≤ 900) (h3 : w.cell? ⟨b3, 0, none⟩ = some (.pointer (some ⟨tb, 0, none⟩))) (h4 : w.cell? ⟨b4, 0, none⟩ = some (.string k)) :
    Calls Tryz.prog 40 #[.pointer (some ⟨tb, 0, none⟩), .string k, .func (.func 43) #[] #[.pointer (some ⟨b3, 0, none⟩), .pointer (some ⟨b4, 0, none⟩)]] w fun e w' => e = .returned (.int .i64 0) ∧ (SI w' O OT st t p sg N c vw fs tb (did + 1) true (l.eraseIdx i) ∧ Keep O w w') := by
  obtain ⟨mb, hx, hxs⟩ := h.tx'
  have ht0 := hx.c0
  have hs1 := h.obj.c1
  have HG := hide (ok_get h.tree k)
  have H := hide h
  have hbl : b3 < w.heap.size ∧ b4 < w.heap.size := ⟨lt_of_cell h3, lt_of_cell h4⟩
  have hks : k.size ≤ 1000 := by exact hks
  have hz := zero133
  clear h hx
  go_enter Tryz.func40, Tryz.ntmps40
  go_wp2_with fail
  refine HG.out.mono ?_
  rintro e w1 ⟨val, f, rfl, _, hT1, hK1⟩
  have h1 := H.out.tree' hK1 hT1
  have H1 := hide h1
  have HK1 := hide hK1
  have h31 := (World.cell?_of_block (a := ⟨b3, 0, none⟩) (hK1.block hb.1 hbl.1)).trans h3
  have h41 := (World.cell?_of_block (a := ⟨b4, 0, none⟩) (hK1.block hb.2 hbl.2)).trans h4
  have HD := hide (doDel h1 b3 b4 k i hi hik h31 h41)
  have ho : ∀ w' : World, Keep OT w w' → w.heap.size ≤ w'.heap.size := fun w' h => h.size
  clear h1 hT1 hK1 h31 h41  ho hik hi
  go_wp2_with fail
  refine HD.out.mono ?_
  rintro e w2 ⟨rfl, h2, hK2⟩
  have hK2' := HK1.out.trans hK2
  obtain ⟨mb2, hx2, hxs2⟩ := h2.tx'
  obtain ⟨n, D, hn, hM, _⟩ := hx2.map
  obtain ⟨vv, ps, hlook, hvv⟩ := hM.look_ok law9 Tryz.underlying101 (zero133 w2) (former_some ⟨#[]⟩ false) (key9 hks)
  obtain ⟨fs', fb', rfl⟩ := former_form hvv
  have hm1 := hx2.c1
  have H2 := hide h2
  have HK2 := hide hK2'
  have HX2 := hide hx2
  have HM := hide hM
  have hTa : Turn [] w2 (w2.alloc (.cells #[.string fs', .bool fb'] 133)) := (Turn.refl [] w2).alloc _
  have H3 := hide (h2.turn0 hTa)
  have HX3 := hide (hx2.same (hTa.block tb hx2.lt.1 (by simp)) (hTa.block mb2 hx2.lt.2 (by simp)))
  have hm3 := HX3.out.c1
  by_cases hhas : has D (.string k.data.toList) = true
  · rw [hhas] at hlook
    clear h2 hK2 hK2' hx2 hM hvv
    go_wp2_with fail
    go_ret
    have hX : TxAt _ tb mb2 st (did + 1) := ⟨HX3.out.c0, HX3.out.c1, HX3.out.c2, HX3.out.fz, n, D, by omega, HM.out.alloc _, fun _ => by
      by_cases h0 : 0 < Maps.size D
      · exact h0
      · exfalso
        cases D with
        | map es =>
          have : es = [] := by
            have : es.length = 0 := by simpa [Maps.size] using h0
            exact List.eq_nil_of_length_eq_zero this
          subst this
          simp [has] at hhas
        | _ => simp [has] at hhas⟩
    obtain ⟨hS, hK⟩ := H3.out.noted (did' := did + 1) (Turn.refl [mb2] _) hxs2 hX
    exact ⟨rfl, hS, (HK2.out.less H.out.sub).trans ((Keep.of hTa (by simp)).trans hK)⟩
  · have hhf : has D (.string k.data.toList) = false := by simpa using hhas
    rw [hhf] at hlook
    have HTd := hide (hM.tidy law9)
    have hUp : Hid (∀ w5 : World, Turn [] w2 w5 → ∃ w6, (Instr.mapUpdate 101 (.map (some mb2)) (.string k) (.agg #[.string val, .bool f])).run Tryz.prog w5 = .ok () w6 ∧ w5.cell? ⟨tb, 1, none⟩ = some (.map (some mb2)) ∧ (fun w' => SI w' O OT st t p sg N c vw fs tb (did + 1) true (l.eraseIdx i) ∧ Keep O w w') w6) := fun w5 hT5 => by
      have hM5 := ownsMap_block hM (hT5.block mb2 hx2.lt.2 (by simp))
      have hX5 := hx2.same (hT5.block tb hx2.lt.1 (by simp)) (hT5.block mb2 hx2.lt.2 (by simp))
      obtain ⟨w6, hrun, hown, hg⟩ := hM5.update law9 Tryz.underlying101 (by unfold maxLen; omega) (key9 hks) (former_some val f)
      obtain ⟨hS, hK⟩ := (h2.turn0 hT5).noted (did' := did + 1) (turn_of_grown hg) hxs2 (hX5.note hxs2.2.2.1 hn hown (hM.tidy law9) hg)
      exact ⟨w6, hrun, hX5.c1, hS, (hK2'.less H.out.sub).trans ((Keep.of hT5 (by simp)).trans hK)⟩
    clear h2 hK2 hK2' hx2 hM hvv
    go_wp2_with fail
    go_region_with (go_at_call 65; refine (sclone_any k _ (by omega)).mono ?_; rintro e w5 ⟨rfl, hT5⟩; obtain ⟨w6, hrun, hm5, hfin⟩ := hUp.out w5 (hTa.trans (((Turn.refl [] _).drew).trans hT5)); have HFin := hide hfin; clear hT5 hfin)
    all_goals
      go_wp2_with fail
      go_ret
      exact ⟨rfl, HFin.out⟩

set_option maxRecDepth 100000 in
set_option maxHeartbeats 3200000 in
theorem changePut {w : World} {O OT : Nat → Prop} {st t p sg N c vw : Nat} {fs : Bool} {tb : Nat} {did : Nat} {ch : Bool} {l : KVs} (h : SI w O OT st t p sg N c vw fs tb did ch l) (b3 b4 b5 : Nat) (k v : ByteArray) (hk : k.size = 1) (hv : v.size ≤ 2) (hroom : ∀ l', IsPut l k v l' → l'.length ≤ 20) (hb : OT b3 ∧ OT b4 ∧ OT b5) (hdid : did ≤ 900) (h3 : w.cell? ⟨b3, 0, none⟩ = some (.pointer (some ⟨tb, 0, none⟩))) (h4 : w.cell? ⟨b4, 0, none⟩ = some (.string k)) (h5 : w.cell? ⟨b5, 0, none⟩ = some (.string v)) :
    Calls Tryz.prog 40 #[.pointer (some ⟨tb, 0, none⟩), .string k, .func (.func 41) #[] #[.pointer (some ⟨b3, 0, none⟩), .pointer (some ⟨b4, 0, none⟩), .pointer (some ⟨b5, 0, none⟩)]] w fun e w' => e = .returned (.int .i64 0) ∧ (∃ l', IsPut l k v l' ∧ SI w' O OT st t p sg N c vw fs tb (did + 1) true l' ∧ Keep O w w') := by
  obtain ⟨mb, hx, hxs⟩ := h.tx'
  have ht0 := hx.c0
  have hs1 := h.obj.c1
  have HG := hide (ok_get h.tree k)
  have H := hide h
  have hbl : b3 < w.heap.size ∧ b4 < w.heap.size ∧ b5 < w.heap.size := ⟨lt_of_cell h3, lt_of_cell h4, lt_of_cell h5⟩
  have hks : k.size ≤ 1000 := by omega
  have hz := zero133
  clear h hx
  go_enter Tryz.func40, Tryz.ntmps40
  go_wp2_with fail
  refine HG.out.mono ?_
  rintro e w1 ⟨val, f, rfl, _, hT1, hK1⟩
  have h1 := H.out.tree' hK1 hT1
  have H1 := hide h1
  have HK1 := hide hK1
  have h31 := (World.cell?_of_block (a := ⟨b3, 0, none⟩) (hK1.block hb.1 hbl.1)).trans h3
  have h41 := (World.cell?_of_block (a := ⟨b4, 0, none⟩) (hK1.block hb.2.1 hbl.2.1)).trans h4
  have h51 := (World.cell?_of_block (a := ⟨b5, 0, none⟩) (hK1.block hb.2.2 hbl.2.2)).trans h5
  have HD := hide (doPut h1 b3 b4 b5 k v hk hv hroom h31 h41 h51)
  have ho : ∀ w' : World, Keep OT w w' → w.heap.size ≤ w'.heap.size := fun w' h => h.size
  clear h1 hT1 hK1 h31 h41 h51 ho hroom
  go_wp2_with fail
  refine HD.out.mono ?_
  rintro e w2 ⟨rfl, l', hP, h2, hK2⟩
  have hK2' := HK1.out.trans hK2
  obtain ⟨mb2, hx2, hxs2⟩ := h2.tx'
  obtain ⟨n, D, hn, hM, _⟩ := hx2.map
  obtain ⟨vv, ps, hlook, hvv⟩ := hM.look_ok law9 Tryz.underlying101 (zero133 w2) (former_some ⟨#[]⟩ false) (key9 hks)
  obtain ⟨fs', fb', rfl⟩ := former_form hvv
  have hm1 := hx2.c1
  have H2 := hide h2
  have HK2 := hide hK2'
  have HX2 := hide hx2
  have HM := hide hM
  have hTa : Turn [] w2 (w2.alloc (.cells #[.string fs', .bool fb'] 133)) := (Turn.refl [] w2).alloc _
  have H3 := hide (h2.turn0 hTa)
  have HX3 := hide (hx2.same (hTa.block tb hx2.lt.1 (by simp)) (hTa.block mb2 hx2.lt.2 (by simp)))
  have hm3 := HX3.out.c1
  by_cases hhas : has D (.string k.data.toList) = true
  · rw [hhas] at hlook
    clear h2 hK2 hK2' hx2 hM hvv
    go_wp2_with fail
    go_ret
    have hX : TxAt _ tb mb2 st (did + 1) := ⟨HX3.out.c0, HX3.out.c1, HX3.out.c2, HX3.out.fz, n, D, by omega, HM.out.alloc _, fun _ => by
      by_cases h0 : 0 < Maps.size D
      · exact h0
      · exfalso
        cases D with
        | map es =>
          have : es = [] := by
            have : es.length = 0 := by simpa [Maps.size] using h0
            exact List.eq_nil_of_length_eq_zero this
          subst this
          simp [has] at hhas
        | _ => simp [has] at hhas⟩
    obtain ⟨hS, hK⟩ := H3.out.noted (did' := did + 1) (Turn.refl [mb2] _) hxs2 hX
    exact ⟨rfl, l', hP, hS, (HK2.out.less H.out.sub).trans ((Keep.of hTa (by simp)).trans hK)⟩
  · have hhf : has D (.string k.data.toList) = false := by simpa using hhas
    rw [hhf] at hlook
    have HTd := hide (hM.tidy law9)
    have hUp : Hid (∀ w5 : World, Turn [] w2 w5 → ∃ w6, (Instr.mapUpdate 101 (.map (some mb2)) (.string k) (.agg #[.string val, .bool f])).run Tryz.prog w5 = .ok () w6 ∧ w5.cell? ⟨tb, 1, none⟩ = some (.map (some mb2)) ∧ (fun w' => ∃ l', IsPut l k v l' ∧ SI w' O OT st t p sg N c vw fs tb (did + 1) true l' ∧ Keep O w w') w6) := fun w5 hT5 => by
      have hM5 := ownsMap_block hM (hT5.block mb2 hx2.lt.2 (by simp))
      have hX5 := hx2.same (hT5.block tb hx2.lt.1 (by simp)) (hT5.block mb2 hx2.lt.2 (by simp))
      obtain ⟨w6, hrun, hown, hg⟩ := hM5.update law9 Tryz.underlying101 (by unfold maxLen; omega) (key9 hks) (former_some val f)
      obtain ⟨hS, hK⟩ := (h2.turn0 hT5).noted (did' := did + 1) (turn_of_grown hg) hxs2 (hX5.note hxs2.2.2.1 hn hown (hM.tidy law9) hg)
      exact ⟨w6, hrun, hX5.c1, l', hP, hS, (hK2'.less H.out.sub).trans ((Keep.of hT5 (by simp)).trans hK)⟩
    clear h2 hK2 hK2' hx2 hM hvv
    go_wp2_with fail
    go_region_with (go_at_call 65; refine (sclone_any k _ (by omega)).mono ?_; rintro e w5 ⟨rfl, hT5⟩; obtain ⟨w6, hrun, hm5, hfin⟩ := hUp.out w5 (hTa.trans (((Turn.refl [] _).drew).trans hT5)); have HFin := hide hfin; clear hT5 hfin)
    all_goals
      go_wp2_with fail
      go_ret
      exact ⟨rfl, HFin.out⟩

set_option maxRecDepth 100000 in
set_option maxHeartbeats 1600000 in
theorem xput {w : World} {O : Nat → Prop} {st N c vw : Nat} {fs : Bool} {tb did : Nat} {ch : Bool} {l : KVs} (h : StoreOk w O st N c vw fs (some tb) did ch l) (k v : ByteArray) (hk : k.size = 1) (hv : v.size ≤ 2) (hroom : ∀ l', IsPut l k v l' → l'.length ≤ 20) (hdid : did ≤ 900) :
    Calls Tryz.prog 13 #[.pointer (some ⟨tb, 0, none⟩), .string k, .string v] w fun e w' => e = .returned (.int .i64 0) ∧ ∃ l', IsPut l k v l' ∧ StoreOk w' O st N c vw fs (some tb) (did + 1) true l' ∧ Keep O w w' := by
  obtain ⟨OT, t, p, sg, h⟩ := h
  have hTa : Turn [] w (((w.alloc (.cells #[.pointer (some ⟨tb, 0, none⟩)] 32)).alloc (.cells #[.string k] 9)).alloc (.cells #[.string v] 9)) := (((Turn.refl [] w).alloc _).alloc _).alloc _
  have hsz : (((w.alloc (.cells #[.pointer (some ⟨tb, 0, none⟩)] 32)).alloc (.cells #[.string k] 9)).alloc (.cells #[.string v] 9)).heap.size = w.heap.size + 3 := by simp
  have hG := h.grow hTa
  obtain ⟨mb, hx, _⟩ := hG.tx'
  have hx0 := hx.c0
  have e1 : w.heap.size + 1 = (w.alloc (.cells #[.pointer (some ⟨tb, 0, none⟩)] 32)).heap.size := by simp
  have e2 : w.heap.size + 2 = ((w.alloc (.cells #[.pointer (some ⟨tb, 0, none⟩)] 32)).alloc (.cells #[.string k] 9)).heap.size := by simp
  have h3 : (((w.alloc (.cells #[.pointer (some ⟨tb, 0, none⟩)] 32)).alloc (.cells #[.string k] 9)).alloc (.cells #[.string v] 9)).cell? ⟨w.heap.size, 0, none⟩ = some (.pointer (some ⟨tb, 0, none⟩)) := Lib.cell?_alloc_some _ (Lib.cell?_alloc_some _ (World.cell?_alloc_at _ _ _ _ rfl))
  have h4 : (((w.alloc (.cells #[.pointer (some ⟨tb, 0, none⟩)] 32)).alloc (.cells #[.string k] 9)).alloc (.cells #[.string v] 9)).cell? ⟨w.heap.size + 1, 0, none⟩ = some (.string k) := by rw [e1]; exact Lib.cell?_alloc_some _ (World.cell?_alloc_at _ _ _ _ rfl)
  have h5 : (((w.alloc (.cells #[.pointer (some ⟨tb, 0, none⟩)] 32)).alloc (.cells #[.string k] 9)).alloc (.cells #[.string v] 9)).cell? ⟨w.heap.size + 2, 0, none⟩ = some (.string v) := by rw [e2]; exact World.cell?_alloc_at _ _ _ _ rfl
  have HC := hide (changePut hG w.heap.size (w.heap.size + 1) (w.heap.size + 2) k v hk hv hroom ⟨.inr (by omega), .inr (by omega), .inr (by omega)⟩ hdid h3 h4 h5)
  have HK := hide (Keep.of (O := O) hTa (by simp))
  have hmf : ∀ (fn : Fn) (first cap : Array Value) (w : World), (Instr.makeFunc fn first cap).run Tryz.prog w = .ok (.func fn first cap) w := fun _ _ _ _ => rfl
  clear h hG hx hTa hroom e1 e2 hsz
  go_enter Tryz.func13, Tryz.ntmps13
  go_wp2_with fail
  refine (isOver_no hx0).mono ?_
  rintro e w1 ⟨rfl, rfl⟩
  go_wp2_with fail
  refine HC.out.mono ?_
  rintro e w2 ⟨rfl, l', hP, h2, hK2⟩
  have H2 := hide h2
  have HP := hide hP
  have HK2 := hide (HK.out.trans hK2)
  clear h2 hP hK2
  go_wp2_with fail
  go_ret
  exact ⟨rfl, l', HP.out, ⟨_, t, p, sg, H2.out⟩, HK2.out⟩

set_option maxRecDepth 100000 in
set_option maxHeartbeats 1600000 in
theorem xdel {w : World} {O : Nat → Prop} {st N c vw : Nat} {fs : Bool} {tb did : Nat} {ch : Bool} {l : KVs} (h : StoreOk w O st N c vw fs (some tb) did ch l) (k : ByteArray) (hks : k.size ≤ 1000) (i : Nat) (hi : i < l.length) (hik : l[i].1 = k) (hdid : did ≤ 900) :
    Calls Tryz.prog 16 #[.pointer (some ⟨tb, 0, none⟩), .string k] w fun e w' => e = .returned (.int .i64 0) ∧ StoreOk w' O st N c vw fs (some tb) (did + 1) true (l.eraseIdx i) ∧ Keep O w w' := by
  obtain ⟨OT, t, p, sg, h⟩ := h
  have hTa : Turn [] w ((w.alloc (.cells #[.pointer (some ⟨tb, 0, none⟩)] 32)).alloc (.cells #[.string k] 9)) := ((Turn.refl [] w).alloc _).alloc _
  have hsz : ((w.alloc (.cells #[.pointer (some ⟨tb, 0, none⟩)] 32)).alloc (.cells #[.string k] 9)).heap.size = w.heap.size + 2 := by simp
  have hG := h.grow hTa
  obtain ⟨mb, hx, _⟩ := hG.tx'
  have hx0 := hx.c0
  have e1 : w.heap.size + 1 = (w.alloc (.cells #[.pointer (some ⟨tb, 0, none⟩)] 32)).heap.size := by simp
  have h3 : ((w.alloc (.cells #[.pointer (some ⟨tb, 0, none⟩)] 32)).alloc (.cells #[.string k] 9)).cell? ⟨w.heap.size, 0, none⟩ = some (.pointer (some ⟨tb, 0, none⟩)) := Lib.cell?_alloc_some _ (World.cell?_alloc_at _ _ _ _ rfl)
  have h4 : ((w.alloc (.cells #[.pointer (some ⟨tb, 0, none⟩)] 32)).alloc (.cells #[.string k] 9)).cell? ⟨w.heap.size + 1, 0, none⟩ = some (.string k) := by rw [e1]; exact World.cell?_alloc_at _ _ _ _ rfl
  have HC := hide (changeDel hG w.heap.size (w.heap.size + 1) k hks i hi hik ⟨.inr (by omega), .inr (by omega)⟩ hdid h3 h4)
  have HK := hide (Keep.of (O := O) hTa (by simp))
  have hmf : ∀ (fn : Fn) (first cap : Array Value) (w : World), (Instr.makeFunc fn first cap).run Tryz.prog w = .ok (.func fn first cap) w := fun _ _ _ _ => rfl
  clear h hG hx hTa e1 hsz hik hi
  go_enter Tryz.func16, Tryz.ntmps16
  go_wp2_with fail
  refine (isOver_no hx0).mono ?_
  rintro e w1 ⟨rfl, rfl⟩
  go_wp2_with fail
  refine HC.out.mono ?_
  rintro e w2 ⟨rfl, h2, hK2⟩
  have H2 := hide h2
  have HK2 := hide (HK.out.trans hK2)
  clear h2 hK2
  go_wp2_with fail
  go_ret
  exact ⟨rfl, ⟨_, t, p, sg, H2.out⟩, HK2.out⟩

end Go.Proofs.YthgpjkcgccdldaaGreatDoor

namespace Go.Proofs.YthgpjkcgccdldaaGreatDoor
open Go.RowKit Go.Maps

set_option maxRecDepth 100000 in
set_option maxHeartbeats 1600000 in
theorem end_any {w : World} {st p t c vw sg tb mb did : Nat} (h : StAt w st p t (some tb) c vw sg) (hx : TxAt w tb mb st did) (hne : tb ≠ st) :
    Calls Tryz.prog 47 #[.pointer (some ⟨tb, 0, none⟩)] w fun e w' => e = .returned (.tuple #[]) ∧ StAt w' st p t none c vw sg ∧ Turn [st, tb] w w' := by
  have h0 := hx.c0
  have h1 := hx.c1
  have h2 := hx.c2
  have f0 := hx.fz 0
  have f1 := hx.fz 1
  have f2 := hx.fz 2
  have s2 := h.c2
  have g2 := h.fz 2
  have hz := zero103
  have HS : Hid (StAt (w.setCell ⟨st, 2, none⟩ (.pointer none)) st p t none c vw sg) := h.set (tx' := none) 2 _ (by omega) rfl rfl rfl rfl
  have hsl := h.lt
  clear h hx
  go_enter Tryz.func47, Tryz.ntmps47
  go_wp2_with fail
  go_end0
  have hTs : Turn [tb] (w.setCell ⟨st, 2, none⟩ (.pointer none)) ((((w.setCell ⟨st, 2, none⟩ (.pointer none)).setCell ⟨tb, 0, none⟩ (.pointer none)).setCell ⟨tb, 1, none⟩ (.map none)).setCell ⟨tb, 2, none⟩ (.bool false)) := (((Turn.refl [tb] _).setCell (List.mem_singleton.2 rfl) _ _).setCell (List.mem_singleton.2 rfl) _ _).setCell (List.mem_singleton.2 rfl) _ _
  refine ⟨rfl, HS.out.same (hTs.block st (by rw [World.size_setCell]; exact hsl) (by simp; exact hne.symm)), (((Turn.refl [st] w).setCell (List.mem_singleton.2 rfl) 2 (.pointer none)).mono (by simp)).trans (hTs.mono (by simp))⟩

set_option maxRecDepth 100000 in
set_option maxHeartbeats 1600000 in
theorem commitm {w : World} {O OT : Nat → Prop} {st t p sg N c vw : Nat} {fs : Bool} {tb did : Nat} {l : KVs} (h : SI w O OT st t p sg N c vw fs tb did true l) (hc : c < 100) :
    Calls Tryz.prog 45 #[.pointer (some ⟨tb, 0, none⟩)] w fun e w' => e = .returned (.int .i64 0) ∧ TreeOk w' OT t p N (c + 1) false l ∧ Keep OT w w' := by
  obtain ⟨mb, hx, hxs⟩ := h.txp
  have h0 := hx.c0
  have HD := hide (xdead h)
  clear h hx hxs
  go_enter Tryz.func45, Tryz.ntmps45
  go_wp2_with fail
  refine HD.out.mono ?_
  rintro e w1 ⟨rfl, h1, hK1⟩
  obtain ⟨mb1, hx1, hxs1⟩ := h1.txp
  have h01 := hx1.c0
  have h21 := hx1.c2
  have s11 := h1.obj.c1
  have HC := hide (ok_commit h1.tree hc)
  have HK1 := hide hK1
  clear h1 hK1 hx1 hxs1
  go_wp2_with fail
  refine HC.out.mono ?_
  rintro e w2 ⟨rfl, hT2, hK2⟩
  have HT2 := hide hT2
  have HK2 := hide (HK1.out.trans hK2)
  clear hT2 hK2
  go_wp2_with fail
  go_ret
  exact ⟨rfl, HT2.out, HK2.out⟩

/-- A new sight, and the transaction is over. -/
theorem com_tail {w w2 w3 w5 : World} {O OT : Nat → Prop} {st t p sg N c vw sg' : Nat} {fs : Bool} {tb did did' : Nat} {ch ch' : Bool} {l : KVs} (h : SI w O OT st t p sg N c vw fs tb did ch l) (hT2 : TreeOk w2 OT t p N (c + 1) ch' l) (hK2 : Keep OT w w2) (hT3 : Turn [st] w2 w3) (hs' : SightAt w3 sg' 0 (.slice none 0 0)) (hsn : w2.heap.size ≤ sg') (hO : StAt w5 st p t none (c + 1) vw sg') (hT5 : Turn [st, tb] w3 w5) (hb : sg' < w3.heap.size) : StoreOk w5 O st N (c + 1) vw true none did' ch' l ∧ Keep O w w5 := by
  obtain ⟨mb, hx, h2, h3, h4, h5, h6, h7, h8, h9, h10⟩ := h.txp
  have hsz := hK2.size
  have hob2 : ∀ x, OT x → x < w2.heap.size := fun x hx => Nat.lt_of_lt_of_le (h.ob x hx) hsz
  have hstl : st < w2.heap.size := hob2 st h.ost
  have htbl : tb < w2.heap.size := hob2 tb h2
  have hT25 : Turn [st, tb] w2 w5 := (hT3.mono (by simp)).trans hT5
  have hb5 : ∀ x, OT x ∨ x = sg' → x < w5.heap.size := fun x hx => by
    have := hT5.size
    rcases hx with hx | hx
    · have := hob2 x hx; have := hT3.size; omega
    · omega
  refine ⟨⟨fun x => OT x ∨ x = sg', t, p, sg', ⟨hT2.turn hT25 (fun x hx => ?_) (fun x hx => ?_) hb5, hO, fun _ => ⟨hs'.same (hT5.block sg' hb (by simp; omega)), .inr rfl, fun ho => ?_⟩, fun x hx => .inl (h.sub x hx), .inl h.ost, h.nst, by omega, trivial, hb5, hb5 sg' (.inr rfl)⟩⟩, (hK2.less h.sub).trans (Keep.of hT25 (fun x hx => ?_))⟩
  · simp at hx
    rcases hx with rfl | rfl
    · exact h.ost
    · exact h2
  · rcases hx with hx | hx
    · exact .inl hx
    · exact .inr (by omega)
  · have := hob2 _ (h.sub _ ho)
    omega
  · simp at hx
    rcases hx with rfl | rfl
    · exact ⟨h.nst, h.tree.not1 h.ost⟩
    · exact ⟨h4, hT2.not1 h2⟩

theorem sight_new (W : World) (n : Nat) (hn : W.heap.size = n) : SightAt (W.alloc (.cells #[.int .u32 0, .int .i32 0, .int .u32 0, .slice none 0 0] 97)) n 0 (.slice none 0 0) := by
  subst hn
  exact ⟨World.cell?_alloc_at _ _ _ _ rfl, World.cell?_alloc_at _ _ _ _ rfl, World.cell?_alloc_at _ _ _ _ rfl, fun o => World.frozen?_alloc_at _ _ _ _ rfl⟩

set_option maxRecDepth 100000 in
set_option maxHeartbeats 3200000 in
theorem xcommit {w : World} {O : Nat → Prop} {st N c vw : Nat} {fs : Bool} {tb did : Nat} {l : KVs} (h : StoreOk w O st N c vw fs (some tb) did true l) (hc : c < 100) (hdid : 0 < did) (hd1 : did ≤ 1000) (did' : Nat) :
    Calls Tryz.prog 19 #[.pointer (some ⟨tb, 0, none⟩)] w fun e w' => e = .returned (.int .i64 0) ∧ StoreOk w' O st N (c + 1) vw true none did' false l ∧ Keep O w w' := by
  obtain ⟨OT, t, p, sg, h⟩ := h
  obtain ⟨mb, hx, h2, h3, h4, h5, h6, h7, h8, h9, h10⟩ := h.txp
  have hx0 := hx.c0
  have HC := hide (commitm h hc)
  have H := hide h
  have HX := hide hx
  have hz := zero97
  clear h hx
  go_enter Tryz.func19, Tryz.ntmps19
  go_wp2_with fail
  refine (isOver_no hx0).mono ?_
  rintro e w1 ⟨rfl, rfl⟩
  go_wp2_with fail
  refine HC.out.mono ?_
  rintro e w2 ⟨rfl, hT2, hK2⟩
  have hx2 := HX.out.same (hK2.block h2 HX.out.lt.1) (hK2.block h3 HX.out.lt.2)
  have ho2 := H.out.obj.same (hK2.block H.out.ost H.out.obj.lt)
  obtain ⟨n, D, hn, hM, hsd⟩ := hx2.map
  have hln := fun ty => hM.len Tryz.underlying101 ty
  have hsz0 : 0 < Maps.size D := hsd hdid
  have hsz1 : Maps.size D ≤ 1000 := by have := hM.size_le; omega
  have hm1 := hx2.c1
  have hb0 := hx2.c0
  have HX2 := hide hx2
  have HO2 := hide ho2
  have HT2 := hide hT2
  have HK2 := hide hK2
  have s3 := ho2.c3
  have z3 := ho2.fz 3
  have HA : Hid (Calls Tryz.prog 46 #[.pointer (some ⟨st, 3, none⟩), .int .i64 1] w2 fun e w' => (∃ v, e = .returned v) ∧ w' = w2.setCell ⟨st, 3, none⟩ (.int .i64 ((c + 1 : Nat) : Int))) := aadd (by omega) s3 z3
  have HO3 : Hid (StAt (w2.setCell ⟨st, 3, none⟩ (.int .i64 ((c + 1 : Nat) : Int))) st p t (some tb) (c + 1) vw sg) := ho2.set (cm' := c + 1) 3 _ (by omega) rfl rfl rfl rfl
  have hT3 : Turn [st] w2 (w2.setCell ⟨st, 3, none⟩ (.int .i64 ((c + 1 : Nat) : Int))) := (Turn.refl [st] w2).setCell (List.mem_singleton.2 rfl) 3 _
  have hz3 : (w2.setCell ⟨st, 3, none⟩ (.int .i64 ((c + 1 : Nat) : Int))).heap.size = w2.heap.size := World.size_setCell ..
  have hx3 := hx2.same (hT3.block tb hx2.lt.1 (by simp; exact h7)) (hT3.block mb hx2.lt.2 (by simp; exact h9))
  have HX3 := hide hx3
  have hb3 := hx3.c0
  have HT3 := hide hT3
  have hstl := ho2.lt
  generalize Maps.size D = sz at *
  clear hT2 hK2 hx2 ho2 hM hsd hx3 hT3 s3 z3
  go_wp2_with fail
  refine HA.out.mono ?_
  rintro e w3 ⟨⟨v, rfl⟩, rfl⟩
  generalize w2.setCell ⟨st, 3, none⟩ (.int .i64 ((c + 1 : Nat) : Int)) = w3 at *
  have s5 := HO3.out.c5
  have z5 := HO3.out.fz 5
  have hTs : Turn [st] w3 (w3.setCell ⟨st, 5, none⟩ (.pointer (some ⟨w3.heap.size, 0, none⟩))) := (Turn.refl [st] w3).setCell (List.mem_singleton.2 rfl) 5 _
  have hz4 : (w3.setCell ⟨st, 5, none⟩ (.pointer (some ⟨w3.heap.size, 0, none⟩))).heap.size = w3.heap.size := World.size_setCell ..
  have hTa : Turn [] (w3.setCell ⟨st, 5, none⟩ (.pointer (some ⟨w3.heap.size, 0, none⟩))) ((w3.setCell ⟨st, 5, none⟩ (.pointer (some ⟨w3.heap.size, 0, none⟩))).alloc (.cells #[.int .u32 0, .int .i32 0, .int .u32 0, .slice none 0 0] 97)) := (Turn.refl [] _).alloc _
  have hT34 : Turn [st] w3 ((w3.setCell ⟨st, 5, none⟩ (.pointer (some ⟨w3.heap.size, 0, none⟩))).alloc (.cells #[.int .u32 0, .int .i32 0, .int .u32 0, .slice none 0 0] 97)) := hTs.then hTa (by simp)
  have hO4 : StAt ((w3.setCell ⟨st, 5, none⟩ (.pointer (some ⟨w3.heap.size, 0, none⟩))).alloc (.cells #[.int .u32 0, .int .i32 0, .int .u32 0, .slice none 0 0] 97)) st p t (some tb) (c + 1) vw w3.heap.size := (HO3.out.set (sg' := w3.heap.size) 5 _ (by omega) rfl rfl rfl rfl).same (hTa.block st (by omega) (by simp))
  have hX4 := HX3.out.same (hT34.block tb HX3.out.lt.1 (by simp; exact h7)) (hT34.block mb HX3.out.lt.2 (by simp; exact h9))
  have hSg : SightAt ((w3.setCell ⟨st, 5, none⟩ (.pointer (some ⟨w3.heap.size, 0, none⟩))).alloc (.cells #[.int .u32 0, .int .i32 0, .int .u32 0, .slice none 0 0] 97)) w3.heap.size 0 (.slice none 0 0) := sight_new _ _ hz4
  have HE := hide (end_any hO4 hX4 h7)
  have HSg := hide hSg
  have HT34 := hide hT34
  have HZ3 := hide hz3
  have hstl3 := HO3.out.lt
  have hbl : w3.heap.size < ((w3.setCell ⟨st, 5, none⟩ (.pointer (some ⟨w3.heap.size, 0, none⟩))).alloc (.cells #[.int .u32 0, .int .i32 0, .int .u32 0, .slice none 0 0] 97)).heap.size := by simp
  have HBl := hide hbl
  clear hTs hTa hT34 hO4 hX4 hSg hz3 hz4 hbl
  go_wp2_with fail
  refine HE.out.mono ?_
  rintro e w5 ⟨rfl, hO5, hT5⟩
  have HFin := hide (com_tail (did' := did') (ch' := false) H.out HT2.out HK2.out (HT3.out.trans HT34.out) HSg.out (by rw [HZ3.out]; exact Nat.le_refl _) hO5 hT5 HBl.out)
  clear hO5 hT5
  go_wp2_with fail
  go_ret
  exact ⟨rfl, HFin.out⟩

end Go.Proofs.YthgpjkcgccdldaaGreatDoor

namespace Go.Proofs.YthgpjkcgccdldaaGreatDoor
open Go.RowKit

theorem pos_ex (l : List ByteArray) (k : ByteArray) (h : Rises l) : ∃ i, IsPos l k i := by
  induction l with
  | nil => exact ⟨0, Nat.le_refl _, fun m hm => absurd hm (Nat.not_lt_zero _), fun m hm => absurd hm (Nat.not_lt_zero _)⟩
  | cons a l ih =>
    have hr := List.pairwise_cons.1 h
    by_cases hk : klt a k
    · obtain ⟨i, h1, h2, h3⟩ := ih hr.2
      refine ⟨i + 1, Nat.succ_le_succ h1, fun m hm hmi => ?_, fun m hm hmi => ?_⟩
      · cases m with
        | zero => exact hk
        | succ m => exact h2 m (by simpa using hm) (by omega)
      · cases m with
        | zero => omega
        | succ m => exact h3 m (by simpa using hm) (by omega)
    · refine ⟨0, Nat.zero_le _, fun m _ hm => absurd hm (Nat.not_lt_zero _), fun m hm _ => ?_⟩
      cases m with
      | zero => exact hk
      | succ m =>
        intro e
        have hm' : m < l.length := by simpa using hm
        exact hk (klt_trans (hr.1 _ (List.getElem_mem hm')) e)

/-- The law's Del. -/
def lawDel (l : KVs) (k : ByteArray) : KVs := l.filter fun x => !decide (x.1 = k)
theorem del_absent {l : KVs} {k : ByteArray} (h : ∀ x ∈ l, x.1 ≠ k) : lawDel l k = l := by
  unfold lawDel
  rw [List.filter_eq_self]
  intro x hx
  simp [h x hx]
theorem del_stands {l : KVs} {k : ByteArray} (hs : Rises (keysOf l)) {i : Nat} (hi : i < l.length) (hk : l[i].1 = k) : lawDel l k = l.eraseIdx i := by
  induction l generalizing i with
  | nil => exact absurd hi (Nat.not_lt_zero _)
  | cons x l ih =>
    have hr := List.pairwise_cons.1 (show (x.1 :: keysOf l).Pairwise klt from hs)
    cases i with
    | zero =>
      have hx : x.1 = k := hk
      have hn : ∀ y ∈ l, y.1 ≠ k := fun y hy e => by
        have := hr.1 y.1 (List.mem_map.2 ⟨y, hy, rfl⟩)
        rw [hx, e] at this
        exact klt_irrefl k this
      have h1 := del_absent hn
      unfold lawDel at h1 ⊢
      rw [List.filter_cons_of_neg (by simp [hx]), h1]
      rfl
    | succ i =>
      have hi' : i < l.length := by simpa using hi
      have hk' : l[i].1 = k := hk
      have hx : x.1 ≠ k := fun e => by
        have := hr.1 l[i].1 (List.mem_map.2 ⟨l[i], List.getElem_mem hi', rfl⟩)
        rw [e, hk'] at this
        exact klt_irrefl k this
      have h1 := ih hr.2 hi' hk'
      unfold lawDel at h1 ⊢
      rw [List.filter_cons_of_pos (by simp [hx]), h1]
      rfl
theorem keys_erase (l : KVs) (i : Nat) : keysOf (l.eraseIdx i) = (keysOf l).eraseIdx i := by
  induction l generalizing i with
  | nil => rfl
  | cons x l ih =>
    cases i with
    | zero => rfl
    | succ i => exact congrArg (x.1 :: ·) (ih i)
theorem none_stands {l : KVs} {k : ByteArray} (hs : Rises (keysOf l)) {i : Nat} (hp : IsPos (keysOf l) k i) (hn : ¬ Stands l k i) : ∀ x ∈ l, x.1 ≠ k := fun x hx e => by
  obtain ⟨n, hnl, rfl⟩ := List.getElem_of_mem hx
  have hnk : n < (keysOf l).length := by rw [keysOf_length]; exact hnl
  have en := keysOf_get hnl
  by_cases h : n < i
  · have := hp.2.1 n hnk h
    rw [en, e] at this
    exact klt_irrefl k this
  · by_cases hni : n = i
    · subst hni
      exact hn ⟨hnl, e⟩
    · have hil : i < l.length := by omega
      have h1 := hs.get (show i < n by omega) hnk
      rw [en, keysOf_get hil, e] at h1
      have h2 := hp.2.2 i (by rw [keysOf_length]; exact hil) (Nat.le_refl _)
      rw [keysOf_get hil] at h2
      exact h2 h1

/-- The law's Put: behind Del the pair goes where it belongs. -/
theorem law_put {l : KVs} {k v : ByteArray} (hs : Rises (keysOf l)) {j : Nat} (hj : IsPos (keysOf (lawDel l k)) k j) : IsPut l k v ((lawDel l k).take j ++ [(k, v)] ++ (lawDel l k).drop j) := by
  obtain ⟨i, hp⟩ := pos_ex _ k hs
  by_cases hst : Stands l k i
  · obtain ⟨hi, hk⟩ := hst
    have e := del_stands hs hi hk
    have hji : j = i := by
      rw [e, keys_erase] at hj
      refine IsPos.unique hj ⟨?_, fun m hm hmi => ?_, fun m hm him => ?_⟩
      · rw [List.length_eraseIdx, keysOf_length, if_pos hi]
        omega
      · have hml : m < (keysOf l).length := by rw [keysOf_length]; omega
        rw [List.getElem_eraseIdx_of_lt hm hmi]
        exact hp.2.1 m hml hmi
      · have hlen : (keysOf l).length = l.length := keysOf_length l
        have hm2 : m < l.length - 1 := by rw [List.length_eraseIdx, hlen, if_pos hi] at hm; exact hm
        rw [List.getElem_eraseIdx_of_ge hm him]
        exact hp.2.2 (m + 1) (by omega) (by omega)
    subst hji
    refine ⟨j, true, hp, ⟨fun _ => ⟨hi, hk⟩, fun _ => rfl⟩, ?_⟩
    unfold putL
    rw [e, if_pos rfl, List.eraseIdx_eq_take_drop_succ, List.take_append_of_le_length (by rw [List.length_take]; omega), List.take_take, Nat.min_self, List.drop_append_of_le_length (by rw [List.length_take]; omega), List.drop_of_length_le (by rw [List.length_take]; omega), List.nil_append]
  · have e := del_absent (none_stands hs hp hst)
    rw [e] at hj ⊢
    obtain rfl := IsPos.unique hj hp
    refine ⟨j, false, hp, ⟨fun h => (by cases h), fun h => absurd h hst⟩, ?_⟩
    unfold putL
    rw [if_neg (by simp)]
theorem IsPut.unique {l a b : KVs} {k v : ByteArray} (h : IsPut l k v a) (g : IsPut l k v b) : a = b := by
  obtain ⟨i, f, h1, h2, rfl⟩ := h
  obtain ⟨j, f', g1, g2, rfl⟩ := g
  obtain rfl := IsPos.unique h1 g1
  have : f = f' := Bool.eq_iff_iff.2 (h2.trans g2.symm)
  rw [this]

/-- The i-th letter, as a key. -/
def ltr (i : Nat) : ByteArray := ⟨#[UInt8.ofNat (97 + i)]⟩
theorem ltr_size (i : Nat) : (ltr i).size = 1 := rfl
theorem ltr_fin : ∀ i : Fin 20, ∀ j : Fin 20, decide (klt (ltr i) (ltr j)) = decide (i.1 < j.1) := by decide +kernel
theorem ltr_klt {i j : Nat} (hi : i < 20) (hj : j < 20) : klt (ltr i) (ltr j) ↔ i < j := decide_eq_decide.1 (ltr_fin ⟨i, hi⟩ ⟨j, hj⟩)
/-- A row of n letters from the lo-th on. -/
def ltrs (lo n : Nat) : List ByteArray := (List.range' lo n).map ltr
theorem ltrs_len (lo n : Nat) : (ltrs lo n).length = n := by simp [ltrs]
theorem ltrs_get {lo n i : Nat} (h : i < (ltrs lo n).length) : (ltrs lo n)[i] = ltr (lo + i) := by simp [ltrs]
theorem ltrs_rise {lo n : Nat} (h : lo + n ≤ 20) : Rises (ltrs lo n) := by
  refine List.pairwise_iff_getElem.2 fun i j hi hj hij => ?_
  rw [ltrs_get, ltrs_get]
  rw [ltrs_len] at hi hj
  exact (ltr_klt (by omega) (by omega)).2 (by omega)
theorem ltrs_pos {lo n i : Nat} (h : lo + n ≤ 20) (hi : i ≤ n) (hl : lo + i < 20) : IsPos (ltrs lo n) (ltr (lo + i)) i := by
  refine ⟨by rw [ltrs_len]; exact hi, fun m hm hmi => ?_, fun m hm him => ?_⟩
  · rw [ltrs_get]
    exact (ltr_klt (by omega) hl).2 (by omega)
  · rw [ltrs_get]
    rw [ltrs_len] at hm
    intro e
    have := (ltr_klt (by omega) hl).1 e
    omega
/-- A new letter behind the others. -/
theorem put_new {l l' : KVs} {v : ByteArray} {i : Nat} (hk : keysOf l = ltrs 0 i) (hi : i < 20) (h : IsPut l (ltr i) v l') : keysOf l' = ltrs 0 (i + 1) := by
  obtain ⟨j, f, hp, hf, rfl⟩ := h
  have hl : l.length = i := by rw [← keysOf_length, hk, ltrs_len]
  have hq := ltrs_pos (lo := 0) (n := i) (i := i) (by omega) (Nat.le_refl _) (by omega)
  rw [Nat.zero_add, ← hk] at hq
  obtain rfl := IsPos.unique hp hq
  have hf0 : f = false := by
    cases f with
    | false => rfl
    | true =>
      obtain ⟨hj, _⟩ := hf.1 rfl
      omega
  subst hf0
  unfold putL
  rw [if_neg (by simp), List.take_of_length_le (by omega), List.drop_of_length_le (by omega), List.append_nil]
  have e : keysOf (l ++ [(ltr j, v)]) = keysOf l ++ [ltr j] := by simp [keysOf]
  rw [e, hk]
  unfold ltrs
  rw [← List.range'_append_1 (s := 0) (m := j) (n := 1), List.map_append]
  simp
/-- A letter that is there. -/
theorem put_old {l l' : KVs} {v : ByteArray} {n i : Nat} (hk : keysOf l = ltrs 0 n) (hi : i < n) (hn : n ≤ 20) (h : IsPut l (ltr i) v l') : keysOf l' = ltrs 0 n := by
  obtain ⟨j, f, hp, hf, rfl⟩ := h
  have hl : l.length = n := by rw [← keysOf_length, hk, ltrs_len]
  have hq := ltrs_pos (lo := 0) (n := n) (i := i) (by omega) (by omega) (by omega)
  rw [Nat.zero_add, ← hk] at hq
  obtain rfl := IsPos.unique hp hq
  have hj : j < l.length := by omega
  have hlj : l[j].1 = ltr j := by
    rw [← keysOf_get hj]
    have : (keysOf l)[j]'(by rw [keysOf_length]; exact hj) = (ltrs 0 n)[j]'(by rw [ltrs_len]; exact hi) := by simp only [hk]
    rw [this, ltrs_get, Nat.zero_add]
  have hf1 : f = true := hf.2 ⟨hj, hlj⟩
  subst hf1
  rw [← hk]
  unfold putL keysOf
  rw [if_pos rfl, List.map_append, List.map_append, List.map_take, List.map_drop]
  have e : (l.map Prod.fst).drop j = ltr j :: (l.map Prod.fst).drop (j + 1) := by
    rw [List.drop_eq_getElem_cons (by rw [List.length_map]; exact hj), List.getElem_map, hlj]
  show (l.map Prod.fst).take j ++ [ltr j] ++ (l.map Prod.fst).drop (j + 1) = l.map Prod.fst
  rw [List.append_assoc, List.singleton_append, ← e, List.take_append_drop]
/-- The first letter is deleted. -/
theorem del_first {l : KVs} {lo n : Nat} (hk : keysOf l = ltrs lo (n + 1)) : ∃ h : 0 < l.length, l[0].1 = ltr lo ∧ keysOf (l.eraseIdx 0) = ltrs (lo + 1) n := by
  have hl : l.length = n + 1 := by rw [← keysOf_length, hk, ltrs_len]
  refine ⟨by omega, ?_, ?_⟩
  · rw [← keysOf_get (by omega)]
    have : (keysOf l)[0]'(by rw [keysOf_length]; omega) = (ltrs lo (n + 1))[0]'(by rw [ltrs_len]; omega) := by simp only [hk]
    rw [this, ltrs_get, Nat.add_zero]
  · rw [keys_erase, hk]
    rfl

end Go.Proofs.YthgpjkcgccdldaaGreatDoor

namespace Go.Proofs.YthgpjkcgccdldaaGreatDoor
open Go.RowKit Go.Maps

set_option maxRecDepth 100000 in
set_option maxHeartbeats 1600000 in
/-- Del of a key: the row without it, in memory of the call's own. -/
theorem ldelete_any (a : Option Addr) (cap : Nat) (l : KVs) (key : ByteArray) (hlen : l.length ≤ 1000) (w : World) (hK : KVsAt w a l) :
    Calls Tryz.prog 18 #[.slice a l.length cap, .string key] w fun e w' => ∃ r, e = .returned r ∧ w'.ownsRow w.heap.size 55 2 r (l.filter fun x => !decide (x.1 = key)).length (flat (kvCells (l.filter fun x => !decide (x.1 = key)))) ∧ Turn [] w w' := by
  have HK := hide hK
  obtain ⟨n, HLn⟩ : ∃ n, Hid (l.length = n) := ⟨_, rfl⟩
  rw [HLn.out] at hlen ⊢
  have HFl : Hid (∀ j (h : j < l.length), (l.take (j + 1)).filter (fun x => !decide (x.1 = key)) = (l.take j).filter (fun x => !decide (x.1 = key)) ++ if l[j].1 = key then [] else [(l[j].1, l[j].2)]) := fun j h => by
    rw [List.take_succ_eq_append_getElem h, List.filter_append]
    congr 1
    by_cases e : l[j].1 = key <;> simp [e]
  have HFn : Hid (∀ j, ((l.take j).filter (fun x => !decide (x.1 = key))).length ≤ n) := fun j => by
    have h1 := List.length_filter_le (fun x : ByteArray × ByteArray => !decide (x.1 = key)) (l.take j)
    have h2 : (l.take j).length ≤ l.length := by rw [List.length_take]; omega
    rw [HLn.out] at h2
    omega
  clear hK
  go_enter Tryz.func18, Tryz.ntmps18
  go_wp2_with fail
  go_loopw [5, 6] (fun r i wr => ∃ j : Nat, j ≤ n ∧ i = .int .i64 (j : Nat) ∧ wr.ownsRow w.heap.size 55 2 r ((l.take j).filter fun x => !decide (x.1 = key)).length (flat (kvCells ((l.take j).filter fun x => !decide (x.1 = key)))) ∧ Turn [] w wr) (fun _ i _ => n - (intOf i).toNat)
  case atStart => exact ⟨0, Nat.zero_le _, rfl, World.ownsRow_nil _ _ _ _, Turn.refl _ _⟩
  case round =>
    obtain ⟨j, hj, rfl, hO, hT⟩ := hrel
    by_cases hlt : j < n
    · have hjl : j < l.length := by rw [HLn.out]; exact hlt
      obtain ⟨b, off, e, hk0, hk1⟩ := (HK.out.turn0 hT).at hjl
      subst e
      have HE := hide (HFl.out j hjl)
      have HO := hide hO
      have HT := hide hT
      have hbd := HFn.out j
      have hsz := hT.size
      have heq := eq_str l[j].1 key
      have HP : Hid (PairsAt (wr.alloc (.cells #[.string l[j].1, .string l[j].2] 55)) (some ⟨wr.heap.size, 0, none⟩) (kvCells [(l[j].1, l[j].2)])) := by
        refine (KVsAt.pairs (l := [(l[j].1, l[j].2)]) (.inr ⟨wr.heap.size, 0, rfl, fun i hi => ?_⟩) :)
        have : i = 0 := by simpa using hi
        subst this
        exact ⟨World.cell?_alloc_at _ _ _ _ rfl, World.cell?_alloc_at _ _ _ _ rfl⟩
      clear hO hT
      generalize (l.take j).filter (fun x => !decide (x.1 = key)) = xs at *
      generalize l[j].1 = jk at *
      generalize l[j].2 = jv at *
      clear hjl
      by_cases hk : jk = key
      · rw [decide_eq_true hk] at heq
        have HE' : Hid ((l.take (j + 1)).filter (fun x => !decide (x.1 = key)) = xs) := by
          show _ = _
          rw [HE.out, if_pos hk, List.append_nil]
        clear HE hk
        go_wp2_with fail
        go_roundw
        case rel => exact ⟨j + 1, by omega, by go_num, by rw [HE'.out]; exact HO.out, HT.out⟩
        case measure => simp [intOf]; omega
      · rw [decide_eq_false hk] at heq
        have HE' : Hid ((l.take (j + 1)).filter (fun x => !decide (x.1 = key)) = xs ++ [(jk, jv)]) := by
          show _ = _
          rw [HE.out, if_neg hk]
        have HOa := hide (own_turn HO.out ((Turn.refl [] wr).alloc (.cells #[.string jk, .string jv] 55)) (by simp))
        have HTa := hide (HT.out.alloc (.cells #[.string jk, .string jv] 55))
        clear HE hk
        go_wp2_with (at_builtin; refine append_pairsT 31 Tryz.underlying31 rfl _ _ rfl w.heap.size u5 xs.length (kvCells xs) rfl HOa.out (some ⟨wr.heap.size, 0, none⟩) 1 1 (kvCells [(jk, jv)]) rfl rfl (by simp) HP.out (kv_one _) (by omega) (by simp; omega) ?_; intro v' w3 hown3 hgrow3 _; have HO3 := hide hown3; have HG3 := hide hgrow3; clear hown3 hgrow3)
        go_roundw
        case rel =>
          refine ⟨j + 1, by omega, by go_num, ?_, HTa.out.grown HG3.out (fun g hg => .inr (HOa.out.lt g hg).1)⟩
          rw [HE'.out, List.length_append, kv_append]
          exact HO3.out
        case measure => simp [intOf]; omega
    · obtain rfl : j = n := by omega
      have HO := hide hO
      have HT := hide hT
      obtain ⟨ra, rc, rfl⟩ := own_form hO
      clear hO hT
      go_wp2_with fail
      go_ret
      have h := HO.out
      rw [← HLn.out, List.take_length] at h
      rw [← HLn.out, List.take_length]
      exact ⟨_, rfl, h, HT.out⟩

end Go.Proofs.YthgpjkcgccdldaaGreatDoor

namespace Go.Proofs.YthgpjkcgccdldaaGreatDoor
open Go.RowKit Go.Maps

theorem less_cmp : ∀ (a b : List UInt8), Op.bytesLess a b = decide (Lib.compareBytes a b = -1)
  | [], [] => by simp [Op.bytesLess, Lib.compareBytes]
  | [], _ :: _ => by simp [Op.bytesLess, Lib.compareBytes]
  | _ :: _, [] => by simp [Op.bytesLess, Lib.compareBytes]
  | x :: a, y :: b => by
    have ih := less_cmp a b
    unfold Op.bytesLess Lib.compareBytes
    by_cases h1 : x < y
    · simp [h1]
    · by_cases h2 : x = y
      · subst h2
        simp [h1, ih]
      · have h3 : y < x := by
          rcases UInt8.lt_or_lt_of_ne h2 with h | h
          · exact absurd h h1
          · exact h
        simp [h1, h2, h3]

theorem less_klt (a b : ByteArray) : Op.bytesLess a.toList b.toList = decide (klt a b) := by
  rw [less_cmp, ByteArray.toList_eq, ByteArray.toList_eq]
  exact decide_eq_decide.2 Iff.rfl

set_option maxRecDepth 100000 in
set_option maxHeartbeats 1600000 in
theorem lfindl_any (a : Option Addr) (cap : Nat) (l : KVs) (key : ByteArray) (n : Nat) (hn : l.length = n) (hlen : n ≤ 1000) (hs : Rises (keysOf l)) (w : World) (hK : KVsAt w a l) :
    Calls Tryz.prog 28 #[.slice a n cap, .string key] w fun e w' => ∃ i : Nat, e = .returned (.int .i64 (i : Nat)) ∧ IsPos (keysOf l) key i ∧ w' = w := by
  have HK := hide hK
  have HLn := hide hn
  have HS := hide hs
  clear hK hn hs
  go_enter Tryz.func28, Tryz.ntmps28
  go_wp2_with fail
  go_loop [5] (fun i => ∃ j : Nat, j ≤ n ∧ i = .int .i64 (j : Nat) ∧ ∀ m (h : m < l.length), m < j → klt l[m].1 key) (fun i => n - (intOf i).toNat)
  case atStart => exact ⟨0, Nat.zero_le _, rfl, fun m h hm => absurd hm (by omega)⟩
  case round =>
    obtain ⟨j, hj, rfl, hb⟩ := hrel
    have HB := hide hb
    by_cases hlt : j < n
    · have hjl : j < l.length := by rw [HLn.out]; exact hlt
      obtain ⟨b, off, e, hk0, hk1⟩ := HK.out.at hjl
      subst e
      have hle := less_klt l[j].1 key
      by_cases hkl : klt l[j].1 key
      · rw [decide_eq_true hkl] at hle
        have HB' : Hid (∀ m (h : m < l.length), m < j + 1 → klt l[m].1 key) := fun m h hm => by
          by_cases e : m = j
          · subst e; exact hkl
          · exact HB.out m h (by omega)
        clear hb hkl
        generalize l[j].1 = jk at *
        clear hk1 hjl
        go_wp2_with fail
        go_round
        case rel => exact ⟨j + 1, by omega, by go_num, HB'.out⟩
        case measure => simp [intOf]; omega
      · rw [decide_eq_false hkl] at hle
        have HPos : Hid (IsPos (keysOf l) key j) := by
          refine ⟨by rw [keysOf_length]; omega, fun m hm hmj => ?_, fun m hm hjm => ?_⟩
          · rw [keysOf_length] at hm
            rw [keysOf_get hm]
            exact HB.out m hm hmj
          · rw [keysOf_length] at hm
            rw [keysOf_get hm]
            by_cases e : j = m
            · subst e; exact hkl
            · have := HS.out.get (show j < m by omega) (by rw [keysOf_length]; exact hm)
              rw [keysOf_get hjl, keysOf_get hm] at this
              exact fun h => hkl (klt_trans this h)
        clear hb hkl
        generalize l[j].1 = jk at *
        clear hk1 hjl
        go_wp2_with fail
        go_ret
        exact ⟨j, rfl, HPos.out, rfl⟩
    · obtain rfl : j = n := by omega
      have HPos : Hid (IsPos (keysOf l) key j) := by
        refine ⟨by rw [keysOf_length, HLn.out]; omega, fun m hm hmj => ?_, fun m hm hjm => ?_⟩
        · rw [keysOf_length] at hm
          rw [keysOf_get hm]
          exact HB.out m hm hmj
        · rw [keysOf_length, HLn.out] at hm
          omega
      clear hb
      go_wp2_with fail
      go_ret
      exact ⟨j, rfl, HPos.out, rfl⟩

end Go.Proofs.YthgpjkcgccdldaaGreatDoor

namespace Go.Proofs.YthgpjkcgccdldaaGreatDoor
open Go.RowKit Go.Maps

/-- A row of pairs of the call's own, as a slice with room. -/
theorem own_room {w : World} {base : Nat} {v : Value} {n : Nat} {l : List (Value × Value)} (h : w.ownsRow base 55 2 v n (flat l)) : ∃ a cap, v = .slice a n cap ∧ n = l.length ∧ n ≤ cap ∧ (a = none → cap = 0) ∧ PairsAt w a l ∧ ∀ x, a = some x → base ≤ x.block ∧ x.block < w.heap.size := by
  obtain ⟨a, cap, rfl, hn, h1, h2, h3⟩ := own_pairs h
  refine ⟨a, cap, by rw [hn], hn, ?_, h1, h2, h3⟩
  obtain ⟨_, ⟨e, h0⟩ | ⟨g, cap', cur, e, _, _, hnc, _⟩⟩ := h
  · injection e with e1 e2 e3
    omega
  · injection e with e1 e2 e3
    omega
theorem own_base {w : World} {b b' e size n : Nat} {v : Value} {xs : List Value} (h : w.ownsRow b e size v n xs) (hb : b' ≤ b) : w.ownsRow b' e size v n xs := by
  obtain ⟨hl, h | ⟨g, cap, cur, e1, h1, rest⟩⟩ := h
  · exact ⟨hl, .inl h⟩
  · exact ⟨hl, .inr ⟨g, cap, cur, e1, Nat.le_trans hb h1, rest⟩⟩

/-- Where pairs lie that are cut off behind the k-th. -/
def hiP (a : Option Addr) (c k : Nat) : Option Addr := if c = k then a else a.map (·.add (k * 2))
set_option maxRecDepth 100000 in
theorem pslice_lo (a : Option Addr) (n c k : Nat) (w : World) (hk : k ≤ c) : (Instr.slice 31 (.slice a n c) none (some (.int .i64 (k : Nat))) none).run Tryz.prog w = .ok (.slice a k c) w := by
  rw [run_slice_h w 31 a n c (by kernel_rfl) .i64 k (by omega) (by omega)]
  have hs : (sizeOf (Tryz.prog.elem 31)).run Tryz.prog w = .ok 2 w := by go_simp
  rw [hs]
  simp only [Result.andThen, sliced, Int.toNat_natCast, Nat.zero_mul, Nat.sub_zero]
  congr 2
  split
  · rfl
  · cases a <;> rfl
set_option maxRecDepth 100000 in
theorem pslice_hi (a : Option Addr) (n c k : Nat) (w : World) (hk : k ≤ n) : (Instr.slice 31 (.slice a n c) (some (.int .i64 (k : Nat))) none none).run Tryz.prog w = .ok (.slice (hiP a c k) (n - k) (c - k)) w := by
  rw [run_slice_l w 31 a n c (by kernel_rfl) .i64 k (by omega) (by omega)]
  have hs : (sizeOf (Tryz.prog.elem 31)).run Tryz.prog w = .ok 2 w := by go_simp
  rw [hs]
  simp only [Result.andThen, sliced, Int.toNat_natCast, hiP]
theorem hiP_none {a : Option Addr} {c k : Nat} (h : a = none → c = 0) (e : hiP a c k = none) : c - k = 0 := by
  cases a with
  | none => rw [h rfl]; omega
  | some x =>
    unfold hiP at e
    split at e
    · cases e
    · cases e
theorem PairsAt.hi {w : World} {a : Option Addr} {l : List (Value × Value)} (h : PairsAt w a l) (c k : Nat) (hc : l.length ≤ c) : PairsAt w (hiP a c k) (l.drop k) := by
  unfold hiP
  split
  · exact .inl (List.drop_of_length_le (by omega))
  · rcases h with rfl | ⟨b, off, rfl, h⟩
    · exact .inl (by simp)
    · have hd := PairsAt.drop (.inr ⟨b, off, rfl, h⟩) k
      rw [Option.map_some]
      unfold Addr.add
      split
      · rename_i h0
        rw [h0] at hd
        exact hd
      · exact hd

theorem one_pair (w : World) (key value : ByteArray) : PairsAt (w.alloc (.cells #[.string key, .string value] 55)) (some ⟨w.heap.size, 0, none⟩) (kvCells [(key, value)]) := by
  refine (KVsAt.pairs (l := [(key, value)]) (.inr ⟨w.heap.size, 0, rfl, fun i hi => ?_⟩) :)
  have : i = 0 := by simpa using hi
  subst this
  exact ⟨World.cell?_alloc_at _ _ _ _ rfl, World.cell?_alloc_at _ _ _ _ rfl⟩

set_option maxRecDepth 100000 in
set_option maxHeartbeats 3200000 in
/-- The law's Put: the row without the key, cut where the key belongs, the pair between. -/
theorem lputl_any (a : Option Addr) (cap : Nat) (l : KVs) (key value : ByteArray) (hlen : l.length ≤ 900) (hs : Rises (keysOf l)) (w : World) (hK : KVsAt w a l) :
    Calls Tryz.prog 15 #[.slice a l.length cap, .string key, .string value] w fun e w' => ∃ r i, e = .returned r ∧ IsPos (keysOf (lawDel l key)) key i ∧ w'.ownsRow w.heap.size 55 2 r ((lawDel l key).take i ++ [(key, value)] ++ (lawDel l key).drop i).length (flat (kvCells ((lawDel l key).take i ++ [(key, value)] ++ (lawDel l key).drop i))) ∧ Turn [] w w' := by
  have hR : Rises (keysOf (lawDel l key)) := by
    have : (keysOf (lawDel l key)).Sublist (keysOf l) := (List.filter_sublist (l := l)).map Prod.fst
    exact List.Pairwise.sublist this hs
  have hll : (lawDel l key).length ≤ l.length := List.length_filter_le _ _
  have HDel := hide (ldelete_any a cap l key (by omega) w hK)
  obtain ⟨K, hKn⟩ : ∃ K, K = l.length := ⟨_, rfl⟩
  rw [← hKn] at hlen hll HDel ⊢
  rw [show (l.filter fun x => !decide (x.1 = key)) = lawDel l key from rfl] at HDel
  generalize hd : lawDel l key = d at *
  clear hd hKn hs hK
  go_enter Tryz.func15, Tryz.ntmps15
  go_wp2_with fail
  refine HDel.out.mono ?_
  rintro e w1 ⟨v1, rfl, hO1, hT1⟩
  obtain ⟨da, dc, rfl, -, hdc, hdn, hdp, hdb⟩ := own_room hO1
  have HFind := hide (lfindl_any da dc d key d.length rfl (by omega) hR w1 hdp.kvs)
  have HT1 := hide hT1
  have HP1 := hide hdp
  obtain ⟨N, hN⟩ : ∃ N, N = d.length := ⟨_, rfl⟩
  rw [← hN] at hll hdc HFind ⊢
  have HNd := hide hN
  clear hO1 hdb hdp hT1 hR hN
  go_wp2_with fail
  refine HFind.out.mono ?_
  rintro e w1' ⟨i, rfl, hi, ew⟩
  obtain rfl : w1 = w1' := ew.symm
  have hin : i ≤ N := by
    have := hi.1
    rw [keysOf_length, ← HNd.out] at this
    exact this
  have HI := hide hi
  have hlo := fun u => pslice_lo da N dc i u (by omega)
  have hhi := fun u => pslice_hi da N dc i u (by omega)
  have HC : Hid ((kvCells d).length ≤ dc) := by show _ ≤ _; rw [kvCells_length, ← HNd.out]; exact hdc
  have HZ := hide (hiP_none (k := i) hdn)
  have HDn := hide hdn
  clear hi hdn
  go_wp2_with (first
    | (at_builtin; refine append_pairsT 31 Tryz.underlying31 rfl _ _ rfl w1.heap.size (.slice none 0 0) 0 [] rfl (World.ownsRow_nil _ _ _ _) da i dc (kvCells (d.take i)) rfl (by rw [kvCells_length, List.length_take, ← HNd.out]; omega) HDn.out (by rw [kv_take]; exact HP1.out.take i) (kv_one _) (by omega) (Nat.le_refl _) ?_
       intro v2 w2 hown2 hgrow2 _
       try simp only [Nat.zero_add, List.nil_append] at hown2
       obtain ⟨oa, oc, rfl, -, hoc, hon, -, hob⟩ := own_room hown2
       have hT2 : Turn [] w1 w2 := (Turn.refl [] w1).grown hgrow2 (by intro k hk; cases hk)
       have HO2 := hide (own_turn hown2 ((Turn.refl [] w2).alloc (.cells #[.string key, .string value] 55)) (by simp))
       have HP := hide (one_pair w2 key value)
       have HS2 := hide hT2.size
       have HT2 := hide (hT2.alloc (.cells #[.string key, .string value] 55))
       have HB2 : Hid (∀ k, (Value.slice oa i oc).ownBlock = some k → w1.heap.size ≤ k) := fun k hk => by
         cases oa with
         | none => cases hk
         | some x =>
           obtain rfl := Option.some.inj hk
           exact (hob x rfl).1
       clear hown2 hgrow2 hoc hon hob hT2)
    | (at_builtin; refine append_pairsT 31 Tryz.underlying31 rfl _ _ rfl w1.heap.size (.slice oa i oc) i (kvCells (d.take i)) rfl HO2.out (some ⟨w2.heap.size, 0, none⟩) 1 1 (kvCells [(key, value)]) rfl rfl (by simp) HP.out (kv_one _) (by omega) (by have := HS2.out; simp; omega) ?_
       intro v3 w3 hown3 hgrow3 _
       obtain ⟨pa, pc, rfl, -, hpc, hpn, -, hpb⟩ := own_room hown3
       have hT3 : Turn [] w1 w3 := HT2.out.grown hgrow3 (fun k hk => .inr (HB2.out k hk))
       have HO3 := hide hown3
       have HT3 := hide hT3
       have HS3 := hide hT3.size
       have HP3 := hide ((HP1.out.turn0 hT3).hi dc i HC.out)
       have HB3 : Hid (∀ k, (Value.slice pa (i + 1) pc).ownBlock = some k → w1.heap.size ≤ k) := fun k hk => by
         cases pa with
         | none => cases hk
         | some x =>
           obtain rfl := Option.some.inj hk
           exact (hpb x rfl).1
       clear hown3 hgrow3 hpc hpn hpb hT3)
    | (at_builtin; refine append_pairsT 31 Tryz.underlying31 rfl _ _ rfl w1.heap.size (.slice pa (i + 1) pc) (i + 1) (kvCells (d.take i) ++ kvCells [(key, value)]) rfl HO3.out (hiP da dc i) (N - i) (dc - i) (kvCells (d.drop i)) rfl (by rw [kvCells_length, List.length_drop, ← HNd.out]) HZ.out (by rw [kv_drop]; exact HP3.out) (kv_one _) (by omega) HS3.out ?_
       intro v4 w4 hown4 hgrow4 _
       obtain ⟨qa, qc, rfl, -⟩ := own_room hown4
       have HO4 := hide hown4
       have HT4 := hide (HT3.out.grown hgrow4 (fun k hk => .inr (HB3.out k hk)))
       clear hown4 hgrow4))
  go_ret
  refine ⟨_, i, rfl, HI.out, ?_, HT1.out.trans HT4.out⟩
  have h := own_base HO4.out HT1.out.size
  rw [List.length_append, List.length_append, List.length_take, List.length_drop, ← HNd.out, kv_append, kv_append]
  have e : min i N + [(key, value)].length + (N - i) = i + 1 + (N - i) := by rw [Nat.min_eq_left hin]; rfl
  rw [e]
  exact h

end Go.Proofs.YthgpjkcgccdldaaGreatDoor

namespace Go.Proofs.YthgpjkcgccdldaaGreatDoor
open Go.RowKit Go.Maps

set_option maxRecDepth 100000 in
set_option maxHeartbeats 6400000 in
theorem lsame_any (w : World) (aa ab : Option Addr) (ca cb : Nat) (l : List (ByteArray × ByteArray)) (hA : KVsAt w aa l) (hB : KVsAt w ab l) (hl : l.length ≤ 1000000) :
    Calls Tryz.prog 25 #[.slice aa l.length ca, .slice ab l.length cb] w fun e w' => e = .returned (.bool true) ∧ Turn [] w w' := by
  have HAll := hide hA
  have Hone := hide hB
  obtain ⟨K, hK⟩ : ∃ K, K = l.length := ⟨_, rfl⟩
  have HK := hide hK
  rw [← hK] at hl ⊢
  have HT0 := hide (Turn.refl [] w)
  clear hA hB hK
  go_enter Tryz.func25, Tryz.ntmps25
  go_wp2_with fail
  go_loopw [5] (fun u5 wr => ∃ (k : Nat), k ≤ K ∧ u5 = .int .i64 (k : Nat) ∧ Hid (Turn [] w wr)) (fun u5 _ => K - (intOf u5).toNat)
  case atStart => exact ⟨0, Nat.zero_le _, rfl, HT0⟩
  case round =>
    obtain ⟨k, hk, rfl, HTz⟩ := hrel
    clear HT0
    by_cases hkl : k < K
    · have hkl2 : k < l.length := by have := HK.out; omega
      obtain ⟨qa, oa, e1, x1, x2⟩ := (HAll.out.turn0 HTz.out).at hkl2
      obtain ⟨qb, ob, e2, y1, y2⟩ := (Hone.out.turn0 HTz.out).at hkl2
      subst e1 e2
      have HTd := hide HTz.out.drew
      generalize l[k].1 = x at *
      generalize l[k].2 = y at *
      have HS : Hid (wr.cell? ⟨qa, oa + k * 2, none⟩ = some (.string x) ∧ wr.cell? ⟨qa, oa + k * 2 + 1, none⟩ = some (.string y) ∧ wr.cell? ⟨qb, ob + k * 2, none⟩ = some (.string x) ∧ wr.cell? ⟨qb, ob + k * 2 + 1, none⟩ = some (.string y)) := ⟨x1, x2, y1, y2⟩
      have hq1z := lt_of_cell x1
      have hq2z := lt_of_cell y1
      clear x1 x2 y1 y2 HAll Hone hkl2
      go_upto_region 6 with fail
      refine wp_region_noPanic ?_
      refine wp_region_held_drew (S := fun W => W.cell? ⟨qa, oa + k * 2, none⟩ = some (.string x) ∧ W.cell? ⟨qa, oa + k * 2 + 1, none⟩ = some (.string y) ∧ W.cell? ⟨qb, ob + k * 2, none⟩ = some (.string x) ∧ W.cell? ⟨qb, ob + k * 2 + 1, none⟩ = some (.string y)) (by kernel_rfl) HS.out (fun hHeld => ?_)
      refine' wpAnyH_take (i := 0) (oi := { dst := some 17, op := Go.Op.move (Go.Operand.tmp 0), type := 31, pos := "law.go:114", after := #[], guard := none }) (v := _) rfl (by kernel_rfl) (by kernel_rfl) (by kernel_rfl) (fun _ _ _ h => h) (Or.inl ⟨by rfl, ?_⟩) (by assumption) ?_
      rotate_left
      · intro w hSw; (try dsimp only at hSw); go_simp <;> with_reducible rfl
      simp only [Act.put, List.setIfInBounds_toArray, List.set_cons_zero, List.set_cons_succ]
      refine' wpAnyH_take (i := 1) (oi := { dst := some 18, op := Go.Op.move (Go.Operand.tmp 5), type := 3, pos := "law.go:114", after := #[], guard := none }) (v := _) rfl (by kernel_rfl) (by kernel_rfl) (by kernel_rfl) (fun _ _ _ h => h) (Or.inl ⟨by rfl, ?_⟩) (by assumption) ?_
      rotate_left
      · intro w hSw; (try dsimp only at hSw); go_simp <;> with_reducible rfl
      simp only [Act.put, List.setIfInBounds_toArray, List.set_cons_zero, List.set_cons_succ]
      refine' wpAnyH_take (i := 2) (oi := { dst := some 19, op := Go.Op.indexAddr 31 (Go.Operand.tmp 17) (Go.Operand.tmp 18), type := 0, pos := "law.go:114", after := #[{ on := 0, ground := Go.Ground.data }, { on := 1, ground := Go.Ground.data }], guard := none }) (v := .pointer (some ⟨qa, oa + k * 2, none⟩)) rfl (by kernel_rfl) (by kernel_rfl) (by kernel_rfl) (fun _ _ _ h => h) (Or.inl ⟨by rfl, ?_⟩) (by assumption) ?_
      · intro w hSw; go_simp
      simp only [Act.put, List.setIfInBounds_toArray, List.set_cons_zero, List.set_cons_succ]
      refine' wpAnyH_take (i := 3) (oi := { dst := some 20, op := Go.Op.load 55 (Go.Operand.tmp 19), type := 55, pos := "law.go:114", after := #[{ on := 2, ground := Go.Ground.data }], guard := none }) (v := .agg #[.string x, .string y]) rfl (by kernel_rfl) (by kernel_rfl) (by kernel_rfl) (fun _ _ _ h => h) (Or.inl ⟨by rfl, ?_⟩) (by assumption) ?_
      · intro w hSw; obtain ⟨z1, z2, z3, z4⟩ := hSw; go_simp
      simp only [Act.put, List.setIfInBounds_toArray, List.set_cons_zero, List.set_cons_succ]
      refine' wpAnyH_take (i := 4) (oi := { dst := some 21, op := Go.Op.move (Go.Operand.tmp 1), type := 31, pos := "law.go:114", after := #[], guard := none }) (v := _) rfl (by kernel_rfl) (by kernel_rfl) (by kernel_rfl) (fun _ _ _ h => h) (Or.inl ⟨by rfl, ?_⟩) (by assumption) ?_
      rotate_left
      · intro w hSw; (try dsimp only at hSw); go_simp <;> with_reducible rfl
      simp only [Act.put, List.setIfInBounds_toArray, List.set_cons_zero, List.set_cons_succ]
      refine' wpAnyH_take (i := 5) (oi := { dst := some 22, op := Go.Op.move (Go.Operand.tmp 5), type := 3, pos := "law.go:114", after := #[], guard := none }) (v := _) rfl (by kernel_rfl) (by kernel_rfl) (by kernel_rfl) (fun _ _ _ h => h) (Or.inl ⟨by rfl, ?_⟩) (by assumption) ?_
      rotate_left
      · intro w hSw; (try dsimp only at hSw); go_simp <;> with_reducible rfl
      simp only [Act.put, List.setIfInBounds_toArray, List.set_cons_zero, List.set_cons_succ]
      refine' wpAnyH_take (i := 6) (oi := { dst := some 23, op := Go.Op.indexAddr 31 (Go.Operand.tmp 21) (Go.Operand.tmp 22), type := 0, pos := "law.go:114", after := #[{ on := 4, ground := Go.Ground.data }, { on := 5, ground := Go.Ground.data }], guard := none }) (v := .pointer (some ⟨qb, ob + k * 2, none⟩)) rfl (by kernel_rfl) (by kernel_rfl) (by kernel_rfl) (fun _ _ _ h => h) (Or.inl ⟨by rfl, ?_⟩) (by assumption) ?_
      · intro w hSw; go_simp
      simp only [Act.put, List.setIfInBounds_toArray, List.set_cons_zero, List.set_cons_succ]
      refine' wpAnyH_take (i := 7) (oi := { dst := some 24, op := Go.Op.load 55 (Go.Operand.tmp 23), type := 55, pos := "law.go:114", after := #[{ on := 6, ground := Go.Ground.data }], guard := none }) (v := .agg #[.string x, .string y]) rfl (by kernel_rfl) (by kernel_rfl) (by kernel_rfl) (fun _ _ _ h => h) (Or.inl ⟨by rfl, ?_⟩) (by assumption) ?_
      · intro w hSw; obtain ⟨z1, z2, z3, z4⟩ := hSw; go_simp
      simp only [Act.put, List.setIfInBounds_toArray, List.set_cons_zero, List.set_cons_succ]
      refine' wpAnyH_take (i := 8) (oi := { dst := some 25, op := Go.Op.binOp Go.BinOp.neq 55 (Go.Operand.tmp 20) (Go.Operand.tmp 24) 55, type := 4, pos := "law.go:114", after := #[{ on := 3, ground := Go.Ground.data }, { on := 7, ground := Go.Ground.data }], guard := none }) (v := .bool false) rfl (by kernel_rfl) (by kernel_rfl) (by kernel_rfl) (fun _ _ _ h => h) (Or.inl ⟨by rfl, ?_⟩) (by assumption) ?_
      · intro w hSw; go_simp
      simp only [Act.put, List.setIfInBounds_toArray, List.set_cons_zero, List.set_cons_succ]
      refine wpAnyH_done (by kernel_rfl) ?_ _
      refine NoPanic.normal ?_
      go_wp2_with fail
      refine ⟨⟨k + 1, by omega, ?_, HTd⟩, ?_⟩
      · exact congrArg (Value.int .i64) (by omega)
      · first | omega | (simp [intOf]; omega) | (simp; omega)
    · clear HAll Hone
      go_wp2_with fail
      go_ret
      exact ⟨rfl, HTz.out⟩

end Go.Proofs.YthgpjkcgccdldaaGreatDoor

namespace Go.Proofs.YthgpjkcgccdldaaGreatDoor
open Go.RowKit Go.Maps

/-- The keys that the store has in round k behind i of n puts or deletes. -/
def keysAt (k n i : Nat) : List ByteArray := if k % 3 = 0 then ltrs 0 i else if k % 3 = 1 then ltrs 0 n else ltrs i (n - i)
theorem keysAt_next (k n : Nat) : keysAt k n n = keysAt (k + 1) n 0 := by
  unfold keysAt
  rcases (by omega : k % 3 = 0 ∨ k % 3 = 1 ∨ k % 3 = 2) with h | h | h
  · have h' : (k + 1) % 3 = 1 := by omega
    simp [h, h']
  · have h' : (k + 1) % 3 = 2 := by omega
    simp [h, h']
  · have h' : (k + 1) % 3 = 0 := by omega
    simp [h, h', ltrs]
theorem keysAt_rise {k n i : Nat} (hn : n ≤ 15) (hi : i ≤ n) : Rises (keysAt k n i) := by
  unfold keysAt
  split
  · exact ltrs_rise (by omega)
  · split
    · exact ltrs_rise (by omega)
    · exact ltrs_rise (by omega)
theorem keysAt_len {k n i : Nat} (hn : n ≤ 15) (hi : i ≤ n) : (keysAt k n i).length ≤ 15 := by
  unfold keysAt
  split
  · rw [ltrs_len]; omega
  · split
    · rw [ltrs_len]; omega
    · rw [ltrs_len]; omega
theorem keys_put {k n i : Nat} {l l' : KVs} {v : ByteArray} (h3 : k % 3 ≠ 2) (hi : i < n) (hn : n ≤ 15) (hk : keysOf l = keysAt k n i) (h : IsPut l (ltr i) v l') : keysOf l' = keysAt k n (i + 1) := by
  unfold keysAt at hk ⊢
  by_cases h0 : k % 3 = 0
  · rw [if_pos h0] at hk ⊢
    exact put_new hk (by omega) h
  · have h1 : k % 3 = 1 := by omega
    rw [if_neg h0, if_pos h1] at hk ⊢
    exact put_old hk hi (by omega) h
theorem keys_del {k n i : Nat} {l : KVs} (h3 : k % 3 = 2) (hi : i < n) (hk : keysOf l = keysAt k n i) : ∃ h : 0 < l.length, l[0].1 = ltr i ∧ keysOf (l.eraseIdx 0) = keysAt k n (i + 1) := by
  unfold keysAt at hk ⊢
  rw [if_neg (by omega), if_neg (by omega)] at hk ⊢
  have e : n - i = (n - (i + 1)) + 1 := by omega
  rw [e] at hk
  exact del_first hk

/-- Blocks of others turn, and new ones become other people's: the store stays. -/
theorem StoreOk.other_more {X : List Nat} {w w' : World} {O O' : Nat → Prop} {st N c vw : Nat} {fs : Bool} {did : Nat} {ch : Bool} {l : KVs} (h : StoreOk w O st N c vw fs none did ch l) (hT : Turn X w w') (hX : ∀ x ∈ X, O x) (hO : ∀ x, O' x → O x ∨ w.heap.size ≤ x) (hb : ∀ x, O' x → x < w'.heap.size) : StoreOk w' O' st N c vw fs none did ch l := by
  obtain ⟨OT, t, p, sg, h⟩ := h
  have h0 := h.own hT (fun x hx => ⟨h.sub x (hX x hx), fun e => h.nst (e ▸ hX x hx)⟩) (fun hf hm => (h.sight hf).2.2 (hX sg hm))
  have hno : ∀ x, OT x → ¬ O x → ¬ O' x := fun x h1 h2 h3 => by
    rcases hO x h3 with h4 | h4
    · exact h2 h4
    · have := h.ob x h1; omega
  refine ⟨fun x => OT x ∨ O' x, t, p, sg, ⟨h.tree.turn hT (fun x hx => h.sub x (hX x hx)) (fun x hx => ?_) (fun x hx => ?_), h0.obj, fun hf => ⟨(h0.sight hf).1, .inl (h0.sight hf).2.1, hno _ (h0.sight hf).2.1 (h0.sight hf).2.2⟩, fun x hx => .inr hx, .inl h.ost, hno _ h.ost h.nst, h.ne, trivial, fun x hx => ?_, h0.sgl⟩⟩
  · rcases hx with hx | hx
    · exact .inl hx
    · rcases hO x hx with h4 | h4
      · exact .inl (h.sub x h4)
      · exact .inr h4
  · exact hx.elim (fun o => Nat.lt_of_lt_of_le (h.ob x o) hT.size) (hb x)
  · exact hx.elim (fun o => Nat.lt_of_lt_of_le (h.ob x o) hT.size) (hb x)

/-- The law's row of now. -/
def NowAt (w : World) (P : Nat → Prop) (now : Value) (l : KVs) : Prop := ∃ a c, now = .slice a l.length c ∧ KVsAt w a l ∧ (a = none → c = 0) ∧ ∀ z, l ≠ [] → a = some z → P z.block
theorem NowAt.keep {w w' : World} {P P' : Nat → Prop} {now : Value} {l : KVs} (h : NowAt w P now l) (hK : Keep P w w') (hP : ∀ y, P y → P' y) : NowAt w' P' now l := by
  obtain ⟨a, c, e, hk, hn, ho⟩ := h
  obtain ⟨X, hT, hX⟩ := hK
  exact ⟨a, c, e, hk.turn hT (fun z hl hz hm => (hX _ hm).1 (ho z hl hz)), hn, fun z hl hz => hP _ (ho z hl hz)⟩

/-- The law's row of views. -/
structure Rw (w : World) (B : Nat) (O : Nat → Prop) (views : Value) (L : List Vw) : Prop where
  own : w.ownsRow B 49 2 views L.length (flat (vwCells L))
  blk : ∀ g, views.ownBlock = some g → O g
  vws : VwsAt w (fun x => O x ∧ views.ownBlock ≠ some x) L
theorem Rw.keep {w w' : World} {B : Nat} {O O' : Nat → Prop} {views : Value} {L : List Vw} (h : Rw w B O views L) (hK : Keep O w w') (hob : ∀ y, O y → y < w.heap.size) (hO : ∀ y, O y → O' y) : Rw w' B O' views L := by
  refine ⟨?_, fun g hg => hO g (h.blk g hg), h.vws.keep (hK.less fun y hy => hy.1) (fun y hy => hob y hy.1) (fun y hy => ⟨hO y hy.1, hy.2⟩)⟩
  obtain ⟨X, hT, hX⟩ := hK
  exact own_turn h.own hT (fun g hg hm => (hX g hm).1 (h.blk g hg))
theorem Rw.lt {w : World} {B : Nat} {O : Nat → Prop} {views : Value} {L : List Vw} (h : Rw w B O views L) {g : Nat} (hg : views.ownBlock = some g) : B ≤ g ∧ g < w.heap.size := by
  obtain ⟨_, ⟨rfl, _⟩ | ⟨g', cap, cur, rfl, hb, hgg, _⟩⟩ := h.own
  · cases hg
  · obtain rfl : g' = g := Option.some.inj hg
    exact ⟨hb, (Array.getElem?_eq_some_iff.1 hgg).1⟩

/-- Blocks that are not the store's: all that was there ahead of the law's call is, and has not turned. -/
structure Env (w0 w : World) (B : Nat) (O : Nat → Prop) : Prop where
  ob : ∀ x, O x → x < w.heap.size
  old : ∀ x, x < B → x ≠ 1 → O x
  kept : Keep (fun x => x < B) w0 w
theorem Env.next {w0 w w' : World} {B : Nat} {O O' : Nat → Prop} (h : Env w0 w B O) (hK : Keep O w w') (hO : ∀ x, O x → O' x) (hb : ∀ x, O' x → x < w'.heap.size) : Env w0 w' B O' := by
  refine ⟨hb, fun x h1 h2 => hO x (h.old x h1 h2), h.kept.trans ?_⟩
  obtain ⟨X, hT, hX⟩ := hK
  exact ⟨X, hT, fun x hx => ⟨fun hl => (hX x hx).1 (h.old x hl (hX x hx).2), (hX x hx).2⟩⟩
theorem Env.keep {w0 w w' : World} {B : Nat} {O : Nat → Prop} (h : Env w0 w B O) (hK : Keep O w w') : Env w0 w' B O := h.next hK (fun _ h => h) (fun x hx => Nat.lt_of_lt_of_le (h.ob x hx) hK.size)

/-- In round k, behind i puts or deletes. -/
def MInv (w0 : World) (B k n i st tb : Nat) (now views : Value) (w : World) : Prop :=
  ∃ (O : Nat → Prop) (l : KVs) (fs : Bool) (L : List Vw), StoreOk w O st 2048 k k fs (some tb) i (decide (0 < i)) l ∧ keysOf l = keysAt k n i ∧ NowAt w (fun x => O x ∧ views.ownBlock ≠ some x) now l ∧ Rw w B O views L ∧ L.length = k ∧ Env w0 w B O
/-- The store has put or deleted, the law's row has not yet. -/
def PMid (w0 : World) (B : Nat) (del : Bool) (k n i st tb : Nat) (now views : Value) (v : ByteArray) (w : World) : Prop :=
  ∃ (O : Nat → Prop) (l l' : KVs) (fs : Bool) (L : List Vw), StoreOk w O st 2048 k k fs (some tb) (i + 1) true l' ∧ (if del then lawDel l (ltr i) = l' else IsPut l (ltr i) v l') ∧ keysOf l = keysAt k n i ∧ keysOf l' = keysAt k n (i + 1) ∧ NowAt w (fun x => O x ∧ views.ownBlock ≠ some x) now l ∧ Rw w B O views L ∧ L.length = k ∧ Env w0 w B O
/-- Between rounds. -/
def OInv (w0 : World) (B : Nat) (fs : Bool) (k c vw n st : Nat) (now views : Value) (w : World) : Prop :=
  ∃ (O : Nat → Prop) (l : KVs) (did : Nat) (L : List Vw), StoreOk w O st 2048 c vw fs none did false l ∧ keysOf l = keysAt k n 0 ∧ NowAt w (fun x => O x ∧ views.ownBlock ≠ some x) now l ∧ Rw w B O views L ∧ L.length = vw ∧ Env w0 w B O

variable {w0 : World} {B : Nat}

theorem MInv.turn0 {k n i st tb : Nat} {now views : Value} {w w' : World} (h : MInv w0 B k n i st tb now views w) (hT : Turn [] w w') : MInv w0 B k n i st tb now views w' := by
  obtain ⟨O, l, fs, L, h1, h2, h3, h4, h5, h6⟩ := h
  exact ⟨O, l, fs, L, h1.turn0 hT, h2, h3.keep (Keep.of hT (by simp)) (fun _ h => h), h4.keep (Keep.of hT (by simp)) h6.ob (fun _ h => h), h5, h6.keep (Keep.of hT (by simp))⟩
theorem PMid.turn0 {del : Bool} {k n i st tb : Nat} {now views : Value} {v : ByteArray} {w w' : World} (h : PMid w0 B del k n i st tb now views v w) (hT : Turn [] w w') : PMid w0 B del k n i st tb now views v w' := by
  obtain ⟨O, l, l', fs, L, h1, h2, h3, h3', h4, h5, h6, h7⟩ := h
  exact ⟨O, l, l', fs, L, h1.turn0 hT, h2, h3, h3', h4.keep (Keep.of hT (by simp)) (fun _ h => h), h5.keep (Keep.of hT (by simp)) h7.ob (fun _ h => h), h6, h7.keep (Keep.of hT (by simp))⟩
theorem OInv.turn0 {fs : Bool} {k c vw n st : Nat} {now views : Value} {w w' : World} (h : OInv w0 B fs k c vw n st now views w) (hT : Turn [] w w') : OInv w0 B fs k c vw n st now views w' := by
  obtain ⟨O, l, did, L, h1, h2, h3, h4, h5, h6⟩ := h
  exact ⟨O, l, did, L, h1.turn0 hT, h2, h3.keep (Keep.of hT (by simp)) (fun _ h => h), h4.keep (Keep.of hT (by simp)) h6.ob (fun _ h => h), h5, h6.keep (Keep.of hT (by simp))⟩

/-- Begin. -/
theorem m_begin {fs : Bool} {k n st : Nat} {now views : Value} {w : World} (h : OInv w0 B fs k k k n st now views w) :
    Calls Tryz.prog 12 #[.pointer (some ⟨st, 0, none⟩)] w fun e w' => ∃ tb, e = .returned (.tuple #[.pointer (some ⟨tb, 0, none⟩), .int .i64 0]) ∧ MInv w0 B k n 0 st tb now views w' := by
  obtain ⟨O, l, did, L, h1, h2, h3, h4, h5, h6⟩ := h
  refine (xbegin h1).mono ?_
  rintro e w' ⟨tb, rfl, hst, hK⟩
  exact ⟨tb, rfl, O, l, fs, L, hst, h2, h3.keep (hK.less fun _ hy => hy.1) (fun _ h => h), h4.keep hK h6.ob (fun _ h => h), h5, h6.keep hK⟩

theorem put_len {k n i : Nat} {l' : KVs} (hn : n ≤ 15) (hi : i < n) (h : keysOf l' = keysAt k n (i + 1)) : l'.length ≤ 15 := by
  rw [← keysOf_length, h]
  exact keysAt_len hn hi

/-- Put of the store. -/
theorem m_put {k n i st tb : Nat} {now views : Value} {w : World} (h : MInv w0 B k n i st tb now views w) (v : ByteArray) (hv : v.size ≤ 2) (h3 : k % 3 ≠ 2) (hi : i < n) (hn : n ≤ 15) :
    Calls Tryz.prog 13 #[.pointer (some ⟨tb, 0, none⟩), .string (ltr i), .string v] w fun e w' => e = .returned (.int .i64 0) ∧ PMid w0 B false k n i st tb now views v w' := by
  obtain ⟨O, l, fs, L, h1, h2, h3', h4, h5, h6⟩ := h
  refine (xput h1 (ltr i) v (ltr_size i) hv (fun l' hp => ?_) (by omega)).mono ?_
  · have := put_len hn hi (keys_put h3 hi hn h2 hp)
    omega
  · rintro e w' ⟨rfl, l', hp, hst, hK⟩
    exact ⟨rfl, O, l, l', fs, L, hst, hp, h2, keys_put h3 hi hn h2 hp, h3'.keep (hK.less fun _ hy => hy.1) (fun _ h => h), h4.keep hK h6.ob (fun _ h => h), h5, h6.keep hK⟩

/-- Del of the store. -/
theorem m_del {k n i st tb : Nat} {now views : Value} {w : World} (h : MInv w0 B k n i st tb now views w) (v : ByteArray) (h3 : k % 3 = 2) (hi : i < n) (hn : n ≤ 15) :
    Calls Tryz.prog 16 #[.pointer (some ⟨tb, 0, none⟩), .string (ltr i)] w fun e w' => e = .returned (.int .i64 0) ∧ PMid w0 B true k n i st tb now views v w' := by
  obtain ⟨O, l, fs, L, h1, h2, h3', h4, h5, h6⟩ := h
  obtain ⟨h0, hk0, hk1⟩ := keys_del h3 hi h2
  have hr : Rises (keysOf l) := h2 ▸ keysAt_rise hn (Nat.le_of_lt hi)
  refine (xdel h1 (ltr i) (by rw [ltr_size]; omega) 0 h0 hk0 (by omega)).mono ?_
  rintro e w' ⟨rfl, hst, hK⟩
  exact ⟨rfl, O, l, l.eraseIdx 0, fs, L, hst, del_stands hr h0 hk0, h2, hk1, h3'.keep (hK.less fun _ hy => hy.1) (fun _ h => h), h4.keep hK h6.ob (fun _ h => h), h5, h6.keep hK⟩

/-- A new row of now. -/
theorem PMid.now {k n i st tb : Nat} {views r : Value} {w w' : World} {O : Nat → Prop} {l' : KVs} {fs : Bool} {L : List Vw} (h1 : StoreOk w O st 2048 k k fs (some tb) (i + 1) true l') (hk : keysOf l' = keysAt k n (i + 1)) (h4 : Rw w B O views L) (h5 : L.length = k) (h6 : Env w0 w B O) (hr : w'.ownsRow w.heap.size 55 2 r l'.length (flat (kvCells l'))) (hT : Turn [] w w') : MInv w0 B k n (i + 1) st tb r views w' := by
  obtain ⟨a, c, rfl, -, -, hn, hp, hb⟩ := own_room hr
  refine ⟨New O w w', l', fs, L, ?_, hk, ⟨a, c, rfl, hp.kvs, hn, fun z _ hz => ⟨.inr (hb z hz), fun e => ?_⟩⟩, h4.keep (Keep.of hT (by simp)) h6.ob (fun _ h => .inl h), h5, h6.next (Keep.of hT (by simp)) (fun _ h => .inl h) (fun x hx => ?_)⟩
  · rw [decide_eq_true (Nat.succ_pos i)]
    exact h1.more hT (fun x hx => hx.imp id And.left) (fun x hx => hx.elim (fun h => Nat.lt_of_lt_of_le (h6.ob x h) hT.size) And.right)
  · have := (h4.lt e).2
    have := (hb z hz).1
    omega
  · exact hx.elim (fun h => Nat.lt_of_lt_of_le (h6.ob x h) hT.size) And.right

/-- Put of the law. -/
theorem m_lput {k n i st tb : Nat} {now views : Value} {v : ByteArray} {w : World} (h : PMid w0 B false k n i st tb now views v w) (hi : i < n) (hn : n ≤ 15) :
    Calls Tryz.prog 15 #[now, .string (ltr i), .string v] w fun e w' => ∃ r, e = .returned r ∧ MInv w0 B k n (i + 1) st tb r views w' := by
  obtain ⟨O, l, l', fs, L, h1, h2, h3, h3', ⟨a, c, rfl, hkv, hnil, ho⟩, h4, h5, h6⟩ := h
  have hr : Rises (keysOf l) := h3 ▸ keysAt_rise hn (Nat.le_of_lt hi)
  have hlen : l.length ≤ 15 := by rw [← keysOf_length, h3]; exact keysAt_len hn (Nat.le_of_lt hi)
  refine (lputl_any a c l (ltr i) v (by omega) hr w hkv).mono ?_
  rintro e w' ⟨r, j, rfl, hj, hO, hT⟩
  have hp := law_put (v := v) hr hj
  have e := IsPut.unique (show IsPut l (ltr i) v l' from h2) hp
  rw [← e] at hO
  exact ⟨r, rfl, PMid.now h1 h3' h4 h5 h6 hO hT⟩

/-- Del of the law. -/
theorem m_ldel {k n i st tb : Nat} {now views : Value} {v : ByteArray} {w : World} (h : PMid w0 B true k n i st tb now views v w) (hi : i < n) (hn : n ≤ 15) :
    Calls Tryz.prog 18 #[now, .string (ltr i)] w fun e w' => ∃ r, e = .returned r ∧ MInv w0 B k n (i + 1) st tb r views w' := by
  obtain ⟨O, l, l', fs, L, h1, h2, h3, h3', ⟨a, c, rfl, hkv, hnil, ho⟩, h4, h5, h6⟩ := h
  have hlen : l.length ≤ 15 := by rw [← keysOf_length, h3]; exact keysAt_len hn (Nat.le_of_lt hi)
  refine (ldelete_any a c l (ltr i) (by omega) w hkv).mono ?_
  rintro e w' ⟨r, rfl, hO, hT⟩
  have e : (l.filter fun x => !decide (x.1 = ltr i)) = l' := h2
  rw [e] at hO
  exact ⟨r, rfl, PMid.now h1 h3' h4 h5 h6 hO hT⟩

/-- Commit. -/
theorem m_commit {k n st tb : Nat} {now views : Value} {w : World} (h : MInv w0 B k n n st tb now views w) (hk : k ≤ 8) (hn : 1 ≤ n ∧ n ≤ 15) :
    Calls Tryz.prog 19 #[.pointer (some ⟨tb, 0, none⟩)] w fun e w' => e = .returned (.int .i64 0) ∧ OInv w0 B true (k + 1) (k + 1) k n st now views w' := by
  obtain ⟨O, l, fs, L, h1, h2, h3, h4, h5, h6⟩ := h
  rw [decide_eq_true (show 0 < n by omega)] at h1
  refine (xcommit h1 (by omega) (by omega) (by omega) 0).mono ?_
  rintro e w' ⟨rfl, hst, hK⟩
  exact ⟨rfl, O, l, 0, L, hst, h2.trans (keysAt_next k n), h3.keep (hK.less fun _ hy => hy.1) (fun _ h => h), h4.keep hK h6.ob (fun _ h => h), h5, h6.keep hK⟩

/-- How many commits there were. -/
theorem m_commits {fs : Bool} {k c vw n st : Nat} {now views : Value} {w : World} (h : OInv w0 B fs k c vw n st now views w) (hc : c ≤ 1000) :
    Calls Tryz.prog 29 #[.pointer (some ⟨st, 0, none⟩)] w fun e w' => e = .returned (.int .i64 (c : Nat)) ∧ w' = w := by
  obtain ⟨O, l, did, L, h1, _⟩ := h
  exact xcommits h1 hc

/-- A view is taken, and is to be laid into the row. -/
def LMid (w0 : World) (B k n st v : Nat) (now views : Value) (w : World) : Prop :=
  ∃ (O : Nat → Prop) (a : Option Addr) (c : Nat) (l : KVs) (did : Nat) (L : List Vw), StoreOk w O st 2048 k k false none did false l ∧ keysOf l = keysAt k n 0 ∧ now = .slice a l.length c ∧ VwAt w (fun x => O x ∧ views.ownBlock ≠ some x) ⟨v, a, c, l⟩ ∧ Rw w B O views L ∧ L.length + 1 = k ∧ Env w0 w B O
theorem LMid.turn0 {k n st v : Nat} {now views : Value} {w w' : World} (h : LMid w0 B k n st v now views w) (hT : Turn [] w w') : LMid w0 B k n st v now views w' := by
  obtain ⟨O, a, c, l, did, L, h1, h2, h3, h4, h5, h6, h7⟩ := h
  exact ⟨O, a, c, l, did, L, h1.turn0 hT, h2, h3, h4.keep (Keep.of hT (by simp)) (fun y hy => h7.ob y hy.1) (fun _ h => h), h5.keep (Keep.of hT (by simp)) h7.ob (fun _ h => h), h6, h7.keep (Keep.of hT (by simp))⟩

theorem m_look {k n st : Nat} {now views : Value} {w : World} (h : OInv w0 B true (k + 1) (k + 1) k n st now views w) (hk : k ≤ 8) (hn : n ≤ 15) :
    Calls Tryz.prog 22 #[.pointer (some ⟨st, 0, none⟩)] w fun e w' => ∃ v, e = .returned (.pointer (some ⟨v, 0, none⟩)) ∧ LMid w0 B (k + 1) n st v now views w' := by
  obtain ⟨O, l, did, L, h1, h2, ⟨a, c, rfl, hkv, hnil, ho⟩, h4, h5, h6⟩ := h
  have hr : Rises (keysOf l) := h2 ▸ keysAt_rise hn (Nat.zero_le _)
  have hlen : l.length ≤ 15 := by rw [← keysOf_length, h2]; exact keysAt_len hn (Nat.zero_le _)
  refine (xlook_own h1 (by omega)).mono ?_
  rintro e w' ⟨v, O', rfl, hst, hv, hK, hsub, hlt⟩
  refine ⟨v, rfl, O', a, c, l, did, L, hst, h2, rfl, ⟨hv.keep (Keep.refl _ _) (fun x hx => hlt x hx.1) (fun x hx => ⟨hx.1, fun e => hx.2 (h4.blk x e)⟩), ?_, hnil, fun z hl hz => ⟨hsub _ (ho z hl hz).1, (ho z hl hz).2⟩, hr, by show l.length ≤ 20; omega⟩, h4.keep hK h6.ob hsub, by omega, h6.next hK hsub hlt⟩
  obtain ⟨X, hT, hX⟩ := hK
  exact hkv.turn hT (fun z hl hz hm => (hX _ hm).1 (ho z hl hz).1)

/-- The view lies in the row. -/
theorem LMid.laid {k n st v : Nat} {now views views' : Value} {w w' : World} {O : Nat → Prop} {a : Option Addr} {c : Nat} {l : KVs} {did : Nat} {L : List Vw} (hB : 2 ≤ B) (h1 : StoreOk w O st 2048 k k false none did false l) (h2 : keysOf l = keysAt k n 0) (h3 : now = .slice a l.length c) (h4 : VwAt w (fun x => O x ∧ views.ownBlock ≠ some x) ⟨v, a, c, l⟩) (h5 : Rw w B O views L) (h6 : L.length + 1 = k) (h7 : Env w0 w B O)
    (hown : w'.ownsRow B 49 2 views' (L.length + 1) (flat (vwCells L ++ vwCells [⟨v, a, c, l⟩]))) (hg : w.grownBy w' views.ownBlock) (hb : views'.ownBlock = views.ownBlock ∨ views'.ownBlock = some w.heap.size) : OInv w0 B false k k k n st now views' w' := by
  have hTv : ∃ X, Turn X w w' ∧ ∀ x ∈ X, O x ∧ views.ownBlock = some x ∧ B ≤ x := by
    cases hv : views.ownBlock with
    | none => exact ⟨[], (Turn.refl [] w).grown hg (by rw [hv]; intro k hk; cases hk), by simp⟩
    | some g => exact ⟨[g], (Turn.refl [g] w).grown hg (by rw [hv]; intro k hk; simp at hk; simp [hk]), fun x hx => by simp at hx; subst hx; exact ⟨h5.blk _ hv, rfl, (h5.lt hv).1⟩⟩
  obtain ⟨X, hT, hX⟩ := hTv
  have hK : Keep (fun x => O x ∧ views.ownBlock ≠ some x) w w' := ⟨X, hT, fun x hx => ⟨fun ho => ho.2 (hX x hx).2.1, by have := (hX x hx).2.2; omega⟩⟩
  have hsz := hT.size
  have hnew : ∀ y, (O y ∧ views.ownBlock ≠ some y) → (O y ∨ views'.ownBlock = some y) ∧ views'.ownBlock ≠ some y := fun y hy => ⟨.inl hy.1, by
    rcases hb with hb | hb
    · rw [hb]; exact hy.2
    · rw [hb]
      intro e
      have := Option.some.inj e
      have := h7.ob y hy.1
      omega⟩
  have hlt' : ∀ y, views'.ownBlock = some y → y < w'.heap.size := fun y hy => by
    obtain ⟨_, ⟨rfl, _⟩ | ⟨g', cap, cur, rfl, _, hgg, _⟩⟩ := hown
    · cases hy
    · obtain rfl : g' = y := Option.some.inj hy
      exact (Array.getElem?_eq_some_iff.1 hgg).1
  have hst2 : StoreOk w' (fun y => O y ∨ views'.ownBlock = some y) st 2048 k k false none did false l := h1.other_more hT (fun x hx => (hX x hx).1) (fun x hx => hx.elim .inl (fun e => by
    rcases hb with hb | hb
    · exact .inl (h5.blk x (hb ▸ e))
    · rw [hb] at e
      have := Option.some.inj e
      exact .inr (by omega))) (fun x hx => hx.elim (fun h => Nat.lt_of_lt_of_le (h7.ob x h) hsz) (hlt' x))
  have e1 : L.length + 1 = (L ++ [(⟨v, a, c, l⟩ : Vw)]).length := by simp
  rw [e1, ← vwCells_append] at hown
  refine ⟨fun y => O y ∨ views'.ownBlock = some y, l, did, L ++ [⟨v, a, c, l⟩], hst2, h2, ?_, ⟨hown, fun g hg => .inr hg, ?_⟩, by simpa using h6, ⟨fun x hx => hx.elim (fun h => Nat.lt_of_lt_of_le (h7.ob x h) hsz) (hlt' x), fun x h1 h2 => .inl (h7.old x h1 h2), h7.kept.trans ⟨X, hT, fun x hx => by have := (hX x hx).2.2; exact ⟨by omega, by omega⟩⟩⟩⟩
  · subst h3
    exact NowAt.keep ⟨a, c, rfl, h4.row, h4.nil, h4.own⟩ hK hnew
  · exact (h5.vws.keep hK (fun y hy => h7.ob y hy.1) hnew).add (h4.keep hK (fun y hy => h7.ob y hy.1) hnew)

end Go.Proofs.YthgpjkcgccdldaaGreatDoor
