/-
  Bytes of the law, walked: frames of requests, and bytes that are none, one behind the other.
-/
import Derived.Test.YtmmbckchaklhaaaSArg
import Derived.Test.YtmmbckchaklhaaaFRrqA
import Derived.Deep.RegionHeld
import Derived.Deep.RegionHeld3
namespace Go.Proofs.Ytmmbckchaklhaaa.Se
open Go.RowKit Go.Maps

/-- Behind some rounds: bytes of the call's own, n at most. -/
structure Bx (w0 w : World) (v : Value) (b : List Nat) (n : Nat) : Prop where
  own : w.ownsRow w0.heap.size 5 1 v b.length (b.map byteCell)
  by8 : ∀ x ∈ b, x < 256
  len : b.length ≤ n
  tn : Turn [] w0 w
theorem Bx.start (w : World) : Bx w w (.slice none 0 0) [] 0 := ⟨World.ownsRow_nil _ _ _ _, fun x hx => (by cases hx), Nat.le_refl _, Turn.refl _ _⟩
theorem Bx.keep {w0 w w' : World} {v : Value} {b : List Nat} {n : Nat} (h : Bx w0 w v b n) (hT : Turn [] w w') {m : Nat} (hm : n ≤ m) : Bx w0 w' v b m := ⟨own_keepS h.own hT (by simp), h.by8, Nat.le_trans h.len hm, h.tn.trans hT⟩
theorem Bx.more {w0 w w' : World} {v v' : Value} {b : List Nat} {n : Nat} (h : Bx w0 w v b n) {l : List Nat} (hl : ∀ x ∈ l, x < 256) (hO : w'.ownsRow w0.heap.size 5 1 v' (b.length + l.length) ((b ++ l).map byteCell)) (hG : w.grownBy w' v.ownBlock) {m : Nat} (hm : n + l.length ≤ m) : Bx w0 w' v' (b ++ l) m :=
  ⟨by rw [List.length_append]; exact hO, app_8 h.by8 hl, by rw [List.length_append]; have := h.len; omega, h.tn.grown hG (fun _ hk => .inr (own_ge h.own hk).1)⟩

set_option maxRecDepth 100000 in
set_option maxHeartbeats 8000000 in
theorem bytes_any (ra : Option Addr) (rc : Nat) (rs : List Rq) (wa : Option Addr) (wc : Nat) (raw : List (List Nat)) (w : World) (hR : RqsAt w ra rs) (hF : ∀ r ∈ rs, r.Fits) (_hrl : rs.length ≤ 9223372036854775807) (hW : RowsAt w wa raw) (_hwl : raw.length ≤ 9223372036854775807) :
    Calls Try.prog 8 #[.slice ra rs.length rc, .slice wa raw.length wc] w fun e w' => ∃ v b, e = .returned v ∧ Bx w w' v b 24000 := by
  obtain ⟨E, hE⟩ : ∃ E : Ending → World → Prop, E = fun e w' => ∃ v b, e = .returned v ∧ Bx w w' v b 24000 := ⟨_, rfl⟩
  rw [← hE]
  have HE : Hid (∀ v b w', Bx w w' v b 24000 → E (.returned v) w') := fun v b w' h => by
    rw [hE]
    exact ⟨v, b, rfl, h⟩
  clear hE
  have HR := hide hR
  have HF := hide hF
  have HW := hide hW
  obtain ⟨N, hN⟩ : ∃ N, N = rs.length := ⟨_, rfl⟩
  have HN := hide hN
  rw [← hN] at _hrl ⊢
  obtain ⟨M, hM⟩ : ∃ M, M = raw.length := ⟨_, rfl⟩
  have HM := hide hM
  rw [← hM] at _hwl ⊢
  have HB0 := hide (Bx.start w)
  clear hR hF hW hN hM
  go_enter Try.func8, Try.ntmps8
  go_wp2_with fail
  go_loopw [5, 6] (fun u5 u6 wr => ∃ (k : Nat) (b : List Nat), k ≤ N ∧ k ≤ 20 ∧ u6 = .int .i64 (k : Nat) ∧ Hid (Bx w wr u5 b (1200 * k))) (fun _ u6 _ => N - (intOf u6).toNat)
  case atStart => exact ⟨0, [], Nat.zero_le _, Nat.zero_le _, rfl, HB0⟩
  case round =>
    obtain ⟨k, b, hk, hk20, rfl, HB⟩ := hrel
    clear HB0
    by_cases hlt : k < N ∧ k < 20
    · obtain ⟨hlt1, hlt2⟩ := hlt
      obtain ⟨rb, ro, rfl, hrg, hrb⟩ := (HR.out.turn0 HB.out.tn).at (i := k) (by have := HN.out; omega)
      have HEn := hide (enc_row wr (rs[k]'(by have := HN.out; omega)) (HF.out _ (List.getElem_mem _)))
      have hcl : (rqC (rs[k]'(by have := HN.out; omega))).length = 18 := rfl
      have HRg := hide hrg
      clear hrg
      generalize rqC (rs[k]'(by have := HN.out; omega)) = cs at *
      go_upto_if 32 with (first | ((with_reducible refine load_sz 43 18 sz25 _ rb (ro + k * 18) cs hcl ?_ HRg.out ?_); rfl) | (go_at_call 16; refine HEn.out.mono ?_; rintro e w2 ⟨a2, c2, L, y, rfl, hB2, hy, hT2⟩; have HFr := hide (frm_row w2 a2 c2 L hB2); have Hy := hide hy; have HT2 := hide hT2; clear hB2 hy hT2) | fail)
      clear HEn HRg hcl
      have hyb : y = 0 ∨ ((y : Nat) : Int) ≠ 0 := by omega
      go_cut [5] from 9 to 43 (fun u wx => ∃ b', Hid (Bx w wx u b' (1200 * k + 514)))
      case first =>
        rcases hyb with rfl | hy0
        · generalize L.length = Ln at *
          go_upto_if 39 with (first | (go_at_call 17; refine HFr.out.mono ?_; rintro e w3 ⟨a3, c3, F, z, rfl, hcs, hB3, hT3⟩; have HB3 := hide hB3; have HT3 := hide hT3; have Hcs := hide hcs; clear hB3 hT3 hcs) | fail)
          have hfl : F.length ≤ 514 := by
            rcases Hcs.out with ⟨hg, _, rfl⟩ | ⟨_, _, rfl⟩ | ⟨_, _, rfl⟩
            · have := hg.2.1
              rw [frm_len]
              omega
            · simp
            · simp
          have hz : z = 0 ∨ z = 5 := by
            rcases Hcs.out with ⟨_, h, _⟩ | ⟨_, h, _⟩ | ⟨_, h, _⟩
            · exact .inl h
            · exact .inr h
            · exact .inr h
          have HB3' := hide (HB.out.keep (HT2.out.trans HT3.out) (Nat.le_refl _))
          clear HB HFr Hy HT2 HT3 Hcs
          rcases hz with rfl | rfl
          · have HO := hide HB3'.out.own
            have hbl : b.length ≤ 24000 := by have := HB3'.out.len; omega
            have HSt : Hid (∀ v' w', w'.ownsRow w.heap.size 5 1 v' (b.length + F.length) ((b ++ F).map byteCell) → w3.grownBy w' u5.ownBlock → Bx w w' v' (b ++ F) (1200 * k + 514)) := fun v' w' h1 h2 => HB3'.out.more HB3.out.by8 h1 h2 (by omega)
            have hbase : w.heap.size ≤ w3.heap.size := HB3'.out.tn.size
            have HBt := hide HB3.out.bt
            have HNl := hide HB3.out.nil
            clear HB3 HB3'
            generalize hFl : F.length = Fl at *
            have HFl := hide hFl
            generalize hbl' : b.length = bl at *
            have Hbl' := hide hbl'
            clear hFl hbl'
            go_wp2_with (first | (at_builtin; (with_reducible refine append_b rfl _ _ rfl w.heap.size u5 b bl Hbl'.out rfl HO.out a3 Fl c3 F HFl.out rfl HBt.out HNl.out ?_ hbase ?_); omega; intro v4 w4 k1 k2 k3; have HBk := hide (HSt.out v4 w4 k1 k2); clear k1 k2 k3) | fail)
            go_meet
            case rel => exact ⟨_, HBk⟩
          · clear HB3
            go_wp2_with fail
            go_meet
            case rel => exact ⟨b, hide (HB3'.out.keep (Turn.refl _ _) (by omega))⟩
        · have hy1 : (((y : Nat) : Int) == 0) = false := by rw [beq_eq_false_iff_ne]; exact hy0
          go_wp2_with fail
          go_meet
          case rel => exact ⟨b, hide (HB.out.keep HT2.out (by omega))⟩
      case rest =>
      obtain ⟨b', HB⟩ := hcut
      clear HFr Hy HT2 hyb
      by_cases hM1 : k < M
      · obtain ⟨qb, qo, A, C, rfl, hc, hBy, hqb⟩ := (HW.out.turn0 HB.out.tn).at (i := k) (by have := HM.out; omega)
        have HBy := hide hBy
        have hlen9 : (raw[k]'(by have := HM.out; omega)).length ≤ 9223372036854775807 := by have := hBy.lc; have := hBy.cm; unfold maxLen at *; omega
        have HFr := hide (frm_row wc A C _ hBy)
        clear hBy
        generalize (raw[k]'(by have := HM.out; omega)) = L at *
        by_cases hl6 : L.length < 600
        · go_upto_region 12 with (first | (go_at_call 17; refine HFr.out.mono ?_; rintro e w3 ⟨a3, c3, F, z, rfl, hcs, hB3, hT3⟩; have HB3 := hide hB3; have HT3 := hide hT3; have Hcs := hide hcs; clear hB3 hT3 hcs) | fail)
          have hfl : F.length ≤ 514 := by
            rcases Hcs.out with ⟨hg, _, rfl⟩ | ⟨_, _, rfl⟩ | ⟨_, _, rfl⟩
            · have := hg.2.1
              rw [frm_len]
              omega
            · simp
            · simp
          have hz : z = 0 ∨ z = 5 := by
            rcases Hcs.out with ⟨_, h, _⟩ | ⟨_, h, _⟩ | ⟨_, h, _⟩
            · exact .inl h
            · exact .inr h
            · exact .inr h
          have HB3' := hide (HB.out.keep HT3.out (Nat.le_refl _))
          have HBy3 := hide (HBy.out.turn HT3.out)
          have hc3 : w3.cell? ⟨qb, qo + k, none⟩ = some (.slice A L.length C) := (HT3.out.cell (p := ⟨qb, qo + k, none⟩) hqb (by simp)).trans hc
          have hqb3 : qb < w3.heap.size := lt_of_cell hc3
          clear HB HFr Hcs HBy
          by_cases h3 : 0 < (k : Int) % 3
          · have hd3 : decide (0 < (k : Int) % 3) = true := decide_eq_true h3
            have hd4 : ((k : Int) % 3 == 0) = false := by rw [beq_eq_false_iff_ne]; omega
            rcases hz with rfl | rfl
            · have HO := hide HB3'.out.own
              have hbl : b'.length ≤ 24000 := by have := HB3'.out.len; omega
              have HSt : Hid (∀ v' w', w'.ownsRow w.heap.size 5 1 v' (b'.length + F.length) ((b' ++ F).map byteCell) → w3.grownBy w' u5.ownBlock → Bx w w' v' (b' ++ F) (1200 * (k + 1))) := fun v' w' h1 h2 => HB3'.out.more HB3.out.by8 h1 h2 (by omega)
              have hbase : w.heap.size ≤ w3.heap.size := HB3'.out.tn.size
              have HBt := hide HB3.out.bt
              have HNl := hide HB3.out.nil
              clear HB3 HB3' HBy3
              generalize hFl : F.length = Fl at *
              have HFl := hide hFl
              generalize hbl' : b'.length = bl at *
              have Hbl' := hide hbl'
              clear hFl hbl'
              go_wp2_with (first | (at_builtin; (with_reducible refine append_b rfl _ _ rfl w.heap.size u5 b' bl Hbl'.out rfl HO.out a3 Fl c3 F HFl.out rfl HBt.out HNl.out ?_ hbase ?_); omega; intro v4 w4 k1 k2 k3; have HBk := hide (HSt.out v4 w4 k1 k2); clear k1 k2 k3) | fail)
              refine ⟨⟨k + 1, b' ++ F, by omega, by omega, ?_, HBk⟩, ?_⟩
              · exact congrArg (Value.int .i64) (by omega)
              · first | omega | (simp [intOf]; omega) | (simp; omega)
            · clear HB3 HBy3
              go_wp2_with fail
              refine ⟨⟨k + 1, b', by omega, by omega, ?_, hide (HB3'.out.keep (Turn.refl _ _) (by omega))⟩, ?_⟩
              · exact congrArg (Value.int .i64) (by omega)
              · first | omega | (simp [intOf]; omega) | (simp; omega)
          · have hd3 : decide (0 < (k : Int) % 3) = false := decide_eq_false h3
            have hd4 : (k : Int) % 3 = 0 := by omega
            rcases hz with rfl | rfl
            · have HO := hide HB3'.out.own
              have hbl : b'.length ≤ 24000 := by have := HB3'.out.len; omega
              have HSt : Hid (∀ v' w', w'.ownsRow w.heap.size 5 1 v' (b'.length + L.length) ((b' ++ L).map byteCell) → w3.grownBy w' u5.ownBlock → Bx w w' v' (b' ++ L) (1200 * (k + 1))) := fun v' w' h1 h2 => HB3'.out.more HBy3.out.by8 h1 h2 (by omega)
              have hbase : w.heap.size ≤ w3.heap.size := HB3'.out.tn.size
              have HBt := hide HBy3.out.bt
              have HNl := hide HBy3.out.nil
              clear HB3 HB3' HBy3
              generalize hFl : L.length = Fl at *
              have HFl := hide hFl
              generalize hbl' : b'.length = bl at *
              have Hbl' := hide hbl'
              clear hFl hbl'
              go_wp2_with (first | (at_builtin; (with_reducible refine append_b rfl _ _ rfl w.heap.size u5 b' bl Hbl'.out rfl HO.out A Fl C L HFl.out rfl HBt.out HNl.out ?_ hbase ?_); omega; intro v4 w4 k1 k2 k3; have HBk := hide (HSt.out v4 w4 k1 k2); clear k1 k2 k3) | fail)
              refine ⟨⟨k + 1, b' ++ L, by omega, by omega, ?_, HBk⟩, ?_⟩
              · exact congrArg (Value.int .i64) (by omega)
              · first | omega | (simp [intOf]; omega) | (simp; omega)
            · have HO := hide HB3'.out.own
              have hbl : b'.length ≤ 24000 := by have := HB3'.out.len; omega
              have HSt : Hid (∀ v' w', w'.ownsRow w.heap.size 5 1 v' (b'.length + L.length) ((b' ++ L).map byteCell) → w3.grownBy w' u5.ownBlock → Bx w w' v' (b' ++ L) (1200 * (k + 1))) := fun v' w' h1 h2 => HB3'.out.more HBy3.out.by8 h1 h2 (by omega)
              have hbase : w.heap.size ≤ w3.heap.size := HB3'.out.tn.size
              have HBt := hide HBy3.out.bt
              have HNl := hide HBy3.out.nil
              clear HB3 HB3' HBy3
              generalize hFl : L.length = Fl at *
              have HFl := hide hFl
              generalize hbl' : b'.length = bl at *
              have Hbl' := hide hbl'
              clear hFl hbl'
              go_wp2_with (first | (at_builtin; (with_reducible refine append_b rfl _ _ rfl w.heap.size u5 b' bl Hbl'.out rfl HO.out A Fl C L HFl.out rfl HBt.out HNl.out ?_ hbase ?_); omega; intro v4 w4 k1 k2 k3; have HBk := hide (HSt.out v4 w4 k1 k2); clear k1 k2 k3) | fail)
              refine ⟨⟨k + 1, b' ++ L, by omega, by omega, ?_, HBk⟩, ?_⟩
              · exact congrArg (Value.int .i64) (by omega)
              · first | omega | (simp [intOf]; omega) | (simp; omega)
        · clear HFr HBy
          go_wp2_with fail
          refine ⟨⟨k + 1, b', by omega, by omega, ?_, hide (HB.out.keep (Turn.refl _ _) (by omega))⟩, ?_⟩
          · exact congrArg (Value.int .i64) (by omega)
          · first | omega | (simp [intOf]; omega) | (simp; omega)
      · go_wp2_with fail
        refine ⟨⟨k + 1, b', by omega, by omega, ?_, hide (HB.out.keep (Turn.refl _ _) (by omega))⟩, ?_⟩
        · exact congrArg (Value.int .i64) (by omega)
        · first | omega | (simp [intOf]; omega) | (simp; omega)
    · have hX : Hid (E (.returned u5) wr) := HE.out _ b _ (HB.out.keep (Turn.refl _ _) (by omega))
      by_cases h1 : k < N
      · have h2 : ¬ k < 20 := fun h => hlt ⟨h1, h⟩
        clear HB HR HF HW HE
        go_wp2_with fail
        exact hX.out
      · clear HB HR HF HW HE
        go_wp2_with fail
        exact hX.out

end Go.Proofs.Ytmmbckchaklhaaa.Se

/-
  The reference's session, walked: Feed.
-/
namespace Go.Proofs.Ytmmbckchaklhaaa.Se
open Go.RowKit Go.Maps

/-- The reference's session: its two cells. -/
structure Rc (w : World) (g : Nat) (v : Value) (z : Bool) : Prop where
  c0 : w.cell? ⟨g, 0, none⟩ = some v
  c1 : w.cell? ⟨g, 1, none⟩ = some (.bool z)
  fz : ∀ o, w.frozen? ⟨g, o, none⟩ = false
theorem Rc.lt {w : World} {g : Nat} {v : Value} {z : Bool} (h : Rc w g v z) : g < w.heap.size := lt_of_cell h.c0
theorem Rc.of_block {w w' : World} {g : Nat} {v : Value} {z : Bool} (h : Rc w g v z) (hb : w'.heap[g]? = w.heap[g]?) : Rc w' g v z := by
  have hc : ∀ o, w'.cell? ⟨g, o, none⟩ = w.cell? ⟨g, o, none⟩ := fun o => World.cell?_of_block (a := ⟨g, o, none⟩) hb
  exact ⟨(hc 0).trans h.c0, (hc 1).trans h.c1, fun o => (World.frozen?_of_block (a := ⟨g, o, none⟩) hb).trans (h.fz o)⟩
theorem Rc.turn {S : List Nat} {w w' : World} {g : Nat} {v : Value} {z : Bool} (h : Rc w g v z) (hT : Turn S w w') (hg : g ∉ S) : Rc w' g v z := h.of_block (hT.block g h.lt hg)
theorem Rc.set0 {w : World} {g : Nat} {v : Value} {z : Bool} (h : Rc w g v z) (x : Value) : Rc (w.setCell ⟨g, 0, none⟩ x) g x z :=
  ⟨World.cell?_setCell_same _ _ _ h.c0, (World.cell?_setCell_other _ _ _ _ (off_ne (by omega))).trans h.c1, fun o => by rw [World.frozen?_setCell]; exact h.fz o⟩
theorem Rc.set1 {w : World} {g : Nat} {v : Value} {z : Bool} (h : Rc w g v z) (x : Bool) : Rc (w.setCell ⟨g, 1, none⟩ (.bool x)) g v x :=
  ⟨(World.cell?_setCell_other _ _ _ _ (off_ne (by omega))).trans h.c0, World.cell?_setCell_same _ _ _ h.c1, fun o => by rw [World.frozen?_setCell]; exact h.fz o⟩

/-- The reference's session in memory; A: where its bytes lie. -/
structure RefAt (w : World) (g : Nat) (A : Option Addr) (C : Nat) (s : Ss) : Prop where
  cs : Rc w g (.slice A s.ws.length C) s.br
  byr : Byr w A C s.ws
  ok : s.Ok
  apart : ∀ x, A = some x → x.block ≠ g ∧ x.block < w.heap.size
theorem RefAt.turn {S : List Nat} {w w' : World} {g : Nat} {A : Option Addr} {C : Nat} {s : Ss} (h : RefAt w g A C s) (hT : Turn S w w') (hg : g ∉ S) (hA : ∀ x, A = some x → x.block ∉ S) : RefAt w' g A C s :=
  ⟨h.cs.turn hT hg, h.byr.keepS hT (fun x _ e => hA x e), h.ok, fun x e => ⟨(h.apart x e).1, by have := (h.apart x e).2; have := hT.size; omega⟩⟩

/-- A row of the reference's items of the call's own. -/
def RItems (w : World) (base : Nat) (v : Value) (l : List It) : Prop := w.ownsRow base 70 19 v l.length (flatI l)
theorem RItems.nil (w : World) (base : Nat) : RItems w base (.slice none 0 0) [] := World.ownsRow_nil _ _ _ _
theorem RItems.turn {w w' : World} {base : Nat} {v : Value} {l : List It} (h : RItems w base v l) (hT : Turn [] w w') : RItems w' base v l := own_keepS h hT (by simp)
theorem RItems.form {w : World} {base : Nat} {v : Value} {l : List It} (h : RItems w base v l) : ∃ a c, v = .slice a l.length c := own_form h

theorem info_ritem : (Try.prog.info? 70).map (fun i => (i.zero, i.size, i.bytes)) = some (some (.agg (itC ⟨Rq.zero, 0⟩).toArray), 19, 184) := by kernel_rfl
theorem append_ritem {ops : Array Oper} {rest : List Oper} {o : Oper} {a : Act} {Q : Exit → Act → World → Prop} {w : World} (hgd : o.guard = none) (s x : Operand)
    (ho : o.op = .call { callee := .builtin .append, args := #[s, x], argTypes := #[36, 36] }) (base : Nat) (v : Value) (rs : List It) (t : It) (q : Nat) (hs : a.eval s = v) (hown : RItems w base v rs) (hx : a.eval x = .slice (some ⟨q, 0, none⟩) 1 1) (hA : w.rangeAt q 0 (itC t)) (hb : rs.length + 1 ≤ 1000001) (hbase : base ≤ w.heap.size)
    (h : ∀ v' w', RItems w' base v' (rs ++ [t]) → Turn v.ownBlock.toList w w' → (v'.ownBlock = v.ownBlock ∨ v'.ownBlock = some w.heap.size) → wpList Try.prog ops Q rest (a.put o.dst v') w') :
    wpList Try.prog ops Q (o :: rest) a w := by
  obtain ⟨i0, hi, hz0, hz1, hz2⟩ := info_parts info_ritem
  refine wpList_append_own_at _ hgd s x 36 ho base 70 i0 (.agg (itC ⟨Rq.zero, 0⟩).toArray) 19 184 Try.underlying36 hi hz0 hz1 hz2 rfl (by decide) v rs.length (flatI rs) hs hown ⟨q, 0, none⟩ 1 1 (itC t) hx (itC_len t) (fun j u hj => ?_) (itC_one t) (by unfold maxLen; omega) (by omega) hbase ?_
  · rw [Addr.add_mid]
    exact hA j u hj
  · intro v' w' h1 h2 _ h4
    refine h v' w' ?_ ((Turn.refl _ w).grown h2 fun k hk => .inl (by rw [hk]; simp)) h4
    unfold RItems
    rw [List.length_append, flatI_append, flatI_single]
    exact h1

/-- Behind some frames. -/
structure Rd (w wr : World) (g : Nat) (s : Ss) (b l : List Nat) (dn : List It) (v : Value) (A : Option Addr) (C : Nat) : Prop where
  cs : Rc wr g (.slice A l.length C) false
  byr : Byr wr A C l
  blk : ∀ x, A = some x → w.heap.size ≤ x.block ∧ x.block < wr.heap.size ∧ v.ownBlock ≠ some x.block
  its : RItems wr w.heap.size v dn
  fin : feed s b = (dn ++ (feed ⟨[], false⟩ l).1, (feed ⟨[], false⟩ l).2)
  len : dn.length + l.length ≤ 1000000
  tn : Turn [g] w wr
  lo : g < w.heap.size
/-- What the reference's Feed answers. -/
structure RfP (w : World) (g : Nat) (A0 : Option Addr) (l : List It) (s : Ss) (v : Value) (A : Option Addr) (C : Nat) (w' : World) : Prop where
  its : RItems w' w.heap.size v l
  ref : RefAt w' g A C s
  new : ∀ x, A = some x → w.heap.size ≤ x.block ∨ A0 = some x
  tn : Turn [g] w w'
theorem feed_nil (l : List Nat) : feed ⟨[], false⟩ l = ((run l).1, ⟨(run l).2.1, (run l).2.2⟩) := by
  unfold feed
  rw [if_neg (by simp)]
  rfl
/-- No whole frame is there. -/
theorem Rd.wait {w wr : World} {g : Nat} {s : Ss} {b l : List Nat} {dn : List It} {v : Value} {A : Option Addr} {C : Nat} (h : Rd w wr g s b l dn v A C) (A0 : Option Addr) (hl : l.length < span l) : RfP w g A0 (feed s b).1 (feed s b).2 v A C wr := by
  rw [h.fin, feed_nil, run_wait hl, List.append_nil]
  exact ⟨h.its, ⟨h.cs, h.byr, ⟨fun e => (by cases e), hl⟩, fun x e => ⟨by have := (h.blk x e).1; have := h.lo; omega, (h.blk x e).2.1⟩⟩, fun x e => .inl (h.blk x e).1, h.tn⟩
/-- A length that may not be. -/
theorem Rd.dead {w wr w' : World} {g : Nat} {s : Ss} {b l : List Nat} {dn : List It} {v v' : Value} {A : Option Addr} {C : Nat} (h : Rd w wr g s b l dn v A C) (A0 : Option Addr) (hl : ¬ l.length < span l) (h2 : span l = 2)
    (hC : Rc w' g (.slice none 0 0) true) (hT : Turn [g] wr w') {w'' : World} (hI : RItems w'' w.heap.size v' (dn ++ [It.long])) (hT2 : Turn v.ownBlock.toList w' w'') : RfP w g A0 (feed s b).1 (feed s b).2 v' none 0 w'' := by
  have hg : g ∉ v.ownBlock.toList := fun hm => by
    have := (own_ge h.its (Option.mem_toList.1 hm)).1
    have := h.lo
    omega
  rw [h.fin, feed_nil, run_bad hl h2]
  refine ⟨hI, ⟨hC.turn hT2 hg, ⟨.inl rfl, fun x hx => (by cases hx), Nat.le_refl _, by decide, .inl ⟨rfl, rfl⟩⟩, ⟨fun _ => rfl, by show 0 < span []; have := span_ge []; omega⟩, fun x e => (by cases e)⟩, fun x e => (by cases e), (h.tn.trans hT).then hT2 (fun x hx => .inr (own_ge h.its (Option.mem_toList.1 hx)).1)⟩
/-- A frame was parsed, its item laid behind the others. -/
theorem Rd.step {w wr w1 w2 : World} {g : Nat} {s : Ss} {b l : List Nat} {dn : List It} {v v' : Value} {A : Option Addr} {C : Nat} (h : Rd w wr g s b l dn v A C) (hl : ¬ l.length < span l) (h2 : span l ≠ 2)
    (hT : Turn [] wr w1) (hI : RItems w2 w.heap.size v' (dn ++ [parsed ((l.take (span l)).drop 2)])) (hT2 : Turn v.ownBlock.toList w1 w2) (hv : v'.ownBlock = v.ownBlock ∨ v'.ownBlock = some w1.heap.size) :
    Rd w (w2.setCell ⟨g, 0, none⟩ (.slice (hiA A C (span l)) (l.length - span l) (C - span l))) g s b (l.drop (span l)) (dn ++ [parsed ((l.take (span l)).drop 2)]) v' (hiA A C (span l)) (C - span l) := by
  have hg : g ∉ v.ownBlock.toList := fun hm => by
    have := (own_ge h.its (Option.mem_toList.1 hm)).1
    have := h.lo
    omega
  have hA : ∀ x, hiA A C (span l) = some x → w.heap.size ≤ x.block ∧ x.block < wr.heap.size ∧ v.ownBlock ≠ some x.block := fun x e => by
    obtain ⟨y, hy, hyx⟩ := hiA_block e
    have := h.blk y hy
    rw [hyx] at this
    exact this
  have hsz := hT.size
  have hsz2 := hT2.size
  have hB : Byr w2 (hiA A C (span l)) (C - span l) (l.drop (span l)) := ((h.byr.turn hT).drop (span l)).keepS hT2 (fun x _ e hm => (hA x e).2.2 (Option.mem_toList.1 hm))
  have hv' : ∀ q, v'.ownBlock = some q → q ≠ g ∧ ∀ x, hiA A C (span l) = some x → x.block ≠ q := fun q hq => by
    rcases hv with e | e
    · rw [e] at hq
      have h1 := (own_ge h.its hq).1
      have h2 := h.lo
      refine ⟨by omega, fun x hx e2 => (hA x hx).2.2 (by rw [e2]; exact hq)⟩
    · rw [e] at hq
      have := Option.some.inj hq
      have h2 := h.cs.lt
      refine ⟨by omega, fun x hx e2 => ?_⟩
      have := (hA x hx).2.1
      omega
  have hset : Turn [g] w2 (w2.setCell ⟨g, 0, none⟩ (.slice (hiA A C (span l)) (l.length - span l) (C - span l))) := (Turn.refl _ _).setCell (by simp) _ _
  refine ⟨?_, hB.keepS hset (fun x _ e hm => ?_), fun x e => ⟨(hA x e).1, ?_, fun hq => (hv' _ hq).2 x e rfl⟩, own_keepS hI hset (fun q hq hm => ?_), ?_, ?_, ?_, h.lo⟩
  · rw [List.length_drop]
    exact ((h.cs.turn hT (by simp)).turn hT2 hg).set0 _
  · have := (hA x e).1
    have := h.lo
    rw [List.mem_singleton] at hm
    omega
  · have := (hA x e).2.1
    have := hset.size
    omega
  · rw [List.mem_singleton] at hm
    exact (hv' q hq).1 hm
  · rw [h.fin, feed_nil, feed_nil, run_item hl h2]
    simp
  · have := h.len
    have := span_ge l
    rw [List.length_drop, List.length_append, List.length_singleton]
    omega
  · exact ((h.tn.trans (hT.mono (by simp))).then hT2 (fun x hx => .inr (own_ge h.its (Option.mem_toList.1 hx)).1)).trans hset

theorem Rd.keep {w wr w1 : World} {g : Nat} {s : Ss} {b l : List Nat} {dn : List It} {v : Value} {A : Option Addr} {C : Nat} (h : Rd w wr g s b l dn v A C) (hT : Turn [] wr w1) : Rd w w1 g s b l dn v A C :=
  ⟨h.cs.turn hT (by simp), h.byr.turn hT, fun x e => ⟨(h.blk x e).1, by have := (h.blk x e).2.1; have := hT.size; omega, (h.blk x e).2.2⟩, h.its.turn hT, h.fin, h.len, h.tn.trans (hT.mono (by simp)), h.lo⟩
theorem own_empty (w : World) : (w.alloc (.cells #[] 5)).ownsRow w.heap.size 5 1 (.slice (some ⟨w.heap.size, 0, none⟩) 0 0) 0 (([] : List Nat).map byteCell) := by
  refine ⟨rfl, .inr ⟨w.heap.size, 0, #[], rfl, Nat.le_refl _, Array.getElem?_push_size, Nat.le_refl _, by decide, rfl, rfl⟩⟩
theorem Rd.start {w w5 : World} {g : Nat} {A0 : Option Addr} {C0 : Nat} {s : Ss} {b : List Nat} {v5 : Value} {n : Nat} (h : RefAt w g A0 C0 s) (hbr : s.br = false) (h8b : ∀ x ∈ b, x < 256) (hlen : s.ws.length + b.length ≤ 1000000)
    (hO : w5.ownsRow w.heap.size 5 1 v5 n ((s.ws ++ b).map byteCell)) (hT : Turn [] w w5) : ∃ A C, v5 = .slice A (s.ws ++ b).length C ∧ Rd w (w5.setCell ⟨g, 0, none⟩ v5) g s b (s.ws ++ b) [] (.slice none 0 0) A C := by
  have h8 : ∀ x ∈ s.ws ++ b, x < 256 := app_8 h.byr.by8 h8b
  obtain ⟨A, C, rfl, hB⟩ := Byr.of hO h8
  have hlo := h.cs.lt
  have hge : ∀ x, A = some x → w.heap.size ≤ x.block ∧ x.block < w5.heap.size := fun x e => own_ge hO (by rw [e]; rfl)
  have hset : Turn [g] w5 (w5.setCell ⟨g, 0, none⟩ (.slice A (s.ws ++ b).length C)) := (Turn.refl _ _).setCell (by simp) _ _
  have hcs := (h.cs.turn hT (by simp)).set0 (.slice A (s.ws ++ b).length C)
  rw [hbr] at hcs
  refine ⟨A, C, rfl, ⟨hcs, hB.keepS hset (fun x _ e hm => ?_), fun x e => ⟨(hge x e).1, ?_, by simp [Value.ownBlock]⟩, RItems.nil _ _, ?_, ?_, (hT.mono (by simp)).trans hset, hlo⟩⟩
  · have := (hge x e).1
    rw [List.mem_singleton] at hm
    omega
  · have := (hge x e).2
    have := hset.size
    omega
  · rw [feed_nil]
    unfold feed
    rw [if_neg (by rw [hbr]; simp)]
    simp
  · rw [List.length_append]
    simp
    exact hlen

/-- How many bytes wait, out of memory. -/
def lenAt (w : World) (g : Nat) : Nat :=
  match w.cell? ⟨g, 0, none⟩ with
  | some (.slice _ n _) => n
  | _ => 0
theorem Rd.lenAt {w wr : World} {g : Nat} {s : Ss} {b l : List Nat} {dn : List It} {v : Value} {A : Option Addr} {C : Nat} (h : Rd w wr g s b l dn v A C) : lenAt wr g = l.length := by
  unfold Se.lenAt
  rw [h.cs.c0]

/-- Frames by their first two bytes. -/
theorem span_two {l : List Nat} (h : 2 ≤ l.length) : span l = if 512 < l[0] * 256 + l[1] then 2 else 2 + (l[0] * 256 + l[1]) := by
  have e0 : l.getD 0 0 = l[0] := by rw [List.getD_eq_getElem?_getD, List.getElem?_eq_getElem (by omega)]; rfl
  have e1 : l.getD 1 0 = l[1] := by rw [List.getD_eq_getElem?_getD, List.getElem?_eq_getElem (by omega)]; rfl
  unfold span
  rw [if_neg (by omega), e0, e1]

set_option maxRecDepth 100000 in
theorem slice_two (a : Option Addr) (n c M : Nat) (w : World) (hk : 2 + M ≤ c) : (Instr.slice 26 (.slice a n c) (some (.int .i64 2)) (some (.int .i64 ((2 : Int) + (M : Nat)))) none).run Try.prog w = .ok (.slice (hiA a c 2) M (c - 2)) w := by
  rw [run_slice_lh w 26 a n c (by kernel_rfl) .i64 .i64 2 (2 + M) (by omega) (by omega) (by omega)]
  have hs : (sizeOf (Try.prog.elem 26)).run Try.prog w = .ok 1 w := by go_simp
  rw [hs]
  have e : ((2 : Int) + (M : Nat)).toNat = 2 + M := by omega
  have e2 : (2 : Int).toNat = 2 := rfl
  simp only [Result.andThen, sliced, hiA, e, e2, Nat.add_sub_cancel_left]

/-- One item of the reference's, in a block of its own. -/
theorem ritem_new (w : World) (T : It) : (w.alloc (.cells #[.int .i64 T.r.k, .string T.r.key, .int .i64 T.r.id, .int .i64 T.r.n, .int .i64 T.r.ttl, .int .i64 T.r.o, .string T.r.nm, .string T.r.sec, .string T.r.pn, .int .i64 T.r.p1, .int .i64 T.r.p2, .int .i64 T.r.p3, .int .i64 T.r.p4, .int .i64 T.r.p5, .int .i64 T.r.p6, .int .i64 T.r.p7, .int .i64 T.r.p8, .int .i64 T.r.p9, .int .i64 (T.e : Nat)] 70)).rangeAt w.heap.size 0 (itC T) := fun j v hj => by
  have hb : (w.alloc (.cells #[.int .i64 T.r.k, .string T.r.key, .int .i64 T.r.id, .int .i64 T.r.n, .int .i64 T.r.ttl, .int .i64 T.r.o, .string T.r.nm, .string T.r.sec, .string T.r.pn, .int .i64 T.r.p1, .int .i64 T.r.p2, .int .i64 T.r.p3, .int .i64 T.r.p4, .int .i64 T.r.p5, .int .i64 T.r.p6, .int .i64 T.r.p7, .int .i64 T.r.p8, .int .i64 T.r.p9, .int .i64 (T.e : Nat)] 70)).heap[w.heap.size]? = _ := Array.getElem?_push_size
  unfold World.cell?
  rw [hb]
  show (#[.int .i64 T.r.k, .string T.r.key, .int .i64 T.r.id, .int .i64 T.r.n, .int .i64 T.r.ttl, .int .i64 T.r.o, .string T.r.nm, .string T.r.sec, .string T.r.pn, .int .i64 T.r.p1, .int .i64 T.r.p2, .int .i64 T.r.p3, .int .i64 T.r.p4, .int .i64 T.r.p5, .int .i64 T.r.p6, .int .i64 T.r.p7, .int .i64 T.r.p8, .int .i64 T.r.p9, .int .i64 (T.e : Nat)] : Array Value)[0 + j]? = some v
  rw [Nat.zero_add, ← hj, ← Array.getElem?_toList]
  rfl

set_option maxRecDepth 100000 in
set_option maxHeartbeats 8000000 in
theorem rfeed_any {w : World} {g : Nat} {A0 : Option Addr} {C0 : Nat} {s : Ss} (hS : RefAt w g A0 C0 s) (a : Option Addr) (c : Nat) (b : List Nat) (hB : Byr w a c b) (hlen : s.ws.length + b.length ≤ 1000000) :
    Calls Try.prog 12 #[.pointer (some ⟨g, 0, none⟩), .slice a b.length c] w fun e w' => ∃ v A C, e = .returned v ∧ RfP w g A0 (feed s b).1 (feed s b).2 v A C w' := by
  obtain ⟨E, hE⟩ : ∃ E : Ending → World → Prop, E = fun e w' => ∃ v A C, e = .returned v ∧ RfP w g A0 (feed s b).1 (feed s b).2 v A C w' := ⟨_, rfl⟩
  rw [← hE]
  have HE : Hid (∀ v A C w', RfP w g A0 (feed s b).1 (feed s b).2 v A C w' → E (.returned v) w') := fun v A C w' h => by
    rw [hE]
    exact ⟨v, A, C, rfl, h⟩
  clear hE
  have hgl := hS.cs.lt
  by_cases hb : s.br = true
  · have c1 := hS.cs.c1
    rw [hb] at c1
    have HX : Hid (E (.returned (.slice none 0 0)) w) := HE.out _ A0 C0 _ (by
      rw [feed_dead hb]
      exact ⟨RItems.nil _ _, hS, fun x e => .inr e, Turn.refl _ _⟩)
    clear HE hS hB hlen hb
    generalize b.length = n at *
    go_enter Try.func12, Try.ntmps12
    go_wp2_with fail
    exact HX.out
  · have hb' : s.br = false := by simpa using hb
    have c0 := hS.cs.c0
    have c1 := hS.cs.c1
    rw [hb'] at c1
    have hTa : Turn [] w (w.alloc (.cells #[] 5)) := (Turn.refl [] w).alloc _
    have HO1 := hide (own_empty w)
    have HBt1 := hide (hS.byr.bt.turn hTa (by simp))
    have HNl1 : Hid (A0 = none → C0 = 0) := fun e => by
      rcases hS.byr.ad with ⟨_, h⟩ | ⟨_, _, h⟩
      · exact h
      · rw [e] at h
        cases h
    have HNl2 : Hid (a = none → c = 0) := fun e => by
      rcases hB.ad with ⟨_, h⟩ | ⟨_, _, h⟩
      · exact h
      · rw [e] at h
        cases h
    have HBb := hide hB
    have hfz := hS.cs.fz 0
    have HSt : Hid (∀ v5 w5 n, w5.ownsRow w.heap.size 5 1 v5 n ((s.ws ++ b).map byteCell) → Turn [] w w5 → ∃ A C, v5 = .slice A (s.ws ++ b).length C ∧ Rd w (w5.setCell ⟨g, 0, none⟩ v5) g s b (s.ws ++ b) [] (.slice none 0 0) A C) := fun v5 w5 n h1 h2 => Rd.start hS hb' hB.by8 hlen h1 h2
    have HTa := hide hTa
    have hbase1 : w.heap.size ≤ (w.alloc (.cells #[] 5)).heap.size := hTa.size
    have hwl : s.ws.length ≤ 1000000 := by omega
    have hbl : b.length ≤ 1000000 := by omega
    have hcs := hS.cs
    have Hcs := hide hcs
    clear hS hB hb hb' hTa hcs
    obtain ⟨nw, hnw⟩ : ∃ n, n = s.ws.length := ⟨_, rfl⟩
    obtain ⟨nb, hnb⟩ : ∃ n, n = b.length := ⟨_, rfl⟩
    have Hnw := hide hnw
    have Hnb := hide hnb
    rw [← hnw] at c0 hwl hlen
    rw [← hnb] at hbl hlen ⊢
    clear hnw hnb
    go_enter Try.func12, Try.ntmps12
    go_upto_region 4 with (first | (at_builtin; (with_reducible refine append_b rfl _ _ rfl w.heap.size v4 s.ws nw Hnw.out.symm rfl HO4.out a nb c b Hnb.out.symm rfl HBt4.out HNl2.out ?_ hbase4 ?_); omega; intro v5 w5 k1 k2 k3; obtain ⟨A5, C5, hv5⟩ := own_form k1; subst hv5; have HT5 := hide (grown4.out w5 k2); have HO5 := hide k1; have c05 := (Hcs.out.turn HT5.out (by simp)).c0; have f05 := (Hcs.out.turn HT5.out (by simp)).fz 0; have g05 := (Hcs.out.turn HT5.out (by simp)).lt; clear k1 k2 k3) | (at_builtin; (with_reducible refine append_b rfl _ _ rfl w.heap.size (.slice (some ⟨w.heap.size, 0, none⟩) 0 0) [] 0 rfl rfl HO1.out A0 nw C0 s.ws Hnw.out.symm rfl HBt1.out HNl1.out ?_ hbase1 ?_); omega; intro v4 w4 k1 k2 k3; have HT4 : Hid (Turn [] w w4) := HTa.out.grown k2 (fun _ hk => .inr (own_ge HO1.out hk).1); rw [Nat.zero_add, List.nil_append] at k1; have HO4 := hide k1; have HBt4 := hide (HBb.out.bt.turn (S := []) HT4.out (by simp)); have hbase4 : w.heap.size ≤ w4.heap.size := HT4.out.size; have grown4 : Hid (∀ w' : World, w4.grownBy w' v4.ownBlock → Turn [] w w') := fun _ h2 => HT4.out.grown h2 (fun _ hk => .inr (own_ge HO4.out hk).1); have c04 := (Hcs.out.turn HT4.out (by simp)).c0; clear k1 k2 k3) | fail)
    obtain ⟨A, C, hv, hRd⟩ := HSt.out _ _ _ HO5.out HT5.out
    injection hv with e1 e2 e3
    subst e1 e3
    have HRd0 := hide hRd
    clear hRd e2 HSt HO1 HO4 HO5 HT4 HT5 HTa HBt1 HBt4 HNl1 HNl2 HBb Hcs grown4 c0 c1 c04 c05 f05 g05 hfz hbase1 hbase4
    generalize w5.setCell ⟨g, 0, none⟩ (.slice A5 (nw + nb) C5) = wL at *
    go_wp2_with fail
    go_loopw [5] (fun u5 wr => ∃ (l : List Nat) (dn : List It) (A : Option Addr) (C : Nat), Hid (Rd w wr g s b l dn u5 A C)) (fun _ wr => lenAt wr g)
    case atStart => exact ⟨s.ws ++ b, [], _, _, HRd0⟩
    case round =>
      obtain ⟨l, dn, A, C, HRd⟩ := hrel
      clear HRd0
      have c0 := HRd.out.cs.c0
      have hgr := HRd.out.cs.lt
      obtain ⟨n, hn⟩ : ∃ n, n = l.length := ⟨_, rfl⟩
      rw [← hn] at c0
      have Hn := hide hn
      have hlen := HRd.out.len
      rw [← hn] at hlen
      clear hn
      by_cases h2 : n < 2
      · have HX : Hid (E (.returned u5) wr) := HE.out _ A C _ (HRd.out.wait A0 (by rw [span_short (by have := Hn.out; omega)]; have := Hn.out; omega))
        clear HE HRd
        have hn2 : ¬ (2 : Int) ≤ (n : Int) := by omega
        go_wp2_with fail
        exact HX.out
      · have h2l : 2 ≤ l.length := by have := Hn.out; omega
        obtain ⟨bb, off, hAe, cb0⟩ := HRd.out.byr.bt.at (k := 0) (by omega)
        subst hAe
        obtain ⟨bb', off', e, cb1⟩ := HRd.out.byr.bt.at (k := 1) (by omega)
        obtain ⟨rfl, rfl⟩ : bb = bb' ∧ off = off' := by
          have := Option.some.inj e
          exact ⟨congrArg Addr.block this, congrArg Addr.off this⟩
        have y0 : l[0] < 256 := HRd.out.byr.by8 _ (List.getElem_mem _)
        have y1 : l[1] < 256 := HRd.out.byr.by8 _ (List.getElem_mem _)
        have hsp := span_two h2l
        have Hsp := hide hsp
        rw [Nat.add_zero] at cb0
        clear e hsp
        generalize l[0] = y at *
        generalize l[1] = z at *
        have hor : bits .or .i64 ((y : Int) * 256) (z : Int) = ((y * 256 + z : Nat) : Int) := by
          have := or_i64 (y * 256) z (by omega) (by omega)
          rw [shl_or y z y1] at this
          rw [← this]
          congr 1
        have hw0 : IntKind.i64.wrap ((y : Int) * 256) = (y : Int) * 256 := by rw [IntKind.wrap_i64]; omega
        have hbl := lt_of_cell cb0
        have hi0 : (0 : Int) < (n : Int) := by omega
        have hi1 : (1 : Int) < (n : Int) := by omega
        have hlc : n ≤ C := by have := HRd.out.byr.lc; have := Hn.out; omega
        have hcm : C ≤ 9223372036854775807 := by have := HRd.out.byr.cm; unfold maxLen at this; omega
        have hn2 : (2 : Int) ≤ (n : Int) := by omega
        go_upto_region 6 with fail
        go_cut [6] from 30 to 46 (fun u wx => u = .int .i64 ((y * 256 + z : Nat) : Int) ∧ ∃ m, wx = wr.drewN m)
        case first =>
          go_quiet (fail)
          go_wp2_with fail
          go_meet
          case rel => exact ⟨rfl, _, rfl⟩
        case rest =>
        obtain ⟨rfl, m, rfl⟩ := hcut
        have HRq := hide (HRd.out.keep ((Turn.refl [] wr).drewN m))
        have HW : Hid (lenAt wr g = n) := by
          have := HRd.out.lenAt
          rw [← Hn.out] at this
          exact this
        clear HRd c0 cb0 cb1 hor hw0
        generalize wr.drewN m = wq at *
        have hM : y * 256 + z < 65536 := by omega
        clear y0 y1
        generalize y * 256 + z = M at *
        have c0 := HRq.out.cs.c0
        have c1 := HRq.out.cs.c1
        have hgq := HRq.out.cs.lt
        have f0 := HRq.out.cs.fz 0
        have f1 := HRq.out.cs.fz 1
        rw [← Hn.out] at c0
        by_cases hbad : M = 0 ∨ 512 < M
        · have hs2 : span l = 2 := by
            rw [Hsp.out]
            rcases hbad with rfl | h
            · simp
            · rw [if_pos h]
          have hc6 : Rc ((wq.setCell ⟨g, 1, none⟩ (.bool true)).setCell ⟨g, 0, none⟩ (.slice none 0 0)) g (.slice none 0 0) true := (HRq.out.cs.set1 true).set0 _
          have hT6 : Turn [g] wq ((wq.setCell ⟨g, 1, none⟩ (.bool true)).setCell ⟨g, 0, none⟩ (.slice none 0 0)) := ((Turn.refl _ _).setCell (by simp) _ _).setCell (by simp) _ _
          have Hc6 := hide hc6
          have HT6 := hide hT6
          have hsz6 : wq.heap.size = ((wq.setCell ⟨g, 1, none⟩ (.bool true)).setCell ⟨g, 0, none⟩ (.slice none 0 0)).heap.size := by rw [World.size_setCell, World.size_setCell]
          have Hbad : Hid (∀ v' w' w'', Rc w' g (.slice none 0 0) true → Turn [g] wq w' → RItems w'' w.heap.size v' (dn ++ [It.long]) → Turn u5.ownBlock.toList w' w'' → E (.returned v') w'') := fun v' w' w'' h1 h2 h3 h4 => HE.out _ _ _ _ (HRq.out.dead A0 (by rw [hs2]; omega) hs2 h1 h2 h3 h4)
          clear hc6 hT6
          have hdl : dn.length + 1 ≤ 1000001 := by omega
          have HIt6 := hide (own_keepS HRq.out.its HT6.out (fun q hq hm => by
            have h1 := (own_ge HRq.out.its hq).1
            rw [List.mem_singleton] at hm
            omega))
          have hbase6 : w.heap.size ≤ wq.heap.size := HRq.out.tn.size
          go_upto_region 7 with fail
          go_cut [51] from 46 to 52 (fun u wx => u = .bool true ∧ wx = wq)
          case first =>
            clear HE HRq HW
            rcases hbad with rfl | h
            · go_wp2_with fail
              go_meet
              case rel => exact ⟨rfl, rfl⟩
            · have hMi : (512 : Int) < (M : Int) := by omega
              have hMe : ((M : Int) == 0) = false := by rw [beq_eq_false_iff_ne]; omega
              go_wp2_with fail
              go_meet
              case rel => exact ⟨rfl, rfl⟩
          case rest =>
          obtain ⟨rfl, rfl⟩ := hcut
          clear HE HRq HW
          go_upto_region 10 with fail
          generalize (wc.setCell ⟨g, 1, none⟩ (.bool true)).setCell ⟨g, 0, none⟩ (.slice none 0 0) = w6 at *
          have hb7 : ∀ o : Obj, w.heap.size ≤ (w6.alloc o).heap.size := fun o => by simp; omega
          have HT7 : Hid (∀ o : Obj, Turn [] w6 (w6.alloc o)) := fun o => (Turn.refl [] w6).alloc o
          have HNew : Hid ((w6.alloc (.cells #[.int .i64 0, .string { data := #[] }, .int .i64 0, .int .i64 0, .int .i64 0, .int .i64 0, .string { data := #[] }, .string { data := #[] }, .string { data := #[] }, .int .i64 0, .int .i64 0, .int .i64 0, .int .i64 0, .int .i64 0, .int .i64 0, .int .i64 0, .int .i64 0, .int .i64 0, .int .i64 5] 70)).rangeAt w6.heap.size 0 (itC It.long)) := ritem_new w6 It.long
          have HI7 : Hid (RItems (w6.alloc (.cells #[.int .i64 0, .string { data := #[] }, .int .i64 0, .int .i64 0, .int .i64 0, .int .i64 0, .string { data := #[] }, .string { data := #[] }, .string { data := #[] }, .int .i64 0, .int .i64 0, .int .i64 0, .int .i64 0, .int .i64 0, .int .i64 0, .int .i64 0, .int .i64 0, .int .i64 0, .int .i64 5] 70)) w.heap.size u5 dn) := RItems.turn HIt6.out (HT7.out _)
          have hb8 := hb7 (.cells #[.int .i64 0, .string { data := #[] }, .int .i64 0, .int .i64 0, .int .i64 0, .int .i64 0, .string { data := #[] }, .string { data := #[] }, .string { data := #[] }, .int .i64 0, .int .i64 0, .int .i64 0, .int .i64 0, .int .i64 0, .int .i64 0, .int .i64 0, .int .i64 0, .int .i64 0, .int .i64 5] 70)
          have HFin : Hid (∀ v' w'', RItems w'' w.heap.size v' (dn ++ [It.long]) → Turn u5.ownBlock.toList (w6.alloc (.cells #[.int .i64 0, .string { data := #[] }, .int .i64 0, .int .i64 0, .int .i64 0, .int .i64 0, .string { data := #[] }, .string { data := #[] }, .string { data := #[] }, .int .i64 0, .int .i64 0, .int .i64 0, .int .i64 0, .int .i64 0, .int .i64 0, .int .i64 0, .int .i64 0, .int .i64 0, .int .i64 5] 70)) w'' → E (.returned v') w'') := fun v' w'' h1 h2 => Hbad.out v' _ w'' (Hc6.out.turn (HT7.out _) (by simp)) (HT6.out.trans ((HT7.out _).mono (by simp))) h1 h2
          clear Hbad Hc6 HT6 HT7 HIt6 hb7
          go_wp2_with (first | (at_builtin; (with_reducible refine append_ritem rfl _ _ rfl w.heap.size u5 dn It.long w6.heap.size rfl HI7.out rfl HNew.out hdl hb8 ?_); intro v7 w7 k1 k2 k3; have HX := hide (HFin.out v7 w7 k1 k2); clear k1 k2 k3) | fail)
          exact HX.out
        · have hs2 : span l = 2 + M := by
            rw [Hsp.out, if_neg (by omega)]
          have hM0 : ((M : Int) == 0) = false := by rw [beq_eq_false_iff_ne]; omega
          have hM1 : (M : Int) ≤ 512 := by omega
          have hM2 : M ≤ 512 := by omega
          by_cases hw : n < 2 + M
          · have HX : Hid (E (.returned u5) wq) := HE.out _ _ C _ (HRq.out.wait A0 (by rw [hs2]; have := Hn.out; omega))
            have hwi : (n : Int) < 2 + (M : Int) := by omega
            clear HE HRq HW hbad
            go_wp2_with fail
            exact HX.out
          · have hwi : 2 + (M : Int) ≤ (n : Int) := by omega
            have htl : ((l.take (2 + M)).drop 2).length = M := by rw [List.length_drop, List.length_take]; have := Hn.out; omega
            have hBd := (HRq.out.byr.take (2 + M)).drop 2
            have hPr := rparsereq wq (hiA (some ⟨bb, off, none⟩) C 2) (C - 2) ((l.take (2 + M)).drop 2) hBd.bt hBd.lc (by omega) hBd.by8
            rw [htl] at hPr
            obtain ⟨T, hT⟩ : ∃ T, parsed ((l.take (2 + M)).drop 2) = T := ⟨_, rfl⟩
            have hPr' : Calls Try.prog 20 #[.slice (hiA (some ⟨bb, off, none⟩) C 2) M (C - 2)] wq fun r w' => r = .returned (.tuple #[.agg #[.int .i64 T.r.k, .string T.r.key, .int .i64 T.r.id, .int .i64 T.r.n, .int .i64 T.r.ttl, .int .i64 T.r.o, .string T.r.nm, .string T.r.sec, .string T.r.pn, .int .i64 T.r.p1, .int .i64 T.r.p2, .int .i64 T.r.p3, .int .i64 T.r.p4, .int .i64 T.r.p5, .int .i64 T.r.p6, .int .i64 T.r.p7, .int .i64 T.r.p8, .int .i64 T.r.p9], .int .i64 (T.e : Nat)]) ∧ Turn [] wq w' := by
              refine hPr.mono ?_
              rintro e w' ⟨he, hT'⟩
              refine ⟨?_, hT'⟩
              rw [he, ← hT]
              rfl
            have HP := hide hPr'
            have HSt : Hid (∀ w1 w2 v', Turn [] wq w1 → RItems w2 w.heap.size v' (dn ++ [T]) → Turn u5.ownBlock.toList w1 w2 → (v'.ownBlock = u5.ownBlock ∨ v'.ownBlock = some w1.heap.size) → Rd w (w2.setCell ⟨g, 0, none⟩ (.slice (hiA (some ⟨bb, off, none⟩) C (2 + M)) (n - (2 + M)) (C - (2 + M)))) g s b (l.drop (2 + M)) (dn ++ [T]) v' (hiA (some ⟨bb, off, none⟩) C (2 + M)) (C - (2 + M))) := fun w1 w2 v' h1 h2 h3 h4 => by
              have h5 := HRq.out.step (by rw [hs2]; have := Hn.out; omega) (by rw [hs2]; omega) h1 (by rw [hs2, hT]; exact h2) h3 h4
              rw [hs2, hT, ← Hn.out] at h5
              exact h5
            have hsl2 := fun u => slice_two (some ⟨bb, off, none⟩) n C M u (by omega)
            have hsl3 : ∀ u : World, (Instr.slice 26 (.slice (some ⟨bb, off, none⟩) n C) (some (.int .i64 ((2 : Int) + (M : Nat)))) none none).run Try.prog u = .ok (.slice (hiA (some ⟨bb, off, none⟩) C (2 + M)) (n - (2 + M)) (C - (2 + M))) u := fun u => by
              rw [show ((2 : Int) + (M : Nat)) = ((2 + M : Nat) : Int) from by omega]
              exact slice_hi _ _ _ _ u (by omega)
            have hdl : dn.length + 1 ≤ 1000001 := by omega
            have HIt : Hid (∀ w', Turn [] wq w' → RItems w' w.heap.size u5 dn) := fun w' h => HRq.out.its.turn h
            have HCs : Hid (∀ w1 w2, Turn [] wq w1 → Turn u5.ownBlock.toList w1 w2 → Rc w2 g (.slice (some ⟨bb, off, none⟩) n C) false) := fun w1 w2 h1 h2 => by
              have := ((HRq.out.cs.turn h1 (by simp)).turn h2 (fun hm => by
                have h3 := (own_ge HRq.out.its (Option.mem_toList.1 hm)).1
                omega))
              rw [← Hn.out] at this
              exact this
            have hbase : ∀ w1 : World, Turn [] wq w1 → w.heap.size ≤ w1.heap.size := fun w1 h => Nat.le_trans HRq.out.tn.size h.size
            have hbase' := hide hbase
            have hln : n - (2 + M) = (l.drop (2 + M)).length := by rw [List.length_drop, ← Hn.out]
            have Hln := hide hln
            clear hln
            clear hBd hPr hPr' htl hT HRq hbase hbad HE
            generalize hiA (some ⟨bb, off, none⟩) C 2 = A2 at *
            generalize hiA (some ⟨bb, off, none⟩) C (2 + M) = A3 at *
            have hgw : g < wq.heap.size := hgq
            go_upto_region 12 with fail
            have hlR : ([.int .i64 T.r.k, .string T.r.key, .int .i64 T.r.id, .int .i64 T.r.n, .int .i64 T.r.ttl, .int .i64 T.r.o, .string T.r.nm, .string T.r.sec, .string T.r.pn, .int .i64 T.r.p1, .int .i64 T.r.p2, .int .i64 T.r.p3, .int .i64 T.r.p4, .int .i64 T.r.p5, .int .i64 T.r.p6, .int .i64 T.r.p7, .int .i64 T.r.p8, .int .i64 T.r.p9] : List Value).length = 18 := rfl
            have H1R : Hid (∀ v ∈ ([.int .i64 T.r.k, .string T.r.key, .int .i64 T.r.id, .int .i64 T.r.n, .int .i64 T.r.ttl, .int .i64 T.r.o, .string T.r.nm, .string T.r.sec, .string T.r.pn, .int .i64 T.r.p1, .int .i64 T.r.p2, .int .i64 T.r.p3, .int .i64 T.r.p4, .int .i64 T.r.p5, .int .i64 T.r.p6, .int .i64 T.r.p7, .int .i64 T.r.p8, .int .i64 T.r.p9] : List Value), v.oneCell' = true) := rqC_one T.r
            have HTn : Hid (∀ w1 : World, (w1.alloc (.cells #[.int .i64 0, .string { data := #[] }, .int .i64 0, .int .i64 0, .int .i64 0, .int .i64 0, .string { data := #[] }, .string { data := #[] }, .string { data := #[] }, .int .i64 0, .int .i64 0, .int .i64 0, .int .i64 0, .int .i64 0, .int .i64 0, .int .i64 0, .int .i64 0, .int .i64 0] 43)).there w1.heap.size 0 18) := fun w1 => there_new2 w1 #[.int .i64 0, .string { data := #[] }, .int .i64 0, .int .i64 0, .int .i64 0, .int .i64 0, .string { data := #[] }, .string { data := #[] }, .string { data := #[] }, .int .i64 0, .int .i64 0, .int .i64 0, .int .i64 0, .int .i64 0, .int .i64 0, .int .i64 0, .int .i64 0, .int .i64 0] 43
            have HW2 : Hid (∀ w1 : World, Turn [] wq w1 → Turn [] wq ((w1.alloc (.cells #[.int .i64 0, .string { data := #[] }, .int .i64 0, .int .i64 0, .int .i64 0, .int .i64 0, .string { data := #[] }, .string { data := #[] }, .string { data := #[] }, .int .i64 0, .int .i64 0, .int .i64 0, .int .i64 0, .int .i64 0, .int .i64 0, .int .i64 0, .int .i64 0, .int .i64 0] 43)).setCells w1.heap.size 0 [.int .i64 T.r.k, .string T.r.key, .int .i64 T.r.id, .int .i64 T.r.n, .int .i64 T.r.ttl, .int .i64 T.r.o, .string T.r.nm, .string T.r.sec, .string T.r.pn, .int .i64 T.r.p1, .int .i64 T.r.p2, .int .i64 T.r.p3, .int .i64 T.r.p4, .int .i64 T.r.p5, .int .i64 T.r.p6, .int .i64 T.r.p7, .int .i64 T.r.p8, .int .i64 T.r.p9])) := fun w1 h => (h.alloc _).setCellsN _ h.size _ _
            have HR2 : Hid (∀ w1 : World, ((w1.alloc (.cells #[.int .i64 0, .string { data := #[] }, .int .i64 0, .int .i64 0, .int .i64 0, .int .i64 0, .string { data := #[] }, .string { data := #[] }, .string { data := #[] }, .int .i64 0, .int .i64 0, .int .i64 0, .int .i64 0, .int .i64 0, .int .i64 0, .int .i64 0, .int .i64 0, .int .i64 0] 43)).setCells w1.heap.size 0 [.int .i64 T.r.k, .string T.r.key, .int .i64 T.r.id, .int .i64 T.r.n, .int .i64 T.r.ttl, .int .i64 T.r.o, .string T.r.nm, .string T.r.sec, .string T.r.pn, .int .i64 T.r.p1, .int .i64 T.r.p2, .int .i64 T.r.p3, .int .i64 T.r.p4, .int .i64 T.r.p5, .int .i64 T.r.p6, .int .i64 T.r.p7, .int .i64 T.r.p8, .int .i64 T.r.p9]).rangeAt w1.heap.size 0 [.int .i64 T.r.k, .string T.r.key, .int .i64 T.r.id, .int .i64 T.r.n, .int .i64 T.r.ttl, .int .i64 T.r.o, .string T.r.nm, .string T.r.sec, .string T.r.pn, .int .i64 T.r.p1, .int .i64 T.r.p2, .int .i64 T.r.p3, .int .i64 T.r.p4, .int .i64 T.r.p5, .int .i64 T.r.p6, .int .i64 T.r.p7, .int .i64 T.r.p8, .int .i64 T.r.p9]) := fun w1 => World.rangeAt_setCells_same _ _ 0 _ (HTn.out w1)
            go_upto_region 13 with (first | (go_at_call 20; refine HP.out.mono ?_; rintro e w1 ⟨rfl, hT1⟩; have HT1 := hide hT1; have hTn1 := HTn.out w1; have hg1 : g < w1.heap.size := (by have := hT1.size; omega); clear hT1) | ((with_reducible refine store_sz 43 18 sz25 _ _ w1.heap.size 0 [.int .i64 T.r.k, .string T.r.key, .int .i64 T.r.id, .int .i64 T.r.n, .int .i64 T.r.ttl, .int .i64 T.r.o, .string T.r.nm, .string T.r.sec, .string T.r.pn, .int .i64 T.r.p1, .int .i64 T.r.p2, .int .i64 T.r.p3, .int .i64 T.r.p4, .int .i64 T.r.p5, .int .i64 T.r.p6, .int .i64 T.r.p7, .int .i64 T.r.p8, .int .i64 T.r.p9] hlR H1R.out ?_ ?_ hTn1 ?_); rfl; rfl) | fail)
            obtain ⟨w2, hw2⟩ : ∃ w2, w2 = (w1.alloc (.cells #[.int .i64 0, .string { data := #[] }, .int .i64 0, .int .i64 0, .int .i64 0, .int .i64 0, .string { data := #[] }, .string { data := #[] }, .string { data := #[] }, .int .i64 0, .int .i64 0, .int .i64 0, .int .i64 0, .int .i64 0, .int .i64 0, .int .i64 0, .int .i64 0, .int .i64 0] 43)).setCells w1.heap.size 0 [.int .i64 T.r.k, .string T.r.key, .int .i64 T.r.id, .int .i64 T.r.n, .int .i64 T.r.ttl, .int .i64 T.r.o, .string T.r.nm, .string T.r.sec, .string T.r.pn, .int .i64 T.r.p1, .int .i64 T.r.p2, .int .i64 T.r.p3, .int .i64 T.r.p4, .int .i64 T.r.p5, .int .i64 T.r.p6, .int .i64 T.r.p7, .int .i64 T.r.p8, .int .i64 T.r.p9] := ⟨_, rfl⟩
            have hT2 := HW2.out w1 HT1.out
            have hR2 := HR2.out w1
            rw [← hw2] at hT2 hR2 ⊢
            have HT2 := hide hT2
            have HRr := hide hR2
            clear hw2 hT2 hR2 HW2 HR2 HTn hTn1 HP
            generalize w1.heap.size = q1 at *
            have HNew : Hid ((w2.alloc (.cells #[.int .i64 T.r.k, .string T.r.key, .int .i64 T.r.id, .int .i64 T.r.n, .int .i64 T.r.ttl, .int .i64 T.r.o, .string T.r.nm, .string T.r.sec, .string T.r.pn, .int .i64 T.r.p1, .int .i64 T.r.p2, .int .i64 T.r.p3, .int .i64 T.r.p4, .int .i64 T.r.p5, .int .i64 T.r.p6, .int .i64 T.r.p7, .int .i64 T.r.p8, .int .i64 T.r.p9, .int .i64 (T.e : Nat)] 70)).rangeAt w2.heap.size 0 (itC T)) := ritem_new w2 T
            have HI3 : Hid (RItems (w2.alloc (.cells #[.int .i64 T.r.k, .string T.r.key, .int .i64 T.r.id, .int .i64 T.r.n, .int .i64 T.r.ttl, .int .i64 T.r.o, .string T.r.nm, .string T.r.sec, .string T.r.pn, .int .i64 T.r.p1, .int .i64 T.r.p2, .int .i64 T.r.p3, .int .i64 T.r.p4, .int .i64 T.r.p5, .int .i64 T.r.p6, .int .i64 T.r.p7, .int .i64 T.r.p8, .int .i64 T.r.p9, .int .i64 (T.e : Nat)] 70)) w.heap.size u5 dn) := HIt.out _ (HT2.out.alloc _)
            have hb3 := hbase'.out (w2.alloc (.cells #[.int .i64 T.r.k, .string T.r.key, .int .i64 T.r.id, .int .i64 T.r.n, .int .i64 T.r.ttl, .int .i64 T.r.o, .string T.r.nm, .string T.r.sec, .string T.r.pn, .int .i64 T.r.p1, .int .i64 T.r.p2, .int .i64 T.r.p3, .int .i64 T.r.p4, .int .i64 T.r.p5, .int .i64 T.r.p6, .int .i64 T.r.p7, .int .i64 T.r.p8, .int .i64 T.r.p9, .int .i64 (T.e : Nat)] 70)) (HT2.out.alloc _)
            have HSt3 : Hid (∀ w4 v', RItems w4 w.heap.size v' (dn ++ [T]) → Turn u5.ownBlock.toList (w2.alloc (.cells #[.int .i64 T.r.k, .string T.r.key, .int .i64 T.r.id, .int .i64 T.r.n, .int .i64 T.r.ttl, .int .i64 T.r.o, .string T.r.nm, .string T.r.sec, .string T.r.pn, .int .i64 T.r.p1, .int .i64 T.r.p2, .int .i64 T.r.p3, .int .i64 T.r.p4, .int .i64 T.r.p5, .int .i64 T.r.p6, .int .i64 T.r.p7, .int .i64 T.r.p8, .int .i64 T.r.p9, .int .i64 (T.e : Nat)] 70)) w4 → (v'.ownBlock = u5.ownBlock ∨ v'.ownBlock = some (w2.alloc (.cells #[.int .i64 T.r.k, .string T.r.key, .int .i64 T.r.id, .int .i64 T.r.n, .int .i64 T.r.ttl, .int .i64 T.r.o, .string T.r.nm, .string T.r.sec, .string T.r.pn, .int .i64 T.r.p1, .int .i64 T.r.p2, .int .i64 T.r.p3, .int .i64 T.r.p4, .int .i64 T.r.p5, .int .i64 T.r.p6, .int .i64 T.r.p7, .int .i64 T.r.p8, .int .i64 T.r.p9, .int .i64 (T.e : Nat)] 70)).heap.size) → Rd w (w4.setCell ⟨g, 0, none⟩ (.slice A3 (n - (2 + M)) (C - (2 + M)))) g s b (l.drop (2 + M)) (dn ++ [T]) v' A3 (C - (2 + M)) ∧ Rc w4 g (.slice (some ⟨bb, off, none⟩) n C) false) := fun w4 v' h2 h3 h4 => ⟨HSt.out _ w4 v' (HT2.out.alloc _) h2 h3 h4, HCs.out _ w4 (HT2.out.alloc _) h3⟩
            clear HSt HCs HIt hbase'
            go_upto_region 14 with (first | ((with_reducible refine load_sz 43 18 sz25 _ q1 0 [.int .i64 T.r.k, .string T.r.key, .int .i64 T.r.id, .int .i64 T.r.n, .int .i64 T.r.ttl, .int .i64 T.r.o, .string T.r.nm, .string T.r.sec, .string T.r.pn, .int .i64 T.r.p1, .int .i64 T.r.p2, .int .i64 T.r.p3, .int .i64 T.r.p4, .int .i64 T.r.p5, .int .i64 T.r.p6, .int .i64 T.r.p7, .int .i64 T.r.p8, .int .i64 T.r.p9] hlR ?_ HRr.out ?_); rfl) | (at_builtin; (with_reducible refine append_ritem rfl _ _ rfl w.heap.size u5 dn T w2.heap.size rfl HI3.out rfl HNew.out hdl hb3 ?_); intro v4 w4 k1 k2 k3; obtain ⟨hRd4, hc4⟩ := HSt3.out w4 v4 k1 k2 k3; have HRd4 := hide hRd4; have c04 := hc4.c0; have f04 := hc4.fz 0; have g04 := hc4.lt; clear k1 k2 k3 hRd4 hc4) | fail)
            clear HSt3 HI3 HNew hb3 HRr HT2 HT1
            go_wp2_with fail
            refine ⟨⟨l.drop (2 + M), dn ++ [T], _, _, HRd4⟩, ?_⟩
            rw [HRd4.out.lenAt, HW.out, ← Hln.out]
            omega

end Go.Proofs.Ytmmbckchaklhaaa.Se

/-
  sameItems of the law, walked: two rows of the same items.
-/
namespace Go.Proofs.Ytmmbckchaklhaaa.Se
open Go.RowKit Go.Maps

theorem st25 : Try.prog.stoodInHeld 43 = false := by kernel_rfl
theorem fo25 : Try.prog.underlying 43 = some (.struct (Try.prog.fieldsOf 43)) := by kernel_rfl
theorem eqgR : Try.prog.eqGuardType Try.prog.depth 43 = false := by kernel_rfl
set_option maxRecDepth 100000 in
theorem eq_rq (r : Rq) (w : World) : (Op.equalIn 10000 43 (.agg (rqC r).toArray) (.agg (rqC r).toArray)).run Try.prog w = .ok true w := by
  show (Op.equalIn 10000 43 (.agg #[.int .i64 r.k, .string r.key, .int .i64 r.id, .int .i64 r.n, .int .i64 r.ttl, .int .i64 r.o, .string r.nm, .string r.sec, .string r.pn, .int .i64 r.p1, .int .i64 r.p2, .int .i64 r.p3, .int .i64 r.p4, .int .i64 r.p5, .int .i64 r.p6, .int .i64 r.p7, .int .i64 r.p8, .int .i64 r.p9]) (.agg #[.int .i64 r.k, .string r.key, .int .i64 r.id, .int .i64 r.n, .int .i64 r.ttl, .int .i64 r.o, .string r.nm, .string r.sec, .string r.pn, .int .i64 r.p1, .int .i64 r.p2, .int .i64 r.p3, .int .i64 r.p4, .int .i64 r.p5, .int .i64 r.p6, .int .i64 r.p7, .int .i64 r.p8, .int .i64 r.p9])).run Try.prog w = .ok true w
  rw [run_equalIn_struct w 9999 43 _ _ fo25 st25]
  go_simp
theorem neq_rq (r : Rq) (w : World) : (binOp .neq 43 (.agg (rqC r).toArray) (.agg (rqC r).toArray)).run Try.prog w = .ok (.bool false) w := by
  rw [run_neq_struct, eq_rq r w]
  rfl
theorem yieldsIf_neq {ops : Array Oper} {S : World → Prop} {op : Oper} {a : Act} (hw : Region.wanted op (yielded ops a.tmps) = true) (t t2 : TypeId) (x y : Operand) (ho : op.op = .binOp .neq t x y t2)
    (A B : Array Value) (hx : a.eval x = .agg A) (hy : a.eval y = .agg B) (r : Bool) (hg : Try.prog.eqGuardType Try.prog.depth t = false) (hE : ∀ W, (binOp .neq t (.agg A) (.agg B)).run Try.prog W = .ok (.bool r) W) : YieldsIf Try.prog ops S op (.bool r) a :=
  .inl ⟨hw, fun W _ => by
    unfold execOp
    simp only [ho, hx, hy, Sem.run_bind, Sem.run_pure, Result.andThen_ok, run_eqGuard_agg (hm := hg), hE]⟩
theorem it_front {w : World} {b off : Nat} {x : It} (h : w.rangeAt b off (itC x)) : w.rangeAt b off (rqC x.r) ∧ w.cell? ⟨b, off + 18, none⟩ = some (.int .i64 (x.e : Nat)) := by
  refine ⟨fun j v hj => h j v ?_, h 18 _ rfl⟩
  unfold itC
  rw [List.getElem?_append_left (List.getElem?_eq_some_iff.1 hj).1]
  exact hj
theorem RItems.get {w : World} {base : Nat} {v : Value} {l : List It} (h : RItems w base v l) (hl : l ≠ []) : ∃ q cap, v = .slice (some ⟨q, 0, none⟩) l.length cap ∧ w.rangeAt q 0 (flatI l) ∧ q < w.heap.size := by
  obtain ⟨hln, ⟨rfl, hn⟩ | ⟨g, cap, cur, rfl, hb, hg, hnc, hm, hsz, hcur⟩⟩ := h
  · exact absurd (List.eq_nil_of_length_eq_zero hn) hl
  · refine ⟨g, cap, rfl, fun j v hj => ?_, (Array.getElem?_eq_some_iff.1 hg).1⟩
    have hjl : j < l.length * 19 := by
      rw [← hln]
      exact (List.getElem?_eq_some_iff.1 hj).1
    unfold World.cell?
    rw [hg]
    show cur[0 + j]? = _
    rw [Nat.zero_add, ← Array.getElem?_toList, ← hj, ← hcur, List.getElem?_take, if_pos hjl]

set_option maxRecDepth 100000 in
set_option maxHeartbeats 8000000 in
theorem same_any (w : World) (ba bb : Nat) (va vb : Value) (l : List It) (hA : Items w ba va l) (hB : RItems w bb vb l) (hl : l.length ≤ 1000000) :
    Calls Try.prog 10 #[va, vb] w fun e w' => e = .returned (.bool true) ∧ Turn [] w w' := by
  obtain ⟨aa, ca, ha⟩ := hA.form
  obtain ⟨ab, cb, hb⟩ := hB.form
  subst ha hb
  have HAll := hide hA
  have Hone := hide hB
  obtain ⟨K, hK⟩ : ∃ K, K = l.length := ⟨_, rfl⟩
  have HK := hide hK
  rw [← hK] at hl ⊢
  have HT0 := hide (Turn.refl [] w)
  clear hA hB hK
  go_enter Try.func10, Try.ntmps10
  go_wp2_with fail
  go_loopw [5] (fun u5 wr => ∃ (k : Nat), k ≤ K ∧ u5 = .int .i64 (k : Nat) ∧ Hid (Turn [] w wr)) (fun u5 _ => K - (intOf u5).toNat)
  case atStart => exact ⟨0, Nat.zero_le _, rfl, HT0⟩
  case round =>
    obtain ⟨k, hk, rfl, HTz⟩ := hrel
    clear HT0
    by_cases hkl : k < K
    · have hne : l ≠ [] := fun e => by have := HK.out; rw [e] at this; simp at this; omega
      obtain ⟨qa, c1, e1, hr1, hq1⟩ := Items.get HAll.out hne
      obtain ⟨qb, c2, e2, hr2, hq2⟩ := RItems.get Hone.out hne
      injection e1 with e1 _ _
      injection e2 with e2 _ _
      subst e1 e2
      have hr1' := rangeAt_keep (flatI_at hr1 (k := k) (by have := HK.out; omega)) (HTz.out.block qa hq1 (by simp))
      have hr2' := rangeAt_keep (flatI_at hr2 (k := k) (by have := HK.out; omega)) (HTz.out.block qb hq2 (by simp))
      rw [Nat.zero_add] at hr1' hr2'
      obtain ⟨x1, x2⟩ := it_front hr1'
      obtain ⟨y1, y2⟩ := it_front hr2'
      generalize (l[k]'(by have := HK.out; omega)) = X at *
      have HNe := hide (neq_rq X.r)
      have iI : Hid ((Try.prog.info? 43).map (·.size) = some (rqC X.r).length) := sz25.1
      have HTd := hide HTz.out.drew
      generalize rqC X.r = cr at *
      generalize X.e = ee at *
      have hS : wr.rangeAt qa (k * 19) cr ∧ wr.cell? ⟨qa, k * 19 + 18, none⟩ = some (.int .i64 (ee : Nat)) ∧ wr.rangeAt qb (k * 19) cr ∧ wr.cell? ⟨qb, k * 19 + 18, none⟩ = some (.int .i64 (ee : Nat)) := ⟨x1, x2, y1, y2⟩
      have HS := hide hS
      have hq1z : qa < wr.heap.size := by have := HTz.out.size; omega
      have hq2z : qb < wr.heap.size := by have := HTz.out.size; omega
      clear hr1 hr2 hr1' hr2' hS hne HAll Hone x1 x2 y1 y2
      go_upto_region 6 with fail
      refine wp_region_noPanic ?_
      refine wp_region_held_drew (S := fun W => W.rangeAt qa (k * 19) cr ∧ W.cell? ⟨qa, k * 19 + 18, none⟩ = some (.int .i64 (ee : Nat)) ∧ W.rangeAt qb (k * 19) cr ∧ W.cell? ⟨qb, k * 19 + 18, none⟩ = some (.int .i64 (ee : Nat))) (by kernel_rfl) HS.out (fun hHeld => ?_)
      refine' wpAnyH_take (i := 0) (oi := { dst := some 17, op := Go.Op.move (Go.Operand.tmp 0), type := 34, pos := "law.go:28", after := #[], guard := none }) (v := _) rfl (by kernel_rfl) (by kernel_rfl) (by kernel_rfl) (fun _ _ _ h => h) (Or.inl ⟨by rfl, ?_⟩) (by assumption) ?_
      rotate_left
      · intro w hSw; (try dsimp only at hSw); go_simp <;> with_reducible rfl
      simp only [Act.put, List.setIfInBounds_toArray, List.set_cons_zero, List.set_cons_succ]
      refine' wpAnyH_take (i := 1) (oi := { dst := some 18, op := Go.Op.move (Go.Operand.tmp 5), type := 3, pos := "law.go:28", after := #[], guard := none }) (v := _) rfl (by kernel_rfl) (by kernel_rfl) (by kernel_rfl) (fun _ _ _ h => h) (Or.inl ⟨by rfl, ?_⟩) (by assumption) ?_
      rotate_left
      · intro w hSw; (try dsimp only at hSw); go_simp <;> with_reducible rfl
      simp only [Act.put, List.setIfInBounds_toArray, List.set_cons_zero, List.set_cons_succ]
      refine' wpAnyH_take (i := 2) (oi := { dst := some 19, op := Go.Op.indexAddr 34 (Go.Operand.tmp 17) (Go.Operand.tmp 18), type := 0, pos := "law.go:28", after := #[{ on := 0, ground := Go.Ground.data }, { on := 1, ground := Go.Ground.data }], guard := none }) (v := .pointer (some ⟨qa, k * 19, none⟩)) rfl (by kernel_rfl) (by kernel_rfl) (by kernel_rfl) (fun _ _ _ h => h) (Or.inl ⟨by rfl, ?_⟩) (by assumption) ?_
      · intro w hSw; go_simp
      simp only [Act.put, List.setIfInBounds_toArray, List.set_cons_zero, List.set_cons_succ]
      refine' wpAnyH_take (i := 3) (oi := { dst := some 20, op := Go.Op.fieldAddr 46 (Go.Operand.tmp 19) 0, type := 0, pos := "law.go:28", after := #[{ on := 2, ground := Go.Ground.data }], guard := none }) (v := .pointer (some ⟨qa, k * 19, none⟩)) rfl (by kernel_rfl) (by kernel_rfl) (by kernel_rfl) (fun _ _ _ h => h) (Or.inl ⟨by rfl, ?_⟩) (by assumption) ?_
      · intro w hSw; go_simp
      simp only [Act.put, List.setIfInBounds_toArray, List.set_cons_zero, List.set_cons_succ]
      refine' wpAnyH_take (i := 4) (oi := { dst := some 21, op := Go.Op.load 43 (Go.Operand.tmp 20), type := 43, pos := "law.go:28", after := #[{ on := 3, ground := Go.Ground.data }], guard := none }) (v := .agg cr.toArray) rfl (by kernel_rfl) (by kernel_rfl) (by kernel_rfl) (fun _ _ _ h => h) (yieldsIf_load_mid (by rfl) _ _ rfl _ _ rfl _ _ (fun W hW => hW.1) fo25 rfl iI.out) (by assumption) ?_
      simp only [Act.put, List.setIfInBounds_toArray, List.set_cons_zero, List.set_cons_succ]
      refine' wpAnyH_take (i := 5) (oi := { dst := some 22, op := Go.Op.move (Go.Operand.tmp 1), type := 36, pos := "law.go:28", after := #[], guard := none }) (v := _) rfl (by kernel_rfl) (by kernel_rfl) (by kernel_rfl) (fun _ _ _ h => h) (Or.inl ⟨by rfl, ?_⟩) (by assumption) ?_
      rotate_left
      · intro w hSw; (try dsimp only at hSw); go_simp <;> with_reducible rfl
      simp only [Act.put, List.setIfInBounds_toArray, List.set_cons_zero, List.set_cons_succ]
      refine' wpAnyH_take (i := 6) (oi := { dst := some 23, op := Go.Op.move (Go.Operand.tmp 5), type := 3, pos := "law.go:28", after := #[], guard := none }) (v := _) rfl (by kernel_rfl) (by kernel_rfl) (by kernel_rfl) (fun _ _ _ h => h) (Or.inl ⟨by rfl, ?_⟩) (by assumption) ?_
      rotate_left
      · intro w hSw; (try dsimp only at hSw); go_simp <;> with_reducible rfl
      simp only [Act.put, List.setIfInBounds_toArray, List.set_cons_zero, List.set_cons_succ]
      refine' wpAnyH_take (i := 7) (oi := { dst := some 24, op := Go.Op.indexAddr 36 (Go.Operand.tmp 22) (Go.Operand.tmp 23), type := 0, pos := "law.go:28", after := #[{ on := 5, ground := Go.Ground.data }, { on := 6, ground := Go.Ground.data }], guard := none }) (v := .pointer (some ⟨qb, k * 19, none⟩)) rfl (by kernel_rfl) (by kernel_rfl) (by kernel_rfl) (fun _ _ _ h => h) (Or.inl ⟨by rfl, ?_⟩) (by assumption) ?_
      · intro w hSw; go_simp
      simp only [Act.put, List.setIfInBounds_toArray, List.set_cons_zero, List.set_cons_succ]
      refine' wpAnyH_take (i := 8) (oi := { dst := some 25, op := Go.Op.fieldAddr 70 (Go.Operand.tmp 24) 0, type := 0, pos := "law.go:28", after := #[{ on := 7, ground := Go.Ground.data }], guard := none }) (v := .pointer (some ⟨qb, k * 19, none⟩)) rfl (by kernel_rfl) (by kernel_rfl) (by kernel_rfl) (fun _ _ _ h => h) (Or.inl ⟨by rfl, ?_⟩) (by assumption) ?_
      · intro w hSw; go_simp
      simp only [Act.put, List.setIfInBounds_toArray, List.set_cons_zero, List.set_cons_succ]
      refine' wpAnyH_take (i := 9) (oi := { dst := some 26, op := Go.Op.load 43 (Go.Operand.tmp 25), type := 43, pos := "law.go:28", after := #[{ on := 8, ground := Go.Ground.data }], guard := none }) (v := .agg cr.toArray) rfl (by kernel_rfl) (by kernel_rfl) (by kernel_rfl) (fun _ _ _ h => h) (yieldsIf_load_mid (by rfl) _ _ rfl _ _ rfl _ _ (fun W hW => hW.2.2.1) fo25 rfl iI.out) (by assumption) ?_
      simp only [Act.put, List.setIfInBounds_toArray, List.set_cons_zero, List.set_cons_succ]
      refine' wpAnyH_take (i := 10) (oi := { dst := some 27, op := Go.Op.binOp Go.BinOp.neq 43 (Go.Operand.tmp 21) (Go.Operand.tmp 26) 43, type := 4, pos := "law.go:28", after := #[{ on := 4, ground := Go.Ground.data }, { on := 9, ground := Go.Ground.data }], guard := none }) (v := .bool false) rfl (by kernel_rfl) (by kernel_rfl) (by kernel_rfl) (fun _ _ _ h => h) (yieldsIf_neq (by rfl) _ _ _ _ rfl _ _ rfl rfl false eqgR HNe.out) (by assumption) ?_
      simp only [Act.put, List.setIfInBounds_toArray, List.set_cons_zero, List.set_cons_succ]
      refine' wpAnyH_take (i := 11) (oi := { dst := some 28, op := Go.Op.move (Go.Operand.tmp 27), type := 4, pos := "law.go:28", after := #[{ on := 10, ground := Go.Ground.data }], guard := none }) (v := _) rfl (by kernel_rfl) (by kernel_rfl) (by kernel_rfl) (fun _ _ _ h => h) (Or.inl ⟨by rfl, ?_⟩) (by assumption) ?_
      rotate_left
      · intro w hSw; (try dsimp only at hSw); go_simp <;> with_reducible rfl
      simp only [Act.put, List.setIfInBounds_toArray, List.set_cons_zero, List.set_cons_succ]
      refine' wpAnyH_take (i := 12) (oi := { dst := some 29, op := Go.Op.move (Go.Operand.tmp 0), type := 34, pos := "law.go:28", after := #[{ on := 11, ground := Go.Ground.guard }], guard := some (11, false) }) (v := _) rfl (by kernel_rfl) (by kernel_rfl) (by kernel_rfl) (fun _ _ _ h => h) (Or.inl ⟨by rfl, ?_⟩) (by assumption) ?_
      rotate_left
      · intro w hSw; (try dsimp only at hSw); go_simp <;> with_reducible rfl
      simp only [Act.put, List.setIfInBounds_toArray, List.set_cons_zero, List.set_cons_succ]
      refine' wpAnyH_take (i := 13) (oi := { dst := some 30, op := Go.Op.move (Go.Operand.tmp 5), type := 3, pos := "law.go:28", after := #[{ on := 11, ground := Go.Ground.guard }], guard := some (11, false) }) (v := _) rfl (by kernel_rfl) (by kernel_rfl) (by kernel_rfl) (fun _ _ _ h => h) (Or.inl ⟨by rfl, ?_⟩) (by assumption) ?_
      rotate_left
      · intro w hSw; (try dsimp only at hSw); go_simp <;> with_reducible rfl
      simp only [Act.put, List.setIfInBounds_toArray, List.set_cons_zero, List.set_cons_succ]
      refine' wpAnyH_take (i := 14) (oi := { dst := some 31, op := Go.Op.indexAddr 34 (Go.Operand.tmp 29) (Go.Operand.tmp 30), type := 0, pos := "law.go:28", after := #[{ on := 12, ground := Go.Ground.data }, { on := 13, ground := Go.Ground.data }, { on := 11, ground := Go.Ground.guard }], guard := some (11, false) }) (v := .pointer (some ⟨qa, k * 19, none⟩)) rfl (by kernel_rfl) (by kernel_rfl) (by kernel_rfl) (fun _ _ _ h => h) (Or.inl ⟨by rfl, ?_⟩) (by assumption) ?_
      · intro w hSw; go_simp
      simp only [Act.put, List.setIfInBounds_toArray, List.set_cons_zero, List.set_cons_succ]
      refine' wpAnyH_take (i := 15) (oi := { dst := some 32, op := Go.Op.fieldAddr 46 (Go.Operand.tmp 31) 1, type := 0, pos := "law.go:28", after := #[{ on := 14, ground := Go.Ground.data }, { on := 11, ground := Go.Ground.guard }], guard := some (11, false) }) (v := .pointer (some ⟨qa, k * 19 + 18, none⟩)) rfl (by kernel_rfl) (by kernel_rfl) (by kernel_rfl) (fun _ _ _ h => h) (Or.inl ⟨by rfl, ?_⟩) (by assumption) ?_
      · intro w hSw; go_simp
      simp only [Act.put, List.setIfInBounds_toArray, List.set_cons_zero, List.set_cons_succ]
      refine' wpAnyH_take (i := 16) (oi := { dst := some 33, op := Go.Op.load 44 (Go.Operand.tmp 32), type := 44, pos := "law.go:28", after := #[{ on := 15, ground := Go.Ground.data }, { on := 11, ground := Go.Ground.guard }], guard := some (11, false) }) (v := .int .i64 (ee : Nat)) rfl (by kernel_rfl) (by kernel_rfl) (by kernel_rfl) (fun _ _ _ h => h) (Or.inl ⟨by rfl, ?_⟩) (by assumption) ?_
      · intro w hSw; obtain ⟨_, z1, _, z2⟩ := hSw; go_simp
      simp only [Act.put, List.setIfInBounds_toArray, List.set_cons_zero, List.set_cons_succ]
      refine' wpAnyH_take (i := 17) (oi := { dst := some 34, op := Go.Op.move (Go.Operand.tmp 1), type := 36, pos := "law.go:28", after := #[{ on := 11, ground := Go.Ground.guard }], guard := some (11, false) }) (v := _) rfl (by kernel_rfl) (by kernel_rfl) (by kernel_rfl) (fun _ _ _ h => h) (Or.inl ⟨by rfl, ?_⟩) (by assumption) ?_
      rotate_left
      · intro w hSw; (try dsimp only at hSw); go_simp <;> with_reducible rfl
      simp only [Act.put, List.setIfInBounds_toArray, List.set_cons_zero, List.set_cons_succ]
      refine' wpAnyH_take (i := 18) (oi := { dst := some 35, op := Go.Op.move (Go.Operand.tmp 5), type := 3, pos := "law.go:28", after := #[{ on := 11, ground := Go.Ground.guard }], guard := some (11, false) }) (v := _) rfl (by kernel_rfl) (by kernel_rfl) (by kernel_rfl) (fun _ _ _ h => h) (Or.inl ⟨by rfl, ?_⟩) (by assumption) ?_
      rotate_left
      · intro w hSw; (try dsimp only at hSw); go_simp <;> with_reducible rfl
      simp only [Act.put, List.setIfInBounds_toArray, List.set_cons_zero, List.set_cons_succ]
      refine' wpAnyH_take (i := 19) (oi := { dst := some 36, op := Go.Op.indexAddr 36 (Go.Operand.tmp 34) (Go.Operand.tmp 35), type := 0, pos := "law.go:28", after := #[{ on := 17, ground := Go.Ground.data }, { on := 18, ground := Go.Ground.data }, { on := 11, ground := Go.Ground.guard }], guard := some (11, false) }) (v := .pointer (some ⟨qb, k * 19, none⟩)) rfl (by kernel_rfl) (by kernel_rfl) (by kernel_rfl) (fun _ _ _ h => h) (Or.inl ⟨by rfl, ?_⟩) (by assumption) ?_
      · intro w hSw; go_simp
      simp only [Act.put, List.setIfInBounds_toArray, List.set_cons_zero, List.set_cons_succ]
      refine' wpAnyH_take (i := 20) (oi := { dst := some 37, op := Go.Op.fieldAddr 70 (Go.Operand.tmp 36) 1, type := 0, pos := "law.go:28", after := #[{ on := 19, ground := Go.Ground.data }, { on := 11, ground := Go.Ground.guard }], guard := some (11, false) }) (v := .pointer (some ⟨qb, k * 19 + 18, none⟩)) rfl (by kernel_rfl) (by kernel_rfl) (by kernel_rfl) (fun _ _ _ h => h) (Or.inl ⟨by rfl, ?_⟩) (by assumption) ?_
      · intro w hSw; go_simp
      simp only [Act.put, List.setIfInBounds_toArray, List.set_cons_zero, List.set_cons_succ]
      refine' wpAnyH_take (i := 21) (oi := { dst := some 38, op := Go.Op.load 3 (Go.Operand.tmp 37), type := 3, pos := "law.go:28", after := #[{ on := 20, ground := Go.Ground.data }, { on := 11, ground := Go.Ground.guard }], guard := some (11, false) }) (v := .int .i64 (ee : Nat)) rfl (by kernel_rfl) (by kernel_rfl) (by kernel_rfl) (fun _ _ _ h => h) (Or.inl ⟨by rfl, ?_⟩) (by assumption) ?_
      · intro w hSw; obtain ⟨_, z1, _, z2⟩ := hSw; go_simp
      simp only [Act.put, List.setIfInBounds_toArray, List.set_cons_zero, List.set_cons_succ]
      refine' wpAnyH_take (i := 22) (oi := { dst := some 39, op := Go.Op.binOp Go.BinOp.neq 3 (Go.Operand.tmp 33) (Go.Operand.tmp 38) 3, type := 4, pos := "law.go:28", after := #[{ on := 16, ground := Go.Ground.data }, { on := 21, ground := Go.Ground.data }, { on := 11, ground := Go.Ground.guard }], guard := some (11, false) }) (v := _) rfl (by kernel_rfl) (by kernel_rfl) (by kernel_rfl) (fun _ _ _ h => h) (Or.inl ⟨by rfl, ?_⟩) (by assumption) ?_
      rotate_left
      · intro w hSw; (try dsimp only at hSw); go_simp <;> with_reducible rfl
      simp only [Act.put, List.setIfInBounds_toArray, List.set_cons_zero, List.set_cons_succ]
      refine' wpAnyH_take (i := 23) (oi := { dst := some 40, op := Go.Op.pick (Go.Operand.tmp 28) (Go.Operand.const (Go.Value.bool true)) (Go.Operand.tmp 39), type := 4, pos := "law.go:28", after := #[{ on := 11, ground := Go.Ground.data }, { on := 22, ground := Go.Ground.data }], guard := none }) (v := _) rfl (by kernel_rfl) (by kernel_rfl) (by kernel_rfl) (fun _ _ _ h => h) (Or.inl ⟨by rfl, ?_⟩) (by assumption) ?_
      rotate_left
      · intro w hSw; (try dsimp only at hSw); go_simp <;> with_reducible rfl
      simp only [Act.put, List.setIfInBounds_toArray, List.set_cons_zero, List.set_cons_succ]
      refine wpAnyH_done (by kernel_rfl) ?_ _
      refine NoPanic.normal ?_
      go_wp2_with fail
      refine ⟨⟨k + 1, by omega, ?_, HTd⟩, ?_⟩
      · exact congrArg (Value.int .i64) (by omega)
      · first | omega | (simp [intOf]; omega) | (simp; omega)
    · clear HAll Hone
      go_wp2_with fail
      go_ret
      exact ⟨rfl, HTz.out⟩

end Go.Proofs.Ytmmbckchaklhaaa.Se

/-
  SessionPlays, walked: whatever bytes come, piece by piece, the items are the document's.
-/
namespace Go.Proofs.Ytmmbckchaklhaaa.Se
open Go.RowKit Go.Maps

theorem Mine.low {B B' : Nat} {w : World} {g : Nat} {mo : Option Nat} {s : Ss} (h : Mine B w g mo s) (hB : B' ≤ B) : Mine B' w g mo s := ⟨h.at_, fun x hx => ⟨Nat.le_trans hB (h.up x hx).1, (h.up x hx).2⟩, h.h8⟩
/-- The two sessions beside one another, and the bytes that are still to come. -/
structure Py (w0 wr : World) (g1 g2 : Nat) (mo : Option Nat) (A : Option Addr) (C : Nat) (a : Option Addr) (c : Nat) (l : List Nat) (S : Ss) : Prop where
  m1 : Mine w0.heap.size wr g1 mo S
  rf : RefAt wr g2 A C S
  byr : Byr wr a c l
  g2o : g2 ∉ own g1 mo
  g2l : w0.heap.size ≤ g2
  apA : ∀ x, A = some x → x.block ∉ own g1 mo
  blk : ∀ x, l ≠ [] → a = some x → x.block ∉ own g1 mo ∧ x.block ≠ g2 ∧ x.block < wr.heap.size
  len : l.length ≤ 24000
  tn : Turn [] w0 wr
theorem Py.turn {w0 wr w' : World} {g1 g2 : Nat} {mo : Option Nat} {A : Option Addr} {C : Nat} {a : Option Addr} {c : Nat} {l : List Nat} {S : Ss} (h : Py w0 wr g1 g2 mo A C a c l S) {T : List Nat} (hT : Turn T wr w') (h0 : ∀ x ∈ T, w0.heap.size ≤ x) (h1 : ∀ x ∈ own g1 mo, x ∉ T) (h2 : g2 ∉ T) (hA : ∀ x, A = some x → x.block ∉ T) (hb : ∀ x, l ≠ [] → a = some x → x.block ∉ T) : Py w0 w' g1 g2 mo A C a c l S :=
  ⟨h.m1.turn hT h1, h.rf.turn hT h2 hA, h.byr.keepS hT hb, h.g2o, h.g2l, h.apA, fun x h3 h4 => ⟨(h.blk x h3 h4).1, (h.blk x h3 h4).2.1, by have := (h.blk x h3 h4).2.2; have := hT.size; omega⟩, h.len, h.tn.then hT (fun x hx => .inr (h0 x hx))⟩
theorem Py.keep {w0 wr w' : World} {g1 g2 : Nat} {mo : Option Nat} {A : Option Addr} {C : Nat} {a : Option Addr} {c : Nat} {l : List Nat} {S : Ss} (h : Py w0 wr g1 g2 mo A C a c l S) (hT : Turn [] wr w') : Py w0 w' g1 g2 mo A C a c l S :=
  h.turn hT (by simp) (by simp) (by simp) (by simp) (by simp)
theorem Py.drop {w0 wr : World} {g1 g2 : Nat} {mo : Option Nat} {A : Option Addr} {C : Nat} {a : Option Addr} {c : Nat} {l : List Nat} {S : Ss} (h : Py w0 wr g1 g2 mo A C a c l S) (n : Nat) : Py w0 wr g1 g2 mo A C (hiA a c n) (c - n) (l.drop n) S :=
  ⟨h.m1, h.rf, h.byr.drop n, h.g2o, h.g2l, h.apA, fun x h3 h4 => by
    obtain ⟨y, hy, hyx⟩ := hiA_block h4
    have := h.blk y (fun e => h3 (by rw [e]; simp)) hy
    rw [hyx] at this
    exact this, by rw [List.length_drop]; have := h.len; omega, h.tn⟩
/-- Behind a piece. -/
theorem Py.fed {w0 wd w5 w6 : World} {g1 g2 : Nat} {mo mo' : Option Nat} {A A' : Option Addr} {C C' : Nat} {a : Option Addr} {c : Nat} {l : List Nat} {S S' : Ss} {L : List It} {v1 v2 : Value} (h : Py w0 wd g1 g2 mo A C a c l S) (hP : MP w0.heap.size wd g1 mo L S' v1 mo' w5) (hR : RfP w5 g2 A L S' v2 A' C' w6) : Py w0 w6 g1 g2 mo' A' C' a c l S' := by
  have hg := h.rf.cs.lt
  have hs5 := hP.tn.size
  have hs6 := hR.tn.size
  have hg2 : g2 ∉ own g1 mo' := fun hm => by
    rcases hP.new _ hm with k | k
    · exact h.g2o k
    · omega
  refine ⟨hP.mine.turn hR.tn (fun x hx hm => hg2 (by rw [List.mem_singleton] at hm; rw [← hm]; exact hx)), hR.ref, (h.byr.keepS hP.tn (fun x h1 h2 => (h.blk x h1 h2).1)).keepS hR.tn (fun x h1 h2 hm => (h.blk x h1 h2).2.1 (List.mem_singleton.1 hm)), hg2, h.g2l, fun x e hm => ?_, fun x h1 h2 => ⟨fun hm => ?_, (h.blk x h1 h2).2.1, by have := (h.blk x h1 h2).2.2; omega⟩, h.len, (h.tn.then hP.tn (fun x hx => .inr (h.m1.up x hx).1)).then hR.tn (fun x hx => .inr (by rw [List.mem_singleton.1 hx]; exact h.g2l))⟩
  · rcases hR.new x e with k | k
    · have := (hP.mine.up _ hm).2
      omega
    · rcases hP.new _ hm with j | j
      · exact h.apA x k j
      · have := (h.rf.apart x k).2
        omega
  · rcases hP.new _ hm with j | j
    · exact (h.blk x h1 h2).1 j
    · have := (h.blk x h1 h2).2.2
      omega
/-- A piece that was made between: it is nobody else's, and may be written over. -/
theorem Py.over {w0 wr wd w5 w6 wz : World} {g1 g2 : Nat} {mo mo' : Option Nat} {A A' : Option Addr} {C C' : Nat} {a : Option Addr} {c : Nat} {l : List Nat} {S S' : Ss} {L : List It} {v1 v2 : Value} (h0 : Py w0 wr g1 g2 mo A C a c l S) (h : Py w0 wd g1 g2 mo A C a c l S) (hP : MP w0.heap.size wd g1 mo L S' v1 mo' w5) (hR : RfP w5 g2 A L S' v2 A' C' w6) {w7 : World} (hT7 : Turn [] w6 w7) {T : List Nat} (hq : ∀ x ∈ T, wr.heap.size ≤ x ∧ x < wd.heap.size) (hT : Turn T w7 wz) : Py w0 wz g1 g2 mo' A' C' a c l S' := by
  have hg := h0.rf.cs.lt
  have hs5 := hP.tn.size
  have hs0 := h0.tn.size
  refine ((h.fed hP hR).keep hT7).turn hT (fun x hx => by have := (hq x hx).1; omega) (fun x hx hm => ?_) (fun hm => ?_) (fun x e hm => ?_) (fun x h1 h2 hm => ?_)
  · have h5 := hq x hm
    rcases hP.new x hx with k | k
    · have := (h0.m1.up x k).2
      omega
    · omega
  · have h5 := hq _ hm
    omega
  · have h5 := hq _ hm
    rcases hR.new x e with k | k
    · omega
    · have := (h0.rf.apart x k).2
      omega
  · have h5 := hq _ hm
    have := (h0.blk x h1 h2).2.2
    omega

/-- The ints that are asked for: cuts. -/
def Cuts (w : World) (a : Option Addr) (n : Nat) : Prop := ∀ i, i < n → ∃ b o x, a = some ⟨b, o, none⟩ ∧ w.cell? ⟨b, o + i, none⟩ = some (.int .i64 x)
theorem Cuts.keep {w w' : World} {a : Option Addr} {n : Nat} (h : Cuts w a n) (hT : Turn [] w w') : Cuts w' a n := fun i hi => by
  obtain ⟨b, o, x, h1, h2⟩ := h i hi
  exact ⟨b, o, x, h1, (hT.cell (p := ⟨b, o + i, none⟩) (lt_of_cell h2) (by simp)).trans h2⟩

theorem ref_new (w : World) : RefAt (w.alloc (.cells #[.slice none 0 0, .bool false] 32)) w.heap.size none 0 Ss.new := by
  have hb : (w.alloc (.cells #[.slice none 0 0, .bool false] 32)).heap[w.heap.size]? = some (.cells #[.slice none 0 0, .bool false] 32 (0, 0)) := Array.getElem?_push_size
  refine ⟨⟨?_, ?_, fun o => ?_⟩, ⟨.inl rfl, fun x hx => (by cases hx), Nat.le_refl _, by decide, .inl ⟨rfl, rfl⟩⟩, new_ok, fun x e => by cases e⟩
  · unfold World.cell?
    rw [hb]
    rfl
  · unfold World.cell?
    rw [hb]
    rfl
  · unfold World.frozen?
    rw [hb]
    simp

set_option maxRecDepth 100000 in
set_option maxHeartbeats 16000000 in
theorem plays_law (ra : Option Addr) (rc : Nat) (rs : List Rq) (wa : Option Addr) (wc : Nat) (raw : List (List Nat)) (ka : Option Addr) (kn kc : Nat) (w : World) (hR : RqsAt w ra rs) (hF : ∀ r ∈ rs, r.Fits) (hrl : rs.length ≤ 9223372036854775807) (hW : RowsAt w wa raw) (hwl : raw.length ≤ 9223372036854775807) (hK : Cuts w ka kn) :
    Calls Try.prog 3 #[.slice ra rs.length rc, .slice wa raw.length wc, .slice ka kn kc] w fun e w' => e = .returned (.bool true) ∧ Turn [] w w' := by
  have HBy := hide (fun (u : World) (hT : Turn [] w u) => bytes_any ra rc rs wa wc raw u (hR.turn0 hT) hF hrl (hW.turn0 hT) hwl)
  have HK := hide hK
  clear hR hF hW hK
  generalize rs.length = N at *
  generalize raw.length = M at *
  go_enter Try.func3, Try.ntmps3
  go_wp2_with fail
  refine (known_any w).mono ?_
  rintro e w1 ⟨rfl, hT1⟩
  have HT1 := hide hT1
  clear hT1
  go_upto_region 5 with (first | (go_at_call 8; refine (HBy.out _ HT1.out).mono ?_; rintro e w2 ⟨v, b, rfl, hB⟩; obtain ⟨a, c, hv, hBy⟩ := Byr.of hB.own hB.by8; have HB := hide hB; have HBr := hide hBy; clear hB hBy; subst hv) | (go_at_call 9; refine (new_any w2).mono ?_; rintro e w3 ⟨g1, rfl, hg1, hS1, hT3⟩; have Hg1 := hide hg1; have HS1 := hide hS1; have HT3 := hide hT3; clear hg1 hS1 hT3) | fail)
  have hg1l : g1 < w3.heap.size := HS1.out.lt
  have HPy0 : Hid (Py w (w3.alloc (.cells #[.slice none 0 0, .bool false] 32)) g1 w3.heap.size none none 0 a c b Ss.new) := by
    have hT4 : Turn [] w3 (w3.alloc (.cells #[.slice none 0 0, .bool false] 32)) := (Turn.refl [] w3).alloc _
    have h02 := HT1.out.trans HB.out.tn
    have s2 := h02.size
    have s3 := HT3.out.size
    have s4 := hT4.size
    have hg := Hg1.out
    have o1 : ∀ x, x ≠ g1 → x ∉ own g1 none := fun x hx hm => by
      rcases own_iff.1 hm with e | e
      · exact hx e
      · cases e
    refine ⟨((Mine.new Hg1.out HS1.out).low s2).turn0 hT4, ref_new w3, (HBr.out.turn HT3.out).turn hT4, o1 _ (by omega), by omega, fun x e => (by cases e), fun x h1 h2 => ?_, HB.out.len, (h02.trans HT3.out).trans hT4⟩
    have := HBr.out.bt.lt x h1 h2
    exact ⟨o1 _ (by omega), by omega, by omega⟩
  have hcl : b.length ≤ 24000 := HB.out.len
  clear HBy HB HBr HS1 Hg1 HT1 HT3
  generalize w3.alloc (.cells #[.slice none 0 0, .bool false] 32) = w4 at *
  generalize w3.heap.size = g2 at *
  go_wp2_with fail
  go_loopw [7, 10] (fun u7 u10 wr => ∃ (k : Nat) (A : Option Addr) (C : Nat) (a : Option Addr) (c : Nat) (l : List Nat) (S : Ss) (mo : Option Nat), k ≤ 200 ∧ u10 = .int .i64 (k : Nat) ∧ u7 = .slice a l.length c ∧ Hid (Py w wr g1 g2 mo A C a c l S)) (fun _ u10 _ => 200 - (intOf u10).toNat)
  case atStart => exact ⟨0, none, 0, a, c, b, Ss.new, none, Nat.zero_le _, rfl, rfl, HPy0⟩
  case round =>
    obtain ⟨k, A, C, a, c, l, S, mo, hk, rfl, rfl, HPy⟩ := hrel
    clear HPy0
    have hll := HPy.out.len
    have hlc := HPy.out.byr.lc
    have hcm := HPy.out.byr.cm
    unfold maxLen at hcm
    obtain ⟨n0, hn0⟩ : ∃ n, n = l.length := ⟨_, rfl⟩
    have Hn0 := hide hn0
    rw [← hn0] at hll hlc ⊢
    clear hn0
    by_cases hlt : 0 < n0 ∧ k < 200
    · obtain ⟨hlt1, hlt2⟩ := hlt
      have hd0 : decide ((k : Int) < 200) = true := decide_eq_true (by omega)
      have hd1 : decide (0 < (n0 : Int)) = true := decide_eq_true (by omega)
      go_upto_region 9 with fail
      go_upto_if 36 with fail
      go_cut [11] from 36 to 46 (fun u wx => ∃ n : Nat, n ≤ n0 ∧ u = .int .i64 (n : Nat) ∧ wx = wr)
      case first =>
        by_cases hkn : k < kn
        · obtain ⟨kb, ko, y, rfl, hy⟩ := (HK.out.keep HPy.out.tn) k hkn
          have hkb := lt_of_cell hy
          have hd : decide ((k : Int) < (kn : Int)) = true := decide_eq_true (by omega)
          clear HPy
          obtain ⟨t1, t2, _⟩ := tmod_bd y 700 (by omega)
          obtain ⟨m, hm⟩ : ∃ m, y.tmod 700 = m := ⟨_, rfl⟩
          rw [hm] at t1 t2
          by_cases hm0 : m ≤ 0
          · have hz : (0 : Int) ≤ (n0 : Int) := by omega
            go_wp2_with fail
            all_goals
              go_meet
              case rel => exact ⟨0, Nat.zero_le _, congrArg (Value.int .i64) (by omega), rfl⟩
          · have hm1 : 0 < m := by omega
            by_cases hm2 : (n0 : Int) < m
            · go_wp2_with fail
              all_goals
                go_meet
                case rel => exact ⟨n0, Nat.le_refl _, congrArg (Value.int .i64) (by omega), rfl⟩
            · have hm3 : m ≤ (n0 : Int) := by omega
              go_wp2_with fail
              all_goals
                go_meet
                case rel => exact ⟨m.toNat, by omega, congrArg (Value.int .i64) (by omega), rfl⟩
        · have hd : decide ((k : Int) < (kn : Int)) = false := decide_eq_false (by omega)
          go_wp2_with fail
          go_meet
          case rel => exact ⟨n0, Nat.le_refl _, rfl, rfl⟩
      case rest =>
      obtain ⟨n, hn, rfl, hwc⟩ := hcut
      subst wc
      have hsl := fun u => slice_lo a n0 c n u (by omega)
      have htl : (l.take n).length = n := by rw [List.length_take]; have := Hn0.out; omega
      have Htl := hide htl
      have HO1 := hide (own_empty wr)
      have HBt1 := hide ((HPy.out.byr.take n).bt.turn (S := []) ((Turn.refl [] wr).alloc (.cells #[] 5)) (by simp))
      have HNl : Hid (a = none → c = 0) := fun e => by
        rcases HPy.out.byr.ad with ⟨_, h⟩ | ⟨_, _, h⟩
        · exact h
        · rw [e] at h
          cases h
      have hbase1 : wr.heap.size ≤ (wr.alloc (.cells #[] 5)).heap.size := by simp
      clear htl
      go_upto_region 12 with (first | (at_builtin; (with_reducible refine append_b rfl _ _ rfl wr.heap.size (.slice (some ⟨wr.heap.size, 0, none⟩) 0 0) [] 0 rfl rfl HO1.out a n c (l.take n) Htl.out rfl HBt1.out HNl.out ?_ hbase1 ?_); omega; intro v4 w4 k1 k2 k3; rw [Nat.zero_add, List.nil_append] at k1; obtain ⟨A4, C4, hv4⟩ := own_form k1; have HT4 : Hid (Turn [] wr w4) := ((Turn.refl [] wr).alloc _).grown k2 (fun _ hk => .inr (own_ge HO1.out hk).1); have HO4 := hide k1; clear k1 k2 k3; subst hv4) | fail)
      have HPd := hide (HPy.out.keep HT4.out.drew)
      have h8 : ∀ x ∈ l.take n, x < 256 := fun x hx => HPy.out.byr.by8 x (List.mem_of_mem_take hx)
      have HOd : Hid (w4.drew.ownsRow wr.heap.size 5 1 (.slice A4 n C4) n ((l.take n).map byteCell)) := own_keepS HO4.out ((Turn.refl [] w4).drew) (by simp)
      have hFe : Calls Try.prog 11 #[.pointer (some ⟨g1, 0, none⟩), .slice A4 n C4] w4.drew fun e w' => ∃ v mo', e = .returned v ∧ MP w.heap.size w4.drew g1 mo (feed S (l.take n)).1 (feed S (l.take n)).2 v mo' w' := by
        obtain ⟨a', c', hv, hB⟩ := Byr.of HOd.out h8
        injection hv with e1 e2 e3
        subst e1 e3
        have := feed_mine (B := w.heap.size) HPd.out.tn.size HPd.out.m1 A4 C4 (l.take n) hB (fun x _ e hm => by
          have h1 := (own_ge (q := x.block) HOd.out (by rw [e]; rfl)).1
          have h2 := (HPy.out.m1.up _ hm).2
          omega) (by rw [Htl.out]; omega)
        rwa [Htl.out] at this
      have HFe := hide hFe
      have HRs : Hid (∀ w5 : World, RefAt w5 g2 A C S → Byr w5 a c (l.take n) → Calls Try.prog 12 #[.pointer (some ⟨g2, 0, none⟩), .slice a n c] w5 fun e w' => ∃ v A' C', e = .returned v ∧ RfP w5 g2 A (feed S (l.take n)).1 (feed S (l.take n)).2 v A' C' w') := fun w5 h1 h2 => by
        have := rfeed_any h1 a c (l.take n) h2 (by have := h1.ok.le; rw [Htl.out]; omega)
        rwa [Htl.out] at this
      have hLl : (feed S (l.take n)).1.length ≤ 1000000 := by
        have h1 := feed_len S (l.take n)
        have h2 := HPy.out.rf.ok.le
        rw [Htl.out] at h1
        omega
      have HLl := hide hLl
      have hPyl : g1 < w4.drew.heap.size := HPd.out.m1.at_.lt
      have hPyg : g2 < w4.drew.heap.size := HPd.out.rf.cs.lt
      have hc24 : n ≤ C4 ∧ C4 ≤ 9223372036854775807 := by
        obtain ⟨a', c', hv, hB⟩ := Byr.of HOd.out h8
        injection hv with e1 e2 e3
        subst e1 e3
        have h1 := hB.lc
        have h2 := hB.cm
        rw [Htl.out] at h1
        unfold maxLen at h2
        omega
      clear hFe hLl h8 HO1 HBt1 hbase1
      generalize (feed S (l.take n)).1 = L at *
      generalize (feed S (l.take n)).2 = S' at *
      go_cut [79] from 51 to 80 (fun u wx => u = .bool false ∧ ∃ v1 v2 mo' A' C' w5 w6, Hid (MP w.heap.size w4.drew g1 mo L S' v1 mo' w5 ∧ RfP w5 g2 A L S' v2 A' C' w6 ∧ Turn [] w6 wx))
      case first =>
        refine wp_region_noPanic ?_
        refine wp_region_held_drew (S := fun _ => True) (by kernel_rfl) trivial (fun hHeld => ?_)
        refine' wpAnyH_take (i := 0) (oi := { dst := some 51, op := Go.Op.move (Go.Operand.tmp 8), type := 28, pos := "law.go:71", after := #[], guard := none }) (v := _) rfl (by kernel_rfl) (by kernel_rfl) (by kernel_rfl) (fun _ _ _ h => h) (Or.inl ⟨by rfl, ?_⟩) (by assumption) ?_
        rotate_left
        · intro w hSw; (try dsimp only at hSw); go_simp <;> with_reducible rfl
        simp only [Act.put, List.setIfInBounds_toArray, List.set_cons_zero, List.set_cons_succ]
        refine' wpAnyH_take (i := 1) (oi := { dst := some 52, op := Go.Op.move (Go.Operand.tmp 12), type := 26, pos := "law.go:71", after := #[], guard := none }) (v := _) rfl (by kernel_rfl) (by kernel_rfl) (by kernel_rfl) (fun _ _ _ h => h) (Or.inl ⟨by rfl, ?_⟩) (by assumption) ?_
        rotate_left
        · intro w hSw; (try dsimp only at hSw); go_simp <;> with_reducible rfl
        simp only [Act.put, List.setIfInBounds_toArray, List.set_cons_zero, List.set_cons_succ]
        refine' wpAnyH_take (i := 3) (oi := { dst := some 54, op := Go.Op.move (Go.Operand.tmp 9), type := 30, pos := "law.go:71", after := #[], guard := none }) (v := _) rfl (by kernel_rfl) (by kernel_rfl) (by kernel_rfl) (fun _ _ _ h => h) (Or.inl ⟨by rfl, ?_⟩) (by assumption) ?_
        rotate_left
        · intro w hSw; (try dsimp only at hSw); go_simp <;> with_reducible rfl
        simp only [Act.put, List.setIfInBounds_toArray, List.set_cons_zero, List.set_cons_succ]
        refine' wpAnyH_take (i := 4) (oi := { dst := some 55, op := Go.Op.move (Go.Operand.tmp 7), type := 26, pos := "law.go:71", after := #[], guard := none }) (v := _) rfl (by kernel_rfl) (by kernel_rfl) (by kernel_rfl) (fun _ _ _ h => h) (Or.inl ⟨by rfl, ?_⟩) (by assumption) ?_
        rotate_left
        · intro w hSw; (try dsimp only at hSw); go_simp <;> with_reducible rfl
        simp only [Act.put, List.setIfInBounds_toArray, List.set_cons_zero, List.set_cons_succ]
        refine' wpAnyH_take (i := 5) (oi := { dst := some 56, op := Go.Op.move (Go.Operand.tmp 11), type := 3, pos := "law.go:71", after := #[], guard := none }) (v := _) rfl (by kernel_rfl) (by kernel_rfl) (by kernel_rfl) (fun _ _ _ h => h) (Or.inl ⟨by rfl, ?_⟩) (by assumption) ?_
        rotate_left
        · intro w hSw; (try dsimp only at hSw); go_simp <;> with_reducible rfl
        simp only [Act.put, List.setIfInBounds_toArray, List.set_cons_zero, List.set_cons_succ]
        refine' wpAnyH_take (i := 6) (oi := { dst := some 57, op := Go.Op.slice 26 (Go.Operand.tmp 55) none (some (Go.Operand.tmp 56)) none, type := 26, pos := "law.go:71", after := #[{ on := 4, ground := Go.Ground.data }, { on := 5, ground := Go.Ground.data }], guard := none }) (v := .slice a n c) rfl (by kernel_rfl) (by kernel_rfl) (by kernel_rfl) (fun _ _ _ h => h) (Or.inl ⟨by rfl, ?_⟩) (by assumption) ?_
        · intro w hSw; have e1 := hsl w; go_simp
        simp only [Act.put, List.setIfInBounds_toArray, List.set_cons_zero, List.set_cons_succ]
        refine wpAnyH_ready (rs := [2]) (by kernel_rfl) (by simp) ?_
        refine AllReadyH.cons rfl (fun K hK => ?_) AllReadyH.nil
        go_simp
        go_wp2_with (first | (go_at_call 11; refine HFe.out.mono ?_; rintro e w5 ⟨v1, mo', rfl, hP⟩; have HP := hide hP; clear hP) | fail)
        have HR5 := hide (HRs.out w5 (HPd.out.rf.turn HP.out.tn HPd.out.g2o HPd.out.apA) ((HPd.out.byr.take n).keepS HP.out.tn (fun x hx e => (HPd.out.blk x (fun e2 => hx (by rw [e2]; simp)) e).1)))
        refine hK.out _ _ trivial (fun hHeld => ?_)
        clear hK K
        try simp only [Act.put, List.setIfInBounds_toArray, List.set_cons_zero, List.set_cons_succ]
        refine wpAnyH_ready (rs := [7]) (by kernel_rfl) (by simp) ?_
        refine AllReadyH.cons rfl (fun K hK => ?_) AllReadyH.nil
        go_simp
        go_wp2_with (first | (go_at_call 12; refine HR5.out.mono ?_; rintro e w6 ⟨v2, A', C', rfl, hRf⟩; have HRf := hide hRf; clear hRf) | fail)
        have HSa := hide (same_any w6 w4.drew.heap.size w5.heap.size v1 v2 L (own_keepS HP.out.its HRf.out.tn (fun q hq hm => by
          rw [List.mem_singleton] at hm
          have h1 := (own_ge HP.out.its hq).1
          have h2 := HPd.out.rf.cs.lt
          omega)) HRf.out.its HLl.out)
        refine hK.out _ _ trivial (fun hHeld => ?_)
        clear hK K
        try simp only [Act.put, List.setIfInBounds_toArray, List.set_cons_zero, List.set_cons_succ]
        refine wpAnyH_ready (rs := [8]) (by kernel_rfl) (by simp) ?_
        refine AllReadyH.cons rfl (fun K hK => ?_) AllReadyH.nil
        go_simp
        go_wp2_with (first | (go_at_call 10; refine HSa.out.mono ?_; rintro e w7 ⟨rfl, hT7⟩; have HT7 := hide hT7; clear hT7) | fail)
        have hPy7 := (HPd.out.fed HP.out HRf.out).keep HT7.out
        have HBr : Hid (Calls Try.prog 13 #[.pointer (some ⟨g1, 0, none⟩)] w7 fun e w' => e = .returned (.bool S'.br) ∧ w' = w7) := broken_any hPy7.m1.at_
        have HWa : Hid (Calls Try.prog 14 #[.pointer (some ⟨g1, 0, none⟩)] w7 fun e w' => e = .returned (.int .i64 (S'.ws.length : Nat)) ∧ w' = w7) := waits_any hPy7.m1.at_
        have c17 := hPy7.rf.cs.c1
        have c07 := hPy7.rf.cs.c0
        have HFin : Hid (MP w.heap.size w4.drew g1 mo L S' v1 mo' w5 ∧ RfP w5 g2 A L S' v2 A' C' w6 ∧ Turn [] w6 w7) := ⟨HP.out, HRf.out, HT7.out⟩
        clear hPy7 HP HRf HT7 HSa HR5
        generalize S'.br = zb at *
        generalize S'.ws.length = zn at *
        refine hK.out _ _ trivial (fun hHeld => ?_)
        clear hK K
        try simp only [Act.put, List.setIfInBounds_toArray, List.set_cons_zero, List.set_cons_succ]
        refine' wpAnyH_take (i := 9) (oi := { dst := some 60, op := Go.Op.unOp Go.UnOp.not 4 (Go.Operand.tmp 59), type := 4, pos := "law.go:71", after := #[{ on := 8, ground := Go.Ground.data }], guard := none }) (v := .bool false) rfl (by kernel_rfl) (by kernel_rfl) (by kernel_rfl) (fun _ _ _ h => h) (Or.inl ⟨by rfl, ?_⟩) (by assumption) ?_
        · intro w hSw; go_simp
        simp only [Act.put, List.setIfInBounds_toArray, List.set_cons_zero, List.set_cons_succ]
        refine' wpAnyH_take (i := 10) (oi := { dst := some 61, op := Go.Op.move (Go.Operand.tmp 60), type := 4, pos := "law.go:71", after := #[{ on := 9, ground := Go.Ground.data }, { on := 8, ground := Go.Ground.chain }], guard := none }) (v := _) rfl (by kernel_rfl) (by kernel_rfl) (by kernel_rfl) (fun _ _ _ h => h) (Or.inl ⟨by rfl, ?_⟩) (by assumption) ?_
        rotate_left
        · intro w hSw; (try dsimp only at hSw); go_simp <;> with_reducible rfl
        simp only [Act.put, List.setIfInBounds_toArray, List.set_cons_zero, List.set_cons_succ]
        refine' wpAnyH_take (i := 11) (oi := { dst := some 62, op := Go.Op.move (Go.Operand.tmp 8), type := 28, pos := "law.go:71", after := #[{ on := 10, ground := Go.Ground.guard }], guard := some (10, false) }) (v := _) rfl (by kernel_rfl) (by kernel_rfl) (by kernel_rfl) (fun _ _ _ h => h) (Or.inl ⟨by rfl, ?_⟩) (by assumption) ?_
        rotate_left
        · intro w hSw; (try dsimp only at hSw); go_simp <;> with_reducible rfl
        simp only [Act.put, List.setIfInBounds_toArray, List.set_cons_zero, List.set_cons_succ]
        refine' wpAnyH_take (i := 13) (oi := { dst := some 64, op := Go.Op.move (Go.Operand.tmp 9), type := 30, pos := "law.go:71", after := #[{ on := 10, ground := Go.Ground.guard }], guard := some (10, false) }) (v := _) rfl (by kernel_rfl) (by kernel_rfl) (by kernel_rfl) (fun _ _ _ h => h) (Or.inl ⟨by rfl, ?_⟩) (by assumption) ?_
        rotate_left
        · intro w hSw; (try dsimp only at hSw); go_simp <;> with_reducible rfl
        simp only [Act.put, List.setIfInBounds_toArray, List.set_cons_zero, List.set_cons_succ]
        refine' wpAnyH_take (i := 14) (oi := { dst := some 65, op := Go.Op.nilCheck (Go.Operand.tmp 64), type := 0, pos := "law.go:71", after := #[{ on := 13, ground := Go.Ground.data }, { on := 10, ground := Go.Ground.guard }], guard := some (10, false) }) (v := .pointer (some ⟨g2, 0, none⟩)) rfl (by kernel_rfl) (by kernel_rfl) (by kernel_rfl) (fun _ _ _ h => h) (Or.inl ⟨by rfl, ?_⟩) (by assumption) ?_
        · intro w hSw; go_simp
        simp only [Act.put, List.setIfInBounds_toArray, List.set_cons_zero, List.set_cons_succ]
        refine' wpAnyH_take (i := 15) (oi := { dst := some 66, op := Go.Op.fieldAddr 32 (Go.Operand.tmp 65) 1, type := 0, pos := "law.go:71", after := #[{ on := 14, ground := Go.Ground.data }, { on := 10, ground := Go.Ground.guard }], guard := some (10, false) }) (v := .pointer (some ⟨g2, 1, none⟩)) rfl (by kernel_rfl) (by kernel_rfl) (by kernel_rfl) (fun _ _ _ h => h) (Or.inl ⟨by rfl, ?_⟩) (by assumption) ?_
        · intro w hSw; go_simp
        simp only [Act.put, List.setIfInBounds_toArray, List.set_cons_zero, List.set_cons_succ]
        refine wpAnyH_ready (rs := [12, 16]) (by kernel_rfl) (by simp) ?_
        refine AllReadyH.cons rfl (fun K hK => ?_) (AllReadyH.cons rfl (fun K hK => ?_) AllReadyH.nil)
        · go_simp
          go_wp2_with (first | (go_at_call 13; refine HBr.out.mono ?_; rintro e w8 ⟨rfl, hw8⟩; subst w8) | fail)
          refine hK.out _ _ trivial (fun hHeld => ?_)
          clear hK K
          try simp only [Act.put, List.setIfInBounds_toArray, List.set_cons_zero, List.set_cons_succ]
          refine wpAnyH_ready (rs := [16]) (by kernel_rfl) (by simp) ?_
          refine AllReadyH.cons rfl (fun K hK => ?_) AllReadyH.nil
          go_simp
          go_wp2_with fail
          refine hK.out _ _ trivial (fun hHeld => ?_)
          clear hK K
          try simp only [Act.put, List.setIfInBounds_toArray, List.set_cons_zero, List.set_cons_succ]
          refine' wpAnyH_take (i := 17) (oi := { dst := some 68, op := Go.Op.binOp Go.BinOp.neq 4 (Go.Operand.tmp 63) (Go.Operand.tmp 67) 4, type := 4, pos := "law.go:71", after := #[{ on := 12, ground := Go.Ground.data }, { on := 16, ground := Go.Ground.data }, { on := 10, ground := Go.Ground.guard }], guard := some (10, false) }) (v := .bool false) rfl (by kernel_rfl) (by kernel_rfl) (by kernel_rfl) (fun _ _ _ h => h) (Or.inl ⟨by rfl, ?_⟩) (by assumption) ?_
          · intro w hSw; go_simp
          simp only [Act.put, List.setIfInBounds_toArray, List.set_cons_zero, List.set_cons_succ]
          refine' wpAnyH_take (i := 18) (oi := { dst := some 69, op := Go.Op.pick (Go.Operand.tmp 61) (Go.Operand.const (Go.Value.bool true)) (Go.Operand.tmp 68), type := 4, pos := "law.go:71", after := #[{ on := 10, ground := Go.Ground.data }, { on := 17, ground := Go.Ground.data }], guard := none }) (v := .bool false) rfl (by kernel_rfl) (by kernel_rfl) (by kernel_rfl) (fun _ _ _ h => h) (Or.inl ⟨by rfl, ?_⟩) (by assumption) ?_
          · intro w hSw; go_simp
          simp only [Act.put, List.setIfInBounds_toArray, List.set_cons_zero, List.set_cons_succ]
          refine' wpAnyH_take (i := 19) (oi := { dst := some 70, op := Go.Op.move (Go.Operand.tmp 69), type := 4, pos := "law.go:71", after := #[{ on := 18, ground := Go.Ground.data }, { on := 12, ground := Go.Ground.chain }], guard := none }) (v := _) rfl (by kernel_rfl) (by kernel_rfl) (by kernel_rfl) (fun _ _ _ h => h) (Or.inl ⟨by rfl, ?_⟩) (by assumption) ?_
          rotate_left
          · intro w hSw; (try dsimp only at hSw); go_simp <;> with_reducible rfl
          simp only [Act.put, List.setIfInBounds_toArray, List.set_cons_zero, List.set_cons_succ]
          refine' wpAnyH_take (i := 20) (oi := { dst := some 71, op := Go.Op.move (Go.Operand.tmp 8), type := 28, pos := "law.go:71", after := #[{ on := 19, ground := Go.Ground.guard }], guard := some (19, false) }) (v := _) rfl (by kernel_rfl) (by kernel_rfl) (by kernel_rfl) (fun _ _ _ h => h) (Or.inl ⟨by rfl, ?_⟩) (by assumption) ?_
          rotate_left
          · intro w hSw; (try dsimp only at hSw); go_simp <;> with_reducible rfl
          simp only [Act.put, List.setIfInBounds_toArray, List.set_cons_zero, List.set_cons_succ]
          refine' wpAnyH_take (i := 22) (oi := { dst := some 73, op := Go.Op.move (Go.Operand.tmp 9), type := 30, pos := "law.go:71", after := #[{ on := 19, ground := Go.Ground.guard }], guard := some (19, false) }) (v := _) rfl (by kernel_rfl) (by kernel_rfl) (by kernel_rfl) (fun _ _ _ h => h) (Or.inl ⟨by rfl, ?_⟩) (by assumption) ?_
          rotate_left
          · intro w hSw; (try dsimp only at hSw); go_simp <;> with_reducible rfl
          simp only [Act.put, List.setIfInBounds_toArray, List.set_cons_zero, List.set_cons_succ]
          refine' wpAnyH_take (i := 23) (oi := { dst := some 74, op := Go.Op.nilCheck (Go.Operand.tmp 73), type := 0, pos := "law.go:71", after := #[{ on := 22, ground := Go.Ground.data }, { on := 19, ground := Go.Ground.guard }], guard := some (19, false) }) (v := .pointer (some ⟨g2, 0, none⟩)) rfl (by kernel_rfl) (by kernel_rfl) (by kernel_rfl) (fun _ _ _ h => h) (Or.inl ⟨by rfl, ?_⟩) (by assumption) ?_
          · intro w hSw; go_simp
          simp only [Act.put, List.setIfInBounds_toArray, List.set_cons_zero, List.set_cons_succ]
          refine' wpAnyH_take (i := 24) (oi := { dst := some 75, op := Go.Op.fieldAddr 32 (Go.Operand.tmp 74) 0, type := 0, pos := "law.go:71", after := #[{ on := 23, ground := Go.Ground.data }, { on := 19, ground := Go.Ground.guard }], guard := some (19, false) }) (v := .pointer (some ⟨g2, 0, none⟩)) rfl (by kernel_rfl) (by kernel_rfl) (by kernel_rfl) (fun _ _ _ h => h) (Or.inl ⟨by rfl, ?_⟩) (by assumption) ?_
          · intro w hSw; go_simp
          simp only [Act.put, List.setIfInBounds_toArray, List.set_cons_zero, List.set_cons_succ]
          refine wpAnyH_ready (rs := [21, 25]) (by kernel_rfl) (by simp) ?_
          refine AllReadyH.cons rfl (fun K hK => ?_) (AllReadyH.cons rfl (fun K hK => ?_) AllReadyH.nil)
          · go_simp
            go_wp2_with (first | (go_at_call 14; refine HWa.out.mono ?_; rintro e w8 ⟨rfl, hw8⟩; subst w8) | fail)
            refine hK.out _ _ trivial (fun hHeld => ?_)
            clear hK K
            try simp only [Act.put, List.setIfInBounds_toArray, List.set_cons_zero, List.set_cons_succ]
            refine wpAnyH_ready (rs := [25]) (by kernel_rfl) (by simp) ?_
            refine AllReadyH.cons rfl (fun K hK => ?_) AllReadyH.nil
            go_simp
            go_wp2_with fail
            refine hK.out _ _ trivial (fun hHeld => ?_)
            clear hK K
            try simp only [Act.put, List.setIfInBounds_toArray, List.set_cons_zero, List.set_cons_succ]
            refine' wpAnyH_take (i := 26) (oi := { dst := some 77, op := Go.Op.call { callee := Go.Callee.builtin Go.Builtin.len, args := #[Go.Operand.tmp 76], argTypes := #[26] }, type := 3, pos := "law.go:71", after := #[{ on := 25, ground := Go.Ground.data }, { on := 19, ground := Go.Ground.guard }], guard := some (19, false) }) (v := _) rfl (by kernel_rfl) (by kernel_rfl) (by kernel_rfl) (fun _ _ _ h => h) (Or.inl ⟨by rfl, ?_⟩) (by assumption) ?_
            rotate_left
            · intro w hSw; (try dsimp only at hSw); go_simp <;> with_reducible rfl
            simp only [Act.put, List.setIfInBounds_toArray, List.set_cons_zero, List.set_cons_succ]
            refine' wpAnyH_take (i := 27) (oi := { dst := some 78, op := Go.Op.binOp Go.BinOp.neq 3 (Go.Operand.tmp 72) (Go.Operand.tmp 77) 3, type := 4, pos := "law.go:71", after := #[{ on := 21, ground := Go.Ground.data }, { on := 26, ground := Go.Ground.data }, { on := 19, ground := Go.Ground.guard }], guard := some (19, false) }) (v := .bool false) rfl (by kernel_rfl) (by kernel_rfl) (by kernel_rfl) (fun _ _ _ h => h) (Or.inl ⟨by rfl, ?_⟩) (by assumption) ?_
            · intro w hSw; go_simp
            simp only [Act.put, List.setIfInBounds_toArray, List.set_cons_zero, List.set_cons_succ]
            refine' wpAnyH_take (i := 28) (oi := { dst := some 79, op := Go.Op.pick (Go.Operand.tmp 70) (Go.Operand.const (Go.Value.bool true)) (Go.Operand.tmp 78), type := 4, pos := "law.go:71", after := #[{ on := 19, ground := Go.Ground.data }, { on := 27, ground := Go.Ground.data }], guard := none }) (v := .bool false) rfl (by kernel_rfl) (by kernel_rfl) (by kernel_rfl) (fun _ _ _ h => h) (Or.inl ⟨by rfl, ?_⟩) (by assumption) ?_
            · intro w hSw; go_simp
            simp only [Act.put, List.setIfInBounds_toArray, List.set_cons_zero, List.set_cons_succ]
            refine wpAnyH_done (by kernel_rfl) ?_ _
            refine NoPanic.normal ?_
            go_wp2_with fail
            go_meet
            case rel => exact ⟨rfl, v1, v2, mo', A', C', w5, w6, HFin⟩
          · go_simp
            go_wp2_with fail
            refine hK.out _ _ trivial (fun hHeld => ?_)
            clear hK K
            try simp only [Act.put, List.setIfInBounds_toArray, List.set_cons_zero, List.set_cons_succ]
            refine' wpAnyH_take (i := 26) (oi := { dst := some 77, op := Go.Op.call { callee := Go.Callee.builtin Go.Builtin.len, args := #[Go.Operand.tmp 76], argTypes := #[26] }, type := 3, pos := "law.go:71", after := #[{ on := 25, ground := Go.Ground.data }, { on := 19, ground := Go.Ground.guard }], guard := some (19, false) }) (v := _) rfl (by kernel_rfl) (by kernel_rfl) (by kernel_rfl) (fun _ _ _ h => h) (Or.inl ⟨by rfl, ?_⟩) (by assumption) ?_
            rotate_left
            · intro w hSw; (try dsimp only at hSw); go_simp <;> with_reducible rfl
            simp only [Act.put, List.setIfInBounds_toArray, List.set_cons_zero, List.set_cons_succ]
            refine wpAnyH_ready (rs := [21]) (by kernel_rfl) (by simp) ?_
            refine AllReadyH.cons rfl (fun K hK => ?_) AllReadyH.nil
            go_simp
            go_wp2_with (first | (go_at_call 14; refine HWa.out.mono ?_; rintro e w8 ⟨rfl, hw8⟩; subst w8) | fail)
            refine hK.out _ _ trivial (fun hHeld => ?_)
            clear hK K
            try simp only [Act.put, List.setIfInBounds_toArray, List.set_cons_zero, List.set_cons_succ]
            refine' wpAnyH_take (i := 27) (oi := { dst := some 78, op := Go.Op.binOp Go.BinOp.neq 3 (Go.Operand.tmp 72) (Go.Operand.tmp 77) 3, type := 4, pos := "law.go:71", after := #[{ on := 21, ground := Go.Ground.data }, { on := 26, ground := Go.Ground.data }, { on := 19, ground := Go.Ground.guard }], guard := some (19, false) }) (v := .bool false) rfl (by kernel_rfl) (by kernel_rfl) (by kernel_rfl) (fun _ _ _ h => h) (Or.inl ⟨by rfl, ?_⟩) (by assumption) ?_
            · intro w hSw; go_simp
            simp only [Act.put, List.setIfInBounds_toArray, List.set_cons_zero, List.set_cons_succ]
            refine' wpAnyH_take (i := 28) (oi := { dst := some 79, op := Go.Op.pick (Go.Operand.tmp 70) (Go.Operand.const (Go.Value.bool true)) (Go.Operand.tmp 78), type := 4, pos := "law.go:71", after := #[{ on := 19, ground := Go.Ground.data }, { on := 27, ground := Go.Ground.data }], guard := none }) (v := .bool false) rfl (by kernel_rfl) (by kernel_rfl) (by kernel_rfl) (fun _ _ _ h => h) (Or.inl ⟨by rfl, ?_⟩) (by assumption) ?_
            · intro w hSw; go_simp
            simp only [Act.put, List.setIfInBounds_toArray, List.set_cons_zero, List.set_cons_succ]
            refine wpAnyH_done (by kernel_rfl) ?_ _
            refine NoPanic.normal ?_
            go_wp2_with fail
            go_meet
            case rel => exact ⟨rfl, v1, v2, mo', A', C', w5, w6, HFin⟩
        · go_simp
          go_wp2_with fail
          refine hK.out _ _ trivial (fun hHeld => ?_)
          clear hK K
          try simp only [Act.put, List.setIfInBounds_toArray, List.set_cons_zero, List.set_cons_succ]
          refine wpAnyH_ready (rs := [12]) (by kernel_rfl) (by simp) ?_
          refine AllReadyH.cons rfl (fun K hK => ?_) AllReadyH.nil
          go_simp
          go_wp2_with (first | (go_at_call 13; refine HBr.out.mono ?_; rintro e w8 ⟨rfl, hw8⟩; subst w8) | fail)
          refine hK.out _ _ trivial (fun hHeld => ?_)
          clear hK K
          try simp only [Act.put, List.setIfInBounds_toArray, List.set_cons_zero, List.set_cons_succ]
          refine' wpAnyH_take (i := 17) (oi := { dst := some 68, op := Go.Op.binOp Go.BinOp.neq 4 (Go.Operand.tmp 63) (Go.Operand.tmp 67) 4, type := 4, pos := "law.go:71", after := #[{ on := 12, ground := Go.Ground.data }, { on := 16, ground := Go.Ground.data }, { on := 10, ground := Go.Ground.guard }], guard := some (10, false) }) (v := .bool false) rfl (by kernel_rfl) (by kernel_rfl) (by kernel_rfl) (fun _ _ _ h => h) (Or.inl ⟨by rfl, ?_⟩) (by assumption) ?_
          · intro w hSw; go_simp
          simp only [Act.put, List.setIfInBounds_toArray, List.set_cons_zero, List.set_cons_succ]
          refine' wpAnyH_take (i := 18) (oi := { dst := some 69, op := Go.Op.pick (Go.Operand.tmp 61) (Go.Operand.const (Go.Value.bool true)) (Go.Operand.tmp 68), type := 4, pos := "law.go:71", after := #[{ on := 10, ground := Go.Ground.data }, { on := 17, ground := Go.Ground.data }], guard := none }) (v := .bool false) rfl (by kernel_rfl) (by kernel_rfl) (by kernel_rfl) (fun _ _ _ h => h) (Or.inl ⟨by rfl, ?_⟩) (by assumption) ?_
          · intro w hSw; go_simp
          simp only [Act.put, List.setIfInBounds_toArray, List.set_cons_zero, List.set_cons_succ]
          refine' wpAnyH_take (i := 19) (oi := { dst := some 70, op := Go.Op.move (Go.Operand.tmp 69), type := 4, pos := "law.go:71", after := #[{ on := 18, ground := Go.Ground.data }, { on := 12, ground := Go.Ground.chain }], guard := none }) (v := _) rfl (by kernel_rfl) (by kernel_rfl) (by kernel_rfl) (fun _ _ _ h => h) (Or.inl ⟨by rfl, ?_⟩) (by assumption) ?_
          rotate_left
          · intro w hSw; (try dsimp only at hSw); go_simp <;> with_reducible rfl
          simp only [Act.put, List.setIfInBounds_toArray, List.set_cons_zero, List.set_cons_succ]
          refine' wpAnyH_take (i := 20) (oi := { dst := some 71, op := Go.Op.move (Go.Operand.tmp 8), type := 28, pos := "law.go:71", after := #[{ on := 19, ground := Go.Ground.guard }], guard := some (19, false) }) (v := _) rfl (by kernel_rfl) (by kernel_rfl) (by kernel_rfl) (fun _ _ _ h => h) (Or.inl ⟨by rfl, ?_⟩) (by assumption) ?_
          rotate_left
          · intro w hSw; (try dsimp only at hSw); go_simp <;> with_reducible rfl
          simp only [Act.put, List.setIfInBounds_toArray, List.set_cons_zero, List.set_cons_succ]
          refine' wpAnyH_take (i := 22) (oi := { dst := some 73, op := Go.Op.move (Go.Operand.tmp 9), type := 30, pos := "law.go:71", after := #[{ on := 19, ground := Go.Ground.guard }], guard := some (19, false) }) (v := _) rfl (by kernel_rfl) (by kernel_rfl) (by kernel_rfl) (fun _ _ _ h => h) (Or.inl ⟨by rfl, ?_⟩) (by assumption) ?_
          rotate_left
          · intro w hSw; (try dsimp only at hSw); go_simp <;> with_reducible rfl
          simp only [Act.put, List.setIfInBounds_toArray, List.set_cons_zero, List.set_cons_succ]
          refine' wpAnyH_take (i := 23) (oi := { dst := some 74, op := Go.Op.nilCheck (Go.Operand.tmp 73), type := 0, pos := "law.go:71", after := #[{ on := 22, ground := Go.Ground.data }, { on := 19, ground := Go.Ground.guard }], guard := some (19, false) }) (v := .pointer (some ⟨g2, 0, none⟩)) rfl (by kernel_rfl) (by kernel_rfl) (by kernel_rfl) (fun _ _ _ h => h) (Or.inl ⟨by rfl, ?_⟩) (by assumption) ?_
          · intro w hSw; go_simp
          simp only [Act.put, List.setIfInBounds_toArray, List.set_cons_zero, List.set_cons_succ]
          refine' wpAnyH_take (i := 24) (oi := { dst := some 75, op := Go.Op.fieldAddr 32 (Go.Operand.tmp 74) 0, type := 0, pos := "law.go:71", after := #[{ on := 23, ground := Go.Ground.data }, { on := 19, ground := Go.Ground.guard }], guard := some (19, false) }) (v := .pointer (some ⟨g2, 0, none⟩)) rfl (by kernel_rfl) (by kernel_rfl) (by kernel_rfl) (fun _ _ _ h => h) (Or.inl ⟨by rfl, ?_⟩) (by assumption) ?_
          · intro w hSw; go_simp
          simp only [Act.put, List.setIfInBounds_toArray, List.set_cons_zero, List.set_cons_succ]
          refine wpAnyH_ready (rs := [21, 25]) (by kernel_rfl) (by simp) ?_
          refine AllReadyH.cons rfl (fun K hK => ?_) (AllReadyH.cons rfl (fun K hK => ?_) AllReadyH.nil)
          · go_simp
            go_wp2_with (first | (go_at_call 14; refine HWa.out.mono ?_; rintro e w8 ⟨rfl, hw8⟩; subst w8) | fail)
            refine hK.out _ _ trivial (fun hHeld => ?_)
            clear hK K
            try simp only [Act.put, List.setIfInBounds_toArray, List.set_cons_zero, List.set_cons_succ]
            refine wpAnyH_ready (rs := [25]) (by kernel_rfl) (by simp) ?_
            refine AllReadyH.cons rfl (fun K hK => ?_) AllReadyH.nil
            go_simp
            go_wp2_with fail
            refine hK.out _ _ trivial (fun hHeld => ?_)
            clear hK K
            try simp only [Act.put, List.setIfInBounds_toArray, List.set_cons_zero, List.set_cons_succ]
            refine' wpAnyH_take (i := 26) (oi := { dst := some 77, op := Go.Op.call { callee := Go.Callee.builtin Go.Builtin.len, args := #[Go.Operand.tmp 76], argTypes := #[26] }, type := 3, pos := "law.go:71", after := #[{ on := 25, ground := Go.Ground.data }, { on := 19, ground := Go.Ground.guard }], guard := some (19, false) }) (v := _) rfl (by kernel_rfl) (by kernel_rfl) (by kernel_rfl) (fun _ _ _ h => h) (Or.inl ⟨by rfl, ?_⟩) (by assumption) ?_
            rotate_left
            · intro w hSw; (try dsimp only at hSw); go_simp <;> with_reducible rfl
            simp only [Act.put, List.setIfInBounds_toArray, List.set_cons_zero, List.set_cons_succ]
            refine' wpAnyH_take (i := 27) (oi := { dst := some 78, op := Go.Op.binOp Go.BinOp.neq 3 (Go.Operand.tmp 72) (Go.Operand.tmp 77) 3, type := 4, pos := "law.go:71", after := #[{ on := 21, ground := Go.Ground.data }, { on := 26, ground := Go.Ground.data }, { on := 19, ground := Go.Ground.guard }], guard := some (19, false) }) (v := .bool false) rfl (by kernel_rfl) (by kernel_rfl) (by kernel_rfl) (fun _ _ _ h => h) (Or.inl ⟨by rfl, ?_⟩) (by assumption) ?_
            · intro w hSw; go_simp
            simp only [Act.put, List.setIfInBounds_toArray, List.set_cons_zero, List.set_cons_succ]
            refine' wpAnyH_take (i := 28) (oi := { dst := some 79, op := Go.Op.pick (Go.Operand.tmp 70) (Go.Operand.const (Go.Value.bool true)) (Go.Operand.tmp 78), type := 4, pos := "law.go:71", after := #[{ on := 19, ground := Go.Ground.data }, { on := 27, ground := Go.Ground.data }], guard := none }) (v := .bool false) rfl (by kernel_rfl) (by kernel_rfl) (by kernel_rfl) (fun _ _ _ h => h) (Or.inl ⟨by rfl, ?_⟩) (by assumption) ?_
            · intro w hSw; go_simp
            simp only [Act.put, List.setIfInBounds_toArray, List.set_cons_zero, List.set_cons_succ]
            refine wpAnyH_done (by kernel_rfl) ?_ _
            refine NoPanic.normal ?_
            go_wp2_with fail
            go_meet
            case rel => exact ⟨rfl, v1, v2, mo', A', C', w5, w6, HFin⟩
          · go_simp
            go_wp2_with fail
            refine hK.out _ _ trivial (fun hHeld => ?_)
            clear hK K
            try simp only [Act.put, List.setIfInBounds_toArray, List.set_cons_zero, List.set_cons_succ]
            refine' wpAnyH_take (i := 26) (oi := { dst := some 77, op := Go.Op.call { callee := Go.Callee.builtin Go.Builtin.len, args := #[Go.Operand.tmp 76], argTypes := #[26] }, type := 3, pos := "law.go:71", after := #[{ on := 25, ground := Go.Ground.data }, { on := 19, ground := Go.Ground.guard }], guard := some (19, false) }) (v := _) rfl (by kernel_rfl) (by kernel_rfl) (by kernel_rfl) (fun _ _ _ h => h) (Or.inl ⟨by rfl, ?_⟩) (by assumption) ?_
            rotate_left
            · intro w hSw; (try dsimp only at hSw); go_simp <;> with_reducible rfl
            simp only [Act.put, List.setIfInBounds_toArray, List.set_cons_zero, List.set_cons_succ]
            refine wpAnyH_ready (rs := [21]) (by kernel_rfl) (by simp) ?_
            refine AllReadyH.cons rfl (fun K hK => ?_) AllReadyH.nil
            go_simp
            go_wp2_with (first | (go_at_call 14; refine HWa.out.mono ?_; rintro e w8 ⟨rfl, hw8⟩; subst w8) | fail)
            refine hK.out _ _ trivial (fun hHeld => ?_)
            clear hK K
            try simp only [Act.put, List.setIfInBounds_toArray, List.set_cons_zero, List.set_cons_succ]
            refine' wpAnyH_take (i := 27) (oi := { dst := some 78, op := Go.Op.binOp Go.BinOp.neq 3 (Go.Operand.tmp 72) (Go.Operand.tmp 77) 3, type := 4, pos := "law.go:71", after := #[{ on := 21, ground := Go.Ground.data }, { on := 26, ground := Go.Ground.data }, { on := 19, ground := Go.Ground.guard }], guard := some (19, false) }) (v := .bool false) rfl (by kernel_rfl) (by kernel_rfl) (by kernel_rfl) (fun _ _ _ h => h) (Or.inl ⟨by rfl, ?_⟩) (by assumption) ?_
            · intro w hSw; go_simp
            simp only [Act.put, List.setIfInBounds_toArray, List.set_cons_zero, List.set_cons_succ]
            refine' wpAnyH_take (i := 28) (oi := { dst := some 79, op := Go.Op.pick (Go.Operand.tmp 70) (Go.Operand.const (Go.Value.bool true)) (Go.Operand.tmp 78), type := 4, pos := "law.go:71", after := #[{ on := 19, ground := Go.Ground.data }, { on := 27, ground := Go.Ground.data }], guard := none }) (v := .bool false) rfl (by kernel_rfl) (by kernel_rfl) (by kernel_rfl) (fun _ _ _ h => h) (Or.inl ⟨by rfl, ?_⟩) (by assumption) ?_
            · intro w hSw; go_simp
            simp only [Act.put, List.setIfInBounds_toArray, List.set_cons_zero, List.set_cons_succ]
            refine wpAnyH_done (by kernel_rfl) ?_ _
            refine NoPanic.normal ?_
            go_wp2_with fail
            go_meet
            case rel => exact ⟨rfl, v1, v2, mo', A', C', w5, w6, HFin⟩
      case rest =>
      obtain ⟨rfl, v1, v2, mo', A', C', w5, w6, HFin⟩ := hcut
      obtain ⟨hP, hRf, hT7⟩ := HFin.out
      have hown : ∀ q, (Value.slice A4 n C4).ownBlock = some q → wr.heap.size ≤ q ∧ q < w4.drew.heap.size := fun q hq => own_ge HOd.out hq
      have HOw : Hid (wc.ownsRow wr.heap.size 5 1 (.slice A4 n C4) n ((l.take n).map byteCell)) := own_keepS (own_keepS (own_keepS HOd.out hP.tn (fun q hq hm => by
        have h1 := (hown q hq).1
        have h2 := (HPy.out.m1.up q hm).2
        omega)) hRf.tn (fun q hq hm => by
        rw [List.mem_singleton] at hm
        have h1 := (hown q hq).1
        have h2 := HPy.out.rf.cs.lt
        omega)) hT7 (by simp)
      have HOver : Hid (∀ wz, Turn (Value.slice A4 n C4).ownBlock.toList wc wz → Py w wz g1 g2 mo' A' C' a c l S') := fun wz h => HPy.out.over HPd.out hP hRf hT7 (fun x hx => hown x (Option.mem_toList.1 hx)) h
      have HT0 : Hid (Turn (Value.slice A4 n C4).ownBlock.toList wc wc) := Turn.refl _ _
      have hsh := fun u => slice_hi a n0 c n u (by omega)
      have hg1c : g1 < wc.heap.size := (HOver.out _ HT0.out).m1.at_.lt
      clear hP hRf hT7 HFin HPd HPy HO4 HOd HFe HRs HLl hown HT4 hsl
      obtain ⟨l0, hl0⟩ : ∃ l0, l0 = l.take n := ⟨_, rfl⟩
      rw [← hl0] at HOw
      clear hl0 Htl
      go_wp2_with fail
      go_loopw [13] (fun u13 wz => ∃ (i : Nat) (l' : List Nat), i ≤ n ∧ u13 = .int .i64 (i : Nat) ∧ Hid (wz.ownsRow wr.heap.size 5 1 (.slice A4 n C4) n (l'.map byteCell)) ∧ Hid (Turn (Value.slice A4 n C4).ownBlock.toList wc wz)) (fun u13 _ => n - (intOf u13).toNat)
      case atStart => exact ⟨0, l0, Nat.zero_le _, rfl, HOw, HT0⟩
      case round =>
        obtain ⟨i, l', hi, rfl, HOi, HTi⟩ := hrel
        clear HOw HT0
        by_cases hin : i < n
        · obtain ⟨q, cap, hv, hx1, hx2, hql, hx3, hx4⟩ := own_bytes HOi.out (by omega)
          injection hv with e1 e2 e3
          subst e1
          obtain ⟨hrg, hfz, _, _, hll'⟩ := own_cells HOi.out
          obtain ⟨y, hci⟩ : ∃ y : Nat, wr.cell? ⟨q, i, none⟩ = some (.int .u8 (y : Nat)) := by
            have := hrg i (byteCell (l'[i]'(by omega))) (by rw [List.getElem?_map, List.getElem?_eq_getElem (by omega)]; rfl)
            rw [Nat.zero_add] at this
            exact ⟨_, this⟩
          have hfi := hfz i
          have HO2 : Hid ((wr.setCell ⟨q, i, none⟩ (.int .u8 238)).ownsRow _ 5 1 (.slice (some ⟨q, 0, none⟩) n C4) n ((l'.set i 238).map byteCell)) := own_byte HOi.out i 238 hin rfl
          have HT2 : Hid (Turn (Value.slice (some ⟨q, 0, none⟩) n C4).ownBlock.toList wc (wr.setCell ⟨q, i, none⟩ (.int .u8 238))) := HTi.out.setCell (by simp [Value.ownBlock]) _ _
          clear hrg hfz HOi HTi e2 e3 hx1 hx2 hx3 hx4 hll'
          go_wp2_with fail
          refine ⟨⟨i + 1, l'.set i 238, by omega, ?_, HO2, HT2⟩, ?_⟩
          · exact congrArg (Value.int .i64) (by omega)
          · first | omega | (simp [intOf]; omega) | (simp; omega)
        · have HPz := hide ((HOver.out _ HTi.out).drop n)
          have hdl : n0 - n = (l.drop n).length := by rw [List.length_drop, ← Hn0.out]
          have Hdl := hide hdl
          clear HOver HOi HTi hdl
          generalize hiA a c n = A9 at *
          go_wp2_with fail
          refine ⟨⟨k + 1, A', C', A9, c - n, l.drop n, S', mo', by omega, ?_, ?_, HPz⟩, ?_⟩
          · exact congrArg (Value.int .i64) (by omega)
          · rw [← Hdl.out]
          · first | omega | (simp [intOf]; omega) | (simp; omega)
    · have HT := hide HPy.out.tn
      clear HPy
      by_cases h1 : 0 < n0
      · have h2 : ¬ k < 200 := fun h => hlt ⟨h1, h⟩
        go_wp2_with fail
        go_ret
        exact ⟨rfl, HT.out⟩
      · go_wp2_with fail
        go_ret
        exact ⟨rfl, HT.out⟩

end Go.Proofs.Ytmmbckchaklhaaa.Se
