/-
  Bytes of the law, walked: frames of requests, and bytes that are none, one behind the other.
-/
import Derived.Test.YtmmbckchaklhaaaSArg
namespace Go.Proofs.Ytmmbckchaklhaaa.Se
open Go.RowKit Go.Maps

/-- Behind some rounds: bytes of the call's own, n at most. -/
structure Bx (w0 w : World) (v : Value) (b : List Nat) (n : Nat) : Prop where
  own : w.ownsRow w0.heap.size 5 1 v b.length (b.map byteCell)
  by8 : ∀ x ∈ b, x < 256
  len : b.length ≤ n
  tn : Turn [] w0 w
theorem Bx.start (w : World) : Bx w w (.slice none 0 0) [] 0 := ⟨World.ownsRow_nil _ _ _ _, fun x hx => (by cases hx), Nat.le_refl _, Turn.refl _ _⟩
theorem Bx.keep {w0 w w' : World} {v : Value} {b : List Nat} {n : Nat} (h : Bx w0 w v b n) (hT : Turn [] w w') {m : Nat} (hm : n ≤ m) : Bx w0 w' v b m := ⟨own_keepS h.own hT (by simp), h.by8, Nat.le_trans h.len hm, h.tn.trans hT⟩
theorem Bx.more {w0 w w' : World} {v v' : Value} {b : List Nat} {n : Nat} (h : Bx w0 w v b n) {l : List Nat} (hl : ∀ x ∈ l, x < 256) (hO : w'.ownsRow w0.heap.size 5 1 v' (b.length + l.length) ((b ++ l).map byteCell)) (hG : w.grownBy w' v.ownBlock) {m : Nat} (hm : n + l.length ≤ m) : Bx w0 w' v' (b ++ l) m :=
  ⟨by rw [List.length_append]; exact hO, app_8 h.by8 hl, by rw [List.length_append]; have := h.len; omega, h.tn.grown hG (fun _ hk => .inr (own_ge h.own hk).1)⟩

set_option maxRecDepth 100000 in
set_option maxHeartbeats 8000000 in
theorem bytes_any (ra : Option Addr) (rc : Nat) (rs : List Rq) (wa : Option Addr) (wc : Nat) (raw : List (List Nat)) (w : World) (hR : RqsAt w ra rs) (hF : ∀ r ∈ rs, r.Fits) (_hrl : rs.length ≤ 9223372036854775807) (hW : RowsAt w wa raw) (_hwl : raw.length ≤ 9223372036854775807) :
    Calls Try.prog 8 #[.slice ra rs.length rc, .slice wa raw.length wc] w fun e w' => ∃ v b, e = .returned v ∧ Bx w w' v b 24000 := by
  obtain ⟨E, hE⟩ : ∃ E : Ending → World → Prop, E = fun e w' => ∃ v b, e = .returned v ∧ Bx w w' v b 24000 := ⟨_, rfl⟩
  rw [← hE]
  have HE : Hid (∀ v b w', Bx w w' v b 24000 → E (.returned v) w') := fun v b w' h => by
    rw [hE]
    exact ⟨v, b, rfl, h⟩
  clear hE
  have HR := hide hR
  have HF := hide hF
  have HW := hide hW
  obtain ⟨N, hN⟩ : ∃ N, N = rs.length := ⟨_, rfl⟩
  have HN := hide hN
  rw [← hN] at _hrl ⊢
  obtain ⟨M, hM⟩ : ∃ M, M = raw.length := ⟨_, rfl⟩
  have HM := hide hM
  rw [← hM] at _hwl ⊢
  have HB0 := hide (Bx.start w)
  clear hR hF hW hN hM
  go_enter Try.func8, Try.ntmps8
  go_wp2_with fail
  go_loopw [5, 6] (fun u5 u6 wr => ∃ (k : Nat) (b : List Nat), k ≤ N ∧ k ≤ 20 ∧ u6 = .int .i64 (k : Nat) ∧ Hid (Bx w wr u5 b (1200 * k))) (fun _ u6 _ => N - (intOf u6).toNat)
  case atStart => exact ⟨0, [], Nat.zero_le _, Nat.zero_le _, rfl, HB0⟩
  case round =>
    obtain ⟨k, b, hk, hk20, rfl, HB⟩ := hrel
    clear HB0
    by_cases hlt : k < N ∧ k < 20
    · obtain ⟨hlt1, hlt2⟩ := hlt
      obtain ⟨rb, ro, rfl, hrg, hrb⟩ := (HR.out.turn0 HB.out.tn).at (i := k) (by have := HN.out; omega)
      have HEn := hide (enc_row wr (rs[k]'(by have := HN.out; omega)) (HF.out _ (List.getElem_mem _)))
      have hcl : (rqC (rs[k]'(by have := HN.out; omega))).length = 18 := rfl
      have HRg := hide hrg
      clear hrg
      generalize rqC (rs[k]'(by have := HN.out; omega)) = cs at *
      go_upto_if 32 with (first | ((with_reducible refine load_sz 43 18 sz25 _ rb (ro + k * 18) cs hcl ?_ HRg.out ?_); rfl) | (go_at_call 16; refine HEn.out.mono ?_; rintro e w2 ⟨a2, c2, L, y, rfl, hB2, hy, hT2⟩; have HFr := hide (frm_row w2 a2 c2 L hB2); have Hy := hide hy; have HT2 := hide hT2; clear hB2 hy hT2) | fail)
      clear HEn HRg hcl
      have hyb : y = 0 ∨ ((y : Nat) : Int) ≠ 0 := by omega
      go_cut [5] from 9 to 43 (fun u wx => ∃ b', Hid (Bx w wx u b' (1200 * k + 514)))
      case first =>
        rcases hyb with rfl | hy0
        · generalize L.length = Ln at *
          go_upto_if 39 with (first | (go_at_call 17; refine HFr.out.mono ?_; rintro e w3 ⟨a3, c3, F, z, rfl, hcs, hB3, hT3⟩; have HB3 := hide hB3; have HT3 := hide hT3; have Hcs := hide hcs; clear hB3 hT3 hcs) | fail)
          have hfl : F.length ≤ 514 := by
            rcases Hcs.out with ⟨hg, _, rfl⟩ | ⟨_, _, rfl⟩ | ⟨_, _, rfl⟩
            · have := hg.2.1
              rw [frm_len]
              omega
            · simp
            · simp
          have hz : z = 0 ∨ z = 5 := by
            rcases Hcs.out with ⟨_, h, _⟩ | ⟨_, h, _⟩ | ⟨_, h, _⟩
            · exact .inl h
            · exact .inr h
            · exact .inr h
          have HB3' := hide (HB.out.keep (HT2.out.trans HT3.out) (Nat.le_refl _))
          clear HB HFr Hy HT2 HT3 Hcs
          rcases hz with rfl | rfl
          · have HO := hide HB3'.out.own
            have hbl : b.length ≤ 24000 := by have := HB3'.out.len; omega
            have HSt : Hid (∀ v' w', w'.ownsRow w.heap.size 5 1 v' (b.length + F.length) ((b ++ F).map byteCell) → w3.grownBy w' u5.ownBlock → Bx w w' v' (b ++ F) (1200 * k + 514)) := fun v' w' h1 h2 => HB3'.out.more HB3.out.by8 h1 h2 (by omega)
            have hbase : w.heap.size ≤ w3.heap.size := HB3'.out.tn.size
            have HBt := hide HB3.out.bt
            have HNl := hide HB3.out.nil
            clear HB3 HB3'
            generalize hFl : F.length = Fl at *
            have HFl := hide hFl
            generalize hbl' : b.length = bl at *
            have Hbl' := hide hbl'
            clear hFl hbl'
            go_wp2_with (first | (at_builtin; (with_reducible refine append_b rfl _ _ rfl w.heap.size u5 b bl Hbl'.out rfl HO.out a3 Fl c3 F HFl.out rfl HBt.out HNl.out ?_ hbase ?_); omega; intro v4 w4 k1 k2 k3; have HBk := hide (HSt.out v4 w4 k1 k2); clear k1 k2 k3) | fail)
            go_meet
            case rel => exact ⟨_, HBk⟩
          · clear HB3
            go_wp2_with fail
            go_meet
            case rel => exact ⟨b, hide (HB3'.out.keep (Turn.refl _ _) (by omega))⟩
        · have hy1 : (((y : Nat) : Int) == 0) = false := by rw [beq_eq_false_iff_ne]; exact hy0
          go_wp2_with fail
          go_meet
          case rel => exact ⟨b, hide (HB.out.keep HT2.out (by omega))⟩
      case rest =>
      obtain ⟨b', HB⟩ := hcut
      clear HFr Hy HT2 hyb
      by_cases hM1 : k < M
      · obtain ⟨qb, qo, A, C, rfl, hc, hBy, hqb⟩ := (HW.out.turn0 HB.out.tn).at (i := k) (by have := HM.out; omega)
        have HBy := hide hBy
        have hlen9 : (raw[k]'(by have := HM.out; omega)).length ≤ 9223372036854775807 := by have := hBy.lc; have := hBy.cm; unfold maxLen at *; omega
        have HFr := hide (frm_row wc A C _ hBy)
        clear hBy
        generalize (raw[k]'(by have := HM.out; omega)) = L at *
        by_cases hl6 : L.length < 600
        · go_upto_region 12 with (first | (go_at_call 17; refine HFr.out.mono ?_; rintro e w3 ⟨a3, c3, F, z, rfl, hcs, hB3, hT3⟩; have HB3 := hide hB3; have HT3 := hide hT3; have Hcs := hide hcs; clear hB3 hT3 hcs) | fail)
          have hfl : F.length ≤ 514 := by
            rcases Hcs.out with ⟨hg, _, rfl⟩ | ⟨_, _, rfl⟩ | ⟨_, _, rfl⟩
            · have := hg.2.1
              rw [frm_len]
              omega
            · simp
            · simp
          have hz : z = 0 ∨ z = 5 := by
            rcases Hcs.out with ⟨_, h, _⟩ | ⟨_, h, _⟩ | ⟨_, h, _⟩
            · exact .inl h
            · exact .inr h
            · exact .inr h
          have HB3' := hide (HB.out.keep HT3.out (Nat.le_refl _))
          have HBy3 := hide (HBy.out.turn HT3.out)
          have hc3 : w3.cell? ⟨qb, qo + k, none⟩ = some (.slice A L.length C) := (HT3.out.cell (p := ⟨qb, qo + k, none⟩) hqb (by simp)).trans hc
          have hqb3 : qb < w3.heap.size := lt_of_cell hc3
          clear HB HFr Hcs HBy
          by_cases h3 : 0 < (k : Int) % 3
          · have hd3 : decide (0 < (k : Int) % 3) = true := decide_eq_true h3
            have hd4 : ((k : Int) % 3 == 0) = false := by rw [beq_eq_false_iff_ne]; omega
            rcases hz with rfl | rfl
            · have HO := hide HB3'.out.own
              have hbl : b'.length ≤ 24000 := by have := HB3'.out.len; omega
              have HSt : Hid (∀ v' w', w'.ownsRow w.heap.size 5 1 v' (b'.length + F.length) ((b' ++ F).map byteCell) → w3.grownBy w' u5.ownBlock → Bx w w' v' (b' ++ F) (1200 * (k + 1))) := fun v' w' h1 h2 => HB3'.out.more HB3.out.by8 h1 h2 (by omega)
              have hbase : w.heap.size ≤ w3.heap.size := HB3'.out.tn.size
              have HBt := hide HB3.out.bt
              have HNl := hide HB3.out.nil
              clear HB3 HB3' HBy3
              generalize hFl : F.length = Fl at *
              have HFl := hide hFl
              generalize hbl' : b'.length = bl at *
              have Hbl' := hide hbl'
              clear hFl hbl'
              go_wp2_with (first | (at_builtin; (with_reducible refine append_b rfl _ _ rfl w.heap.size u5 b' bl Hbl'.out rfl HO.out a3 Fl c3 F HFl.out rfl HBt.out HNl.out ?_ hbase ?_); omega; intro v4 w4 k1 k2 k3; have HBk := hide (HSt.out v4 w4 k1 k2); clear k1 k2 k3) | fail)
              refine ⟨⟨k + 1, b' ++ F, by omega, by omega, ?_, HBk⟩, ?_⟩
              · exact congrArg (Value.int .i64) (by omega)
              · first | omega | (simp [intOf]; omega) | (simp; omega)
            · clear HB3 HBy3
              go_wp2_with fail
              refine ⟨⟨k + 1, b', by omega, by omega, ?_, hide (HB3'.out.keep (Turn.refl _ _) (by omega))⟩, ?_⟩
              · exact congrArg (Value.int .i64) (by omega)
              · first | omega | (simp [intOf]; omega) | (simp; omega)
          · have hd3 : decide (0 < (k : Int) % 3) = false := decide_eq_false h3
            have hd4 : (k : Int) % 3 = 0 := by omega
            rcases hz with rfl | rfl
            · have HO := hide HB3'.out.own
              have hbl : b'.length ≤ 24000 := by have := HB3'.out.len; omega
              have HSt : Hid (∀ v' w', w'.ownsRow w.heap.size 5 1 v' (b'.length + L.length) ((b' ++ L).map byteCell) → w3.grownBy w' u5.ownBlock → Bx w w' v' (b' ++ L) (1200 * (k + 1))) := fun v' w' h1 h2 => HB3'.out.more HBy3.out.by8 h1 h2 (by omega)
              have hbase : w.heap.size ≤ w3.heap.size := HB3'.out.tn.size
              have HBt := hide HBy3.out.bt
              have HNl := hide HBy3.out.nil
              clear HB3 HB3' HBy3
              generalize hFl : L.length = Fl at *
              have HFl := hide hFl
              generalize hbl' : b'.length = bl at *
              have Hbl' := hide hbl'
              clear hFl hbl'
              go_wp2_with (first | (at_builtin; (with_reducible refine append_b rfl _ _ rfl w.heap.size u5 b' bl Hbl'.out rfl HO.out A Fl C L HFl.out rfl HBt.out HNl.out ?_ hbase ?_); omega; intro v4 w4 k1 k2 k3; have HBk := hide (HSt.out v4 w4 k1 k2); clear k1 k2 k3) | fail)
              refine ⟨⟨k + 1, b' ++ L, by omega, by omega, ?_, HBk⟩, ?_⟩
              · exact congrArg (Value.int .i64) (by omega)
              · first | omega | (simp [intOf]; omega) | (simp; omega)
            · have HO := hide HB3'.out.own
              have hbl : b'.length ≤ 24000 := by have := HB3'.out.len; omega
              have HSt : Hid (∀ v' w', w'.ownsRow w.heap.size 5 1 v' (b'.length + L.length) ((b' ++ L).map byteCell) → w3.grownBy w' u5.ownBlock → Bx w w' v' (b' ++ L) (1200 * (k + 1))) := fun v' w' h1 h2 => HB3'.out.more HBy3.out.by8 h1 h2 (by omega)
              have hbase : w.heap.size ≤ w3.heap.size := HB3'.out.tn.size
              have HBt := hide HBy3.out.bt
              have HNl := hide HBy3.out.nil
              clear HB3 HB3' HBy3
              generalize hFl : L.length = Fl at *
              have HFl := hide hFl
              generalize hbl' : b'.length = bl at *
              have Hbl' := hide hbl'
              clear hFl hbl'
              go_wp2_with (first | (at_builtin; (with_reducible refine append_b rfl _ _ rfl w.heap.size u5 b' bl Hbl'.out rfl HO.out A Fl C L HFl.out rfl HBt.out HNl.out ?_ hbase ?_); omega; intro v4 w4 k1 k2 k3; have HBk := hide (HSt.out v4 w4 k1 k2); clear k1 k2 k3) | fail)
              refine ⟨⟨k + 1, b' ++ L, by omega, by omega, ?_, HBk⟩, ?_⟩
              · exact congrArg (Value.int .i64) (by omega)
              · first | omega | (simp [intOf]; omega) | (simp; omega)
        · clear HFr HBy
          go_wp2_with fail
          refine ⟨⟨k + 1, b', by omega, by omega, ?_, hide (HB.out.keep (Turn.refl _ _) (by omega))⟩, ?_⟩
          · exact congrArg (Value.int .i64) (by omega)
          · first | omega | (simp [intOf]; omega) | (simp; omega)
      · go_wp2_with fail
        refine ⟨⟨k + 1, b', by omega, by omega, ?_, hide (HB.out.keep (Turn.refl _ _) (by omega))⟩, ?_⟩
        · exact congrArg (Value.int .i64) (by omega)
        · first | omega | (simp [intOf]; omega) | (simp; omega)
    · have hX : Hid (E (.returned u5) wr) := HE.out _ b _ (HB.out.keep (Turn.refl _ _) (by omega))
      by_cases h1 : k < N
      · have h2 : ¬ k < 20 := fun h => hlt ⟨h1, h⟩
        clear HB HR HF HW HE
        go_wp2_with fail
        exact hX.out
      · clear HB HR HF HW HE
        go_wp2_with fail
        exact hX.out

end Go.Proofs.Ytmmbckchaklhaaa.Se
