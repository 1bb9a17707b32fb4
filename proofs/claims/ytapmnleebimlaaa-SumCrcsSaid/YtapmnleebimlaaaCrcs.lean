/-
  The law SumCrcs, walked: it returns true, and nothing that was there is written.
-/
import Derived.Test.YtapmnleebimlaaaGrow
namespace Go.Proofs.Ytapmnleebimlaaa
open Go.RowKit

theorem hide {p : Prop} (h : p) : Hid p := h

theorem crc_nil : Crc.crc [] = 0 := by decide

theorem RowsAt.keep {w w' : World} {a : Option Addr} {n : Nat} (h : RowsAt w a n) (hW : Below w.heap.size w w') : RowsAt w' a n := by
  intro k hk
  obtain ⟨b, off, ak, ck, lk, e, hb, hc, hm, h1, h2, h3⟩ := h k hk
  exact ⟨b, off, ak, ck, lk, e, Nat.lt_of_lt_of_le hb hW.size, (hW.cell (p := ⟨b, off + k, none⟩) hb).trans hc, hm.keep fun x hq hx => hW.block _ (hm.lt x hq hx), h1, h2, h3⟩

theorem own_of_block {w w' : World} {base : Nat} {v : Value} {n : Nat} {xs : List Value} (h : w.ownsRow base 5 1 v n xs) (hb : ∀ k, base ≤ k → k < w.heap.size → w'.heap[k]? = w.heap[k]?) : w'.ownsRow base 5 1 v n xs := by
  refine ⟨h.1, ?_⟩
  rcases h.2 with hn | ⟨g, cap, cur, rfl, hbs, hg, rest⟩
  · exact .inl hn
  · exact .inr ⟨g, cap, cur, rfl, hbs, (hb g hbs (Array.getElem?_eq_some_iff.1 hg).1).trans hg, rest⟩

theorem BytesAt.cell0 {w : World} {g : Nat} {l : List Nat} (h : BytesAt w (some ⟨g, 0, none⟩) l) {i : Nat} (hi : i < l.length) : w.cell? ⟨g, i, none⟩ = some (.int .u8 (l[i] : Nat)) := by
  obtain ⟨b', off', e, hc⟩ := h.at hi
  obtain ⟨rfl, rfl⟩ : b' = g ∧ off' = 0 := by
    have := Option.some.inj e
    exact ⟨(congrArg Addr.block this).symm, (congrArg Addr.off this).symm⟩
  rw [Nat.zero_add] at hc
  exact hc

set_option maxRecDepth 100000 in
set_option maxHeartbeats 2000000 in
theorem crcs_any (a0 : Option Addr) (n cap0 : Nat) (w : World) (hn : n ≤ maxLen) (hR : RowsAt w a0 n) :
    Calls Try.prog 3 #[.slice a0 n cap0] w fun e w' => e = .returned (.bool true) ∧ Below w.heap.size w w' := by
  unfold maxLen at hn
  have hnot : ∀ (x : Bool) (w : World), (Op.unary .not (.bool x)).run Try.prog w = .ok (.bool (!x)) w := fun _ _ => rfl
  have HR : Hid (RowsAt w a0 n) := hR
  clear hR
  go_enter Try.func3, Try.ntmps3
  go_wp2_with fail
  refine (known_any _).mono ?_
  rintro e w1 ⟨rfl, hW1⟩
  go_wp2_with fail
  refine (new_any _).mono ?_
  rintro e w2 ⟨rfl, hS2, hW2, hz2⟩
  go_wp2_with fail
  refine (now_any _ [] w2 hS2).mono ?_
  rintro e w3 ⟨rfl, rfl⟩
  rw [crc_nil]
  have hWx : Below w.heap.size w w3 := hW1.trans (hW2.mono hW1.size)
  have hB1 := hW1.size
  have hXl : w1.heap.size + 1 ≤ w3.heap.size := by omega
  clear hW2 hW1 hz2
  generalize hX : w1.heap.size = X at *
  clear hX
  go_wp2_with fail
  go_loopw [4, 5] (fun v i wr => ∃ k : Nat, k ≤ 20 ∧ k ≤ n ∧ i = .int .i64 k ∧ ∃ all : List Nat, all.length ≤ 1000 * k ∧ (∀ x ∈ all, x < 256) ∧ IsSum wr X all ∧ wr.ownsRow (X + 1) 5 1 v all.length (all.map byteCell) ∧ X + 1 ≤ wr.heap.size ∧ Below w.heap.size w wr) (fun _ i _ => 20 - (intOf i).toNat)
  case atStart => exact ⟨0, by omega, by omega, rfl, [], by simp, by simp, hS2, World.ownsRow_nil _ _ _ _, hXl, hWx⟩
  case round =>
    obtain ⟨k, hk, hkn, rfl, all, hal, hab, hS, hown, hX1, hW⟩ := hrel
    clear hS2 hXl hWx
    by_cases h1 : k < n
    · by_cases h2 : k < 20
      · obtain ⟨b, off, ak, ck, lk, rfl, hbw, hc0, hbk0, hnk, hlk, hmk⟩ := HR.out k h1
        unfold maxLen at hmk
        have hc : wr.cell? ⟨b, off + k, none⟩ = some (.slice ak lk.length ck) := (hW.cell (p := ⟨b, off + k, none⟩) hbw).trans hc0
        have hbk : BytesAt wr ak lk := hbk0.keep fun x hq hx => hW.block _ (hbk0.lt x hq hx)
        have hbr : b < wr.heap.size := Nat.lt_of_lt_of_le hbw hW.size
        have HC0 : Hid (w.cell? ⟨b, off + k, none⟩ = some (.slice ak lk.length ck)) := hc0
        have HBK0 : Hid (BytesAt w ak lk) := hbk0
        clear hc0 hbk0
        by_cases h3 : 1000 < lk.length
        · have t3 : decide (1000 < (lk.length : Int)) = true := by simp; omega
          have HS : Hid (IsSum wr X all) := hS
          have HO : Hid (wr.ownsRow (X + 1) 5 1 u4 all.length (all.map byteCell)) := hown
          clear hS hown
          go_wp2_with fail
          go_roundw
          case rel => exact ⟨k + 1, by omega, by omega, by go_num, all, by omega, hab, HS.out, HO.out, hX1, hW⟩
          case measure => simp [intOf]; omega
        · have t3 : decide (1000 < (lk.length : Int)) = false := by simp; omega
          have hMm : (wr.alloc (.cells #[] 5)).ownsRow wr.heap.size 5 1 (.slice (some ⟨wr.heap.size, 0, none⟩) 0 0) 0 (([] : List Nat).map byteCell) := World.ownsRow_made wr #[] 0 (Nat.le_refl _) (Nat.zero_le _) rfl
          have hbM : BytesAt (wr.alloc (.cells #[] 5)) ak lk := hbk.keep fun x hq hx => Below.heap_alloc wr _ _ (hbk.lt x hq hx)
          have HS : Hid (IsSum wr X all) := hS
          have HO : Hid (wr.ownsRow (X + 1) 5 1 u4 all.length (all.map byteCell)) := hown
          have HC : Hid (wr.cell? ⟨b, off + k, none⟩ = some (.slice ak lk.length ck)) := hc
          have HMM := hide hMm
          have HBM := hide hbM
          clear hS hown hMm hbM
          go_wp2_with (at_builtin; refine append_bytes rfl _ _ rfl wr.heap.size (.slice (some ⟨wr.heap.size, 0, none⟩) 0 0) 0 [] rfl HMM.out ak lk.length ck lk rfl rfl hnk HBM.out ?b1 ?b2 ?_)
          case b1 => omega
          case b2 => simp
          intro vm w4 hown4 hgrow4 hnil4
          have hvm : vm ≠ .slice none 0 0 := hnil4
          obtain ⟨g, cm, hv, _, hgb, hgl, hbg, hfz⟩ := own_some (l := lk) (by simpa using hown4) hvm
          rw [hv]
          clear hown4 hnil4 hvm hv
          have hG4 : ∀ j, j < wr.heap.size → w4.heap[j]? = wr.heap[j]? := fun j hj =>
            (hgrow4.block j (by simp; omega) (by simp [Value.ownBlock]; omega)).trans (Below.heap_alloc wr _ _ hj)
          have hz4 : wr.heap.size ≤ w4.heap.size := by have := hgrow4.size; simp at this; omega
          have hW4 : Below wr.heap.size wr w4 := ⟨hgrow4.os, hgrow4.tape, hgrow4.output, hz4, hG4⟩
          have HS4 : Hid (IsSum w4 X all) := HS.out.of_block (hG4 X (by omega))
          have HW4 : Hid (Below wr.heap.size wr w4) := hW4
          have HBG : Hid (BytesAt w4 (some ⟨g, 0, none⟩) lk) := hbg
          have HFZ : Hid (∀ o, w4.frozen? ⟨g, o, none⟩ = false) := hfz
          clear hgrow4 hG4 hbg hfz hW4
          go_wp2_with fail
          refine (add_any X all lk (some ⟨g, 0, none⟩) cm (by unfold maxLen; omega) hab hlk w4 HS4.out HBG.out (fun x _ hx => by obtain rfl := Option.some.inj hx; show g ≠ X; omega)).mono ?_
          rintro e w5 ⟨rfl, hS5, hO5⟩
          have HS5 := hide hS5
          have HW5 : Hid (Below X wr w5) := (HW4.out.mono (by omega)).trans (hO5.below (Nat.le_refl _))
          have HBG5 : Hid (BytesAt w5 (some ⟨g, 0, none⟩) lk) := HBG.out.keep fun x _ hx => hO5.block _ (by obtain rfl := Option.some.inj hx; show g ≠ X; omega)
          have HFZ5 : Hid (∀ o, w5.frozen? ⟨g, o, none⟩ = false) := fun o => (hO5.frozen (p := ⟨g, o, none⟩) (by show g ≠ X; omega)).trans (HFZ.out o)
          clear hS5
          go_wp2_with fail
          obtain ⟨wo, rfl⟩ : ∃ wo : World, wo = wr := ⟨_, rfl⟩
          go_loopw [7] (fun j wr => ∃ q : Nat, q ≤ lk.length ∧ j = .int .i64 q ∧ ∃ l' : List Nat, l'.length = lk.length ∧ BytesAt wr (some ⟨g, 0, none⟩) l' ∧ (∀ o, wr.frozen? ⟨g, o, none⟩ = false) ∧ Only g w5 wr) (fun j _ => lk.length - (intOf j).toNat)
          case atStart => exact ⟨0, Nat.zero_le _, rfl, lk, rfl, HBG5.out, HFZ5.out, Only.refl _ _⟩
          case round =>
            obtain ⟨q, hq, rfl, l', hl', hb', hf', hO'⟩ := hrel
            by_cases hql : q < lk.length
            · have hcq := hb'.cell0 (i := q) (by omega)
              have hfq := hf' q
              have HB' := hide hb'
              have HF' := hide hf'
              clear hb' hf'
              go_wp2_with fail
              go_roundw
              case rel =>
                refine ⟨q + 1, by omega, by go_num, l'.set q 238, by rw [List.length_set, hl'], HB'.out.set q (by omega) 238, fun o => ?_, hO'.setCell _ _⟩
                rw [World.frozen?_setCell]; exact HF'.out o
              case measure => simp [intOf]; omega
            · clear hb' hf' hl'
              have hWr : Below X wo wr := HW5.out.trans (hO'.below (by omega))
              have HSr : Hid (IsSum wr X (all ++ lk)) := HS5.out.of_block (hO'.block _ (by omega))
              have hW6 : Below w.heap.size w wr := hW.trans (hWr.mono hB1)
              have hc6 : wr.cell? ⟨b, off + k, none⟩ = some (.slice ak lk.length ck) := (hW6.cell (p := ⟨b, off + k, none⟩) hbw).trans HC0.out
              have HB6 : Hid (BytesAt wr ak lk) := HBK0.out.keep fun x hq hx => hW6.block _ (HBK0.out.lt x hq hx)
              have HO6 : Hid (wr.ownsRow (X + 1) 5 1 u4 all.length (all.map byteCell)) := own_of_block HO.out fun j hj hjl => by
                rw [hO'.block j (by omega), hO5.block j (by omega)]
                exact HW4.out.block j hjl
              have hX6 : X + 1 ≤ wr.heap.size := by have := hWr.size; omega
              clear hO' hO5 HW4 HW5 HS5 HBG5 HFZ5 HBG HFZ HS4 HO HS HMM HBM hWr
              go_wp2_with (at_builtin; refine append_bytes rfl _ _ rfl (X + 1) u4 all.length all rfl HO6.out ak lk.length ck lk rfl rfl hnk HB6.out ?b1 ?b2 ?_)
              case b1 => omega
              case b2 => exact hX6
              intro v7 w7 hown7 hgrow7 _
              have hW7 : Below w.heap.size w w7 := hW6.grown hgrow7 (by omega) (fun j hj => by have := (HO6.out.lt j hj).1; omega)
              have HS7 : Hid (IsSum w7 X (all ++ lk)) := HSr.out.of_block (hgrow7.block X (by omega) (fun e => by have := (HO6.out.lt X e.symm).1; omega))
              have hX7 : X + 1 ≤ w7.heap.size := Nat.le_trans hX6 hgrow7.size
              have hab7 : ∀ x ∈ all ++ lk, x < 256 := fun x hx => by
                rcases List.mem_append.1 hx with h | h
                · exact hab x h
                · exact hlk x h
              have HO7 : Hid (w7.ownsRow (X + 1) 5 1 v7 (all ++ lk).length ((all ++ lk).map byteCell)) := by
                show w7.ownsRow (X + 1) 5 1 v7 (all ++ lk).length ((all ++ lk).map byteCell)
                rw [List.length_append, List.map_append]; simpa using hown7
              clear hown7 hgrow7
              obtain ⟨a7, c7, hv7, _, hb7, _⟩ := own_any HO7.out
              rw [List.length_append] at hv7
              have HV7 := hide hv7
              rw [hv7]
              clear hv7 hc6 hc HB6 HO6 HSr hW6 hX6
              have hlm : all.length + lk.length ≤ maxLen := by unfold maxLen; omega
              have hln : (all ++ lk).length = all.length + lk.length := List.length_append
              have HLN := hide hln
              have HLM := hide hlm
              have HB7 := hide hb7
              clear hln hlm hb7
              go_wp2_with fail
              refine (now_any X (all ++ lk) w7 HS7.out).mono ?_
              rintro e w8 ⟨rfl, rfl⟩
              go_wp2_with fail
              refine (ref_at a7 c7 (all.length + lk.length) (all ++ lk) HLN.out HLM.out hab7 _ HB7.out).mono ?_
              rintro e w9 ⟨rfl, rfl⟩
              go_wp2_with fail
              refine (now_any X (all ++ lk) _ HS7.out).mono ?_
              rintro e w8 ⟨rfl, rfl⟩
              go_wp2_with fail
              refine (ref_at a7 c7 (all.length + lk.length) (all ++ lk) HLN.out HLM.out hab7 _ HB7.out).mono ?_
              rintro e w9 ⟨rfl, rfl⟩
              go_wp2_with fail
              go_roundw
              case rel =>
                refine ⟨k + 1, by omega, by omega, by go_num, all ++ lk, by rw [HLN.out]; omega, hab7, HS7.out, ?_, hX7, hW7⟩
                rw [← HV7.out]; exact HO7.out
              case measure => simp [intOf]; omega
      · obtain rfl : k = 20 := by omega
        obtain ⟨a7, c7, hv7, _, hb7, _⟩ := own_any hown
        have hlm : all.length ≤ maxLen := by unfold maxLen; omega
        have HLM := hide hlm
        have HB7 := hide hb7
        rw [hv7]
        clear hown hS hlm hb7 hv7 HR
        go_wp2_with fail
        refine (crc_any a7 c7 all HLM.out hab wr HB7.out).mono ?_
        rintro e w8 ⟨rfl, hW8⟩
        have hb8 : BytesAt w8 a7 all := HB7.out.keep fun x hq hx => hW8.block _ (HB7.out.lt x hq hx)
        have hW8' := hW.trans (hW8.mono hW.size)
        have HB8 := hide hb8
        clear hW8 hb8
        go_wp2_with fail
        refine (ref_any a7 c7 all HLM.out hab _ HB8.out).mono ?_
        rintro e w9 ⟨rfl, rfl⟩
        go_wp2_with fail
        go_ret
        exact ⟨rfl, hW8'⟩
    · obtain rfl : k = n := by omega
      obtain ⟨a7, c7, hv7, _, hb7, _⟩ := own_any hown
      have hlm : all.length ≤ maxLen := by unfold maxLen; omega
      have HLM := hide hlm
      have HB7 := hide hb7
      rw [hv7]
      clear hown hS hlm hb7 hv7 HR
      go_wp2_with fail
      refine (crc_any a7 c7 all HLM.out hab wr HB7.out).mono ?_
      rintro e w8 ⟨rfl, hW8⟩
      have hb8 : BytesAt w8 a7 all := HB7.out.keep fun x hq hx => hW8.block _ (HB7.out.lt x hq hx)
      have hW8' := hW.trans (hW8.mono hW.size)
      have HB8 := hide hb8
      clear hW8 hb8
      go_wp2_with fail
      refine (ref_any a7 c7 all HLM.out hab _ HB8.out).mono ?_
      rintro e w9 ⟨rfl, rfl⟩
      go_wp2_with fail
      go_ret
      exact ⟨rfl, hW8'⟩
end Go.Proofs.Ytapmnleebimlaaa
