/-
  Use with IndexFunc, its closure and endPart, walked.
-/
import Derived.Test.YtegbinlpojpffaaLCopy
import Derived.Deep.RegionWith
namespace Go.Proofs.Ytegbinlpojpffaa
open Go.RowKit Go.Maps Lo

set_option maxRecDepth 100000 in
set_option maxHeartbeats 1000000 in
theorem uclo_any (x : Lt) (id : Int) (pb : Nat) (w : World) (hc : w.cell? ⟨pb, 0, none⟩ = some (.int .i64 id)) :
    Calls Try.prog 33 #[lotV x, .pointer (some ⟨pb, 0, none⟩)] w fun e w' => e = .returned (.bool (x.id == id)) ∧ Turn [] w w' := by
  have hb := lt_of_cell hc
  go_enter Try.func33, Try.ntmps33
  go_wp2
  go_ret
  exact ⟨rfl, (Turn.refl [] w).alloc _⟩

set_option maxRecDepth 100000 in
set_option maxHeartbeats 2000000 in
theorem index_any (a : Option Addr) (cap : Nat) (l : List Lt) (id : Int) (pb : Nat) (w : World) (hlen : l.length ≤ 1000) (hL : LotsAt w a l) (hc : w.cell? ⟨pb, 0, none⟩ = some (.int .i64 id)) :
    Calls Try.prog 32 #[.slice a l.length cap, .func (.func 33) #[] #[.pointer (some ⟨pb, 0, none⟩)]] w fun e w' => e = .returned (.int .i64 (atOf id l)) ∧ Turn [] w w' := by
  have HL := hide hL
  have HC := hide hc
  have hb := lt_of_cell hc
  clear hL hc
  go_enter Try.func32, Try.ntmps32
  go_wp2_with fail
  go_loopw [8] (fun i wr => ∃ k : Nat, k ≤ l.length ∧ i = .int .i64 k ∧ Hid (∀ j, j < k → (l.getD j Lt.nil).id ≠ id) ∧ Turn [] w wr) (fun i _ => l.length - (intOf i).toNat)
  case atStart => exact ⟨0, Nat.zero_le _, rfl, fun j hj => absurd hj (by omega), Turn.refl _ _⟩
  case round =>
    obtain ⟨k, hk, rfl, HF, hT⟩ := hrel
    have HT := hide hT
    clear hT
    by_cases hlt : k < l.length
    · obtain ⟨b, off, rfl, hx⟩ := (HL.out.turn0 HT.out).at hlt
      have HCl := hide (uclo_any (l.getD k Lt.nil) id pb wr ((HT.out.cell (p := ⟨pb, 0, none⟩) hb (by simp)).trans HC.out))
      have HH := hide (atOf_hit (id := id) hlt HF.out)
      have HM : Hid ((l.getD k Lt.nil).id ≠ id → ∀ j, j < k + 1 → (l.getD j Lt.nil).id ≠ id) := fun he j hj => by
        rcases Nat.lt_succ_iff_lt_or_eq.1 hj with h1 | rfl
        · exact HF.out j h1
        · exact he
      have hb2 := hx.lt
      generalize l.getD k Lt.nil = x at *
      obtain ⟨c0, c1, c2, c3, c4, c5, c6, c7, c8⟩ := hx
      go_wp2_with fail
      refine HCl.out.mono ?_
      rintro e w1 ⟨rfl, hT1⟩
      have HT1 := hide (HT.out.trans hT1)
      clear hT1 c0 c1 c2 c3 c4 c5 c6 c7 c8 HCl HF
      by_cases he : x.id = id
      · have HR := hide (HH.out he)
        have hee : (x.id == id) = true := by simpa using he
        rw [hee]
        clear he hee HM HH
        go_wp2_with fail
        go_ret
        exact ⟨ret_int HR.out.symm, HT1.out⟩
      · have HN := hide (HM.out he)
        have hee : (x.id == id) = false := by simpa using he
        rw [hee]
        clear he hee HM HH
        go_wp2_with fail
        go_roundw
        case rel => exact ⟨k + 1, by omega, by go_num, HN, HT1.out⟩
        case measure => simp [intOf]; omega
    · obtain rfl : k = l.length := by omega
      have HR := hide (atOf_miss HF.out)
      go_wp2_with fail
      go_ret
      exact ⟨ret_int HR.out.symm, HT.out⟩

set_option maxRecDepth 100000 in
set_option maxHeartbeats 2000000 in
theorem endPart_any (g q : Nat) (x : Lt) (k u now : Int) (w : World) (hx : LotIn w g q x) (hf : ∀ o, w.frozen? ⟨g, o, none⟩ = false) (hB : Bd 100000000000000 x) (hk : 0 ≤ k) (hk2 : k ≤ 1000000) (hu : 0 ≤ u) (hu2 : u ≤ k) :
    Calls Try.prog 34 #[.pointer (some ⟨g, q, none⟩), .int .i64 k, .int .i64 u, .int .i64 now] w fun e w' => e = .returned (.tuple #[]) ∧ LotIn w' g q (endp x k u now) ∧ (∀ p, (p < q ∨ q + 8 < p) → w'.cell? ⟨g, p, none⟩ = w.cell? ⟨g, p, none⟩) ∧ (∀ o, w'.frozen? ⟨g, o, none⟩ = false) ∧ Turn [g] w w' := by
  have hg := hx.lt
  have h1 := (hx.set_he (x.he - k)).set_co (x.co + u)
  have HX := hide h1
  have HT := hide ((((Turn.refl [g] w).setCell (b := g) (by simp) (q + 6) (.int .i64 (x.he - k)))).setCell (b := g) (by simp) (q + 5) (.int .i64 (x.co + u)))
  have HK : Hid (∀ p, (p < q ∨ q + 8 < p) → ((w.setCell ⟨g, q + 6, none⟩ (.int .i64 (x.he - k))).setCell ⟨g, q + 5, none⟩ (.int .i64 (x.co + u))).cell? ⟨g, p, none⟩ = w.cell? ⟨g, p, none⟩) := fun p hp => by
    rw [World.cell?_setCell_other _ _ _ _ (off_ne (by omega)), World.cell?_setCell_other _ _ _ _ (off_ne (by omega))]
  have HF : Hid (∀ o, ((w.setCell ⟨g, q + 6, none⟩ (.int .i64 (x.he - k))).setCell ⟨g, q + 5, none⟩ (.int .i64 (x.co + u))).frozen? ⟨g, o, none⟩ = false) := fun o => by
    rw [World.frozen?_setCell, World.frozen?_setCell]; exact hf o
  have HO : Hid (ovr ({ x with he := x.he - k, co := x.co + u } : Lt) now = ovr x now) := rfl
  obtain ⟨b1, b2, b3, b4, b5, b6, b7, b8⟩ := hB
  obtain ⟨c0, c1, c2, c3, c4, c5, c6, c7, c8⟩ := hx
  clear h1
  go_enter Try.func34, Try.ntmps34
  go_wp2_with fail
  refine (over_any ({ x with he := x.he - k, co := x.co + u } : Lt) now _).mono ?_
  rintro e w1 ⟨rfl, hT1⟩
  rw [HO.out]
  have hX1 := HX.out.turn hT1 (by simp)
  have HX1 := hide hX1
  have HT1 := hide (HT.out.then hT1 (by simp))
  have HK1 : Hid (∀ p, (p < q ∨ q + 8 < p) → w1.cell? ⟨g, p, none⟩ = w.cell? ⟨g, p, none⟩) := fun p hp => (hT1.cell (p := ⟨g, p, none⟩) (by simp [World.size_setCell]; exact hg) (by simp)).trans (HK.out p hp)
  have hf1 : ∀ o, w1.frozen? ⟨g, o, none⟩ = false := fun o => (World.frozen?_of_block (a := ⟨g, o, none⟩) (hT1.block g (by simp [World.size_setCell]; exact hg) (by simp))).trans (HF.out o)
  have hg1 := hX1.lt
  clear hT1 c0 c1 c2 c3 c4 c5 c6 c7 c8 HX HT HK HF hf
  obtain ⟨c0, c1, c2, c3, c4, c5, c6, c7, c8⟩ := hX1
  simp only at c7
  have HE : Hid (endp x k u now = { x with he := x.he - k, co := x.co + u, ex := if x.un ≤ now then x.ex + (k - u) else x.ex }) := rfl
  by_cases ho : x.un ≤ now
  · have hov : ovr x now = true := by unfold ovr; simpa using ho
    rw [hov]
    clear hov HO
    go_wp2_with fail
    go_end0
    refine ⟨rfl, ?_, fun p hp => (World.cell?_setCell_other _ _ _ _ (off_ne (by omega))).trans (HK1.out p hp), fun o => by rw [World.frozen?_setCell]; exact hf1 o, HT1.out.setCell (b := g) (by simp) _ _⟩
    rw [HE.out, if_pos ho]
    exact HX1.out.set_ex (x.ex + (k - u))
  · have hov : ovr x now = false := by unfold ovr; simpa using ho
    rw [hov]
    clear hov HO
    go_wp2_with fail
    go_end0
    refine ⟨rfl, ?_, HK1.out, hf1, HT1.out⟩
    rw [HE.out, if_neg (by omega)]
    exact HX1.out

theorem atOf_lt {id : Int} {l : List Lt} (h : ix id l < l.length) : atOf id l = (ix id l : Nat) := by unfold atOf; rw [if_pos h]
theorem atOf_no {id : Int} {l : List Lt} (h : ¬ ix id l < l.length) : atOf id l = -1 := by unfold atOf; rw [if_neg h]

/-- What Use answers. -/
def Used (l : List Lt) (p : List (Int × Int)) (n now : Int) (w : World) (e : Ending) (w' : World) : Prop :=
  ∃ (g : Nat) (L : List Lt) (N : Int), us now l p n = (L, N) ∧ e = .returned (.tuple #[.slice (some ⟨g, 0, none⟩) l.length l.length, .int .i64 N]) ∧ L.length = l.length ∧ w.heap.size ≤ g ∧ OwnL w' g L ∧ Turn [] w w'

set_option maxRecDepth 100000 in
set_option maxHeartbeats 4000000 in
theorem use_any (a : Option Addr) (cap : Nat) (l : List Lt) (pa : Option Addr) (pc : Nat) (p : List (Int × Int)) (n now : Int) (w : World) (hlen : l.length ≤ 14) (hB : Bds 10000000000000 l) (hL : LotsAt w a l) (hnil : a = none → cap = 0) (hP : PartsAt w pa p) (hpl : p.length ≤ 14) (hpp : ∀ x ∈ p, 1 ≤ x.2 ∧ x.2 ≤ 1000000) (hn0 : 0 ≤ n) (hn1 : n ≤ 1000000) :
    Calls Try.prog 22 #[.slice a l.length cap, .slice pa p.length pc, .int .i64 n, .int .i64 now] w (Used l p n now w) := by
  have HB := hide hB
  have HL := hide hL
  have HNil := hide hnil
  have HP := hide hP
  have HPP := hide hpp
  clear hB hL hnil hP hpp
  go_enter Try.func22, Try.ntmps22
  go_wp2_with fail
  refine (copied_any a cap l w (by omega) HL.out HNil.out).mono ?_
  rintro e w1 ⟨g, rfl, hg, hO, hT1⟩
  have HO := hide hO
  have HT1 := hide hT1
  have hgl : g < w1.heap.size := hO.lt
  have HP1 := hide (HP.out.turn0 hT1)
  have HPg : Hid (p ≠ [] → ∀ x, pa = some x → x.block ≠ g) := fun hne x hx e => by
    rcases HP.out with h | ⟨b, off, h1, h2⟩
    · exact hne h
    · have := lt_of_cell (h2 0 (List.length_pos_iff.2 hne)).1
      rw [h1] at hx
      obtain rfl := Option.some.inj hx
      simp only at e
      omega
  clear hO hT1
  go_wp2_with fail
  go_loopw [2, 19] (fun u j wr => ∃ (k : Nat) (lk : List Lt) (nk : Int), k ≤ p.length ∧ u = .int .i64 nk ∧ j = .int .i64 k ∧ 0 ≤ nk ∧ nk ≤ 1000000 ∧ lk.length = l.length ∧ Hid (us now lk (p.drop k) nk = us now l p n) ∧ Hid (Bds (10000000000000 + k * 1000000) lk) ∧ Hid (OwnL wr g lk) ∧ Turn [g] w1 wr) (fun _ j _ => p.length - (intOf j).toNat)
  case atStart => exact ⟨0, l, n, Nat.zero_le _, rfl, rfl, hn0, hn1, rfl, hide rfl, HB.out.mono (by omega), HO, Turn.refl _ _⟩
  case round =>
    obtain ⟨k, lk, nk, hk, rfl, rfl, hnk0, hnk1, hll, HF, HBk, HOk, hT⟩ := hrel
    have HT := hide hT
    clear hT
    by_cases hlt : k < p.length
    · have hne : p ≠ [] := fun e => by rw [e] at hlt; simp at hlt
      obtain ⟨b, off, hpa, hc0, hc1⟩ := (HP1.out.turn HT.out (fun x hx => by simp; exact HPg.out hne x hx)).at hlt
      have hb := lt_of_cell hc0
      have HS := hide (us_step (now := now) (l := lk) (n := nk) hlt)
      have hmem : p.getD k (0, 0) ∈ p := by rw [List.getD_eq_getElem?_getD, List.getElem?_eq_getElem hlt]; exact List.getElem_mem hlt
      have hq := HPP.out _ hmem
      clear hmem hne
      generalize p.getD k (0, 0) = y at *
      obtain ⟨id, m⟩ := y
      simp only at hc0 hc1 HS hq
      subst hpa
      have HT2 := hide (HT.out.alloc (.cells #[.int .i64 id, .int .i64 m] 47))
      have HO2 := hide (HOk.out.turn ((Turn.refl [] wr).alloc (.cells #[.int .i64 id, .int .i64 m] 47)) (by simp))
      have hp0 : (wr.alloc (.cells #[.int .i64 id, .int .i64 m] 47)).cell? ⟨wr.heap.size, 0, none⟩ = some (.int .i64 id) := World.cell?_alloc_at _ _ _ _ rfl
      have hp1 : (wr.alloc (.cells #[.int .i64 id, .int .i64 m] 47)).cell? ⟨wr.heap.size, 1, none⟩ = some (.int .i64 m) := World.cell?_alloc_at _ _ _ _ rfl
      have hps : wr.heap.size < (wr.alloc (.cells #[.int .i64 id, .int .i64 m] 47)).heap.size := by simp
      have HI := hide (index_any (some ⟨g, 0, none⟩) l.length lk id wr.heap.size _ (by omega) HO2.out.at hp0)
      rw [hll] at HI
      have hgw : g < wr.heap.size := HOk.out.lt
      go_wp2_with fail
      refine HI.out.mono ?_
      rintro e w2 ⟨rfl, hT2⟩
      have hp2 := (hT2.cell (p := ⟨wr.heap.size, 1, none⟩) hps (by simp)).trans hp1
      have HO3 := hide (HO2.out.turn hT2 (by simp))
      have HT3 := hide (HT2.out.trans (hT2.mono (by simp)))
      clear hT2 HI hp0 hp1 hps HT2 HO2 hc0 hc1 HOk HT
      generalize wr.heap.size = pb at *
      have hpb := lt_of_cell hp2
      by_cases hi : ix id lk < lk.length
      · rw [if_pos hi] at HS
        rw [atOf_lt hi]
        have hx := HO3.out.lots _ hi
        have HX := hide hx
        have HBx := hide (HBk.out.at hi)
        have HBn := hide (HBk.out.step (ix id lk) (HBx.out.endp (k := m) (u := min m nk) (now := now) (by omega) (by omega) (by omega) (by omega)))
        have HF2 := hide (HS.out.symm.trans HF.out)
        generalize lk.getD (ix id lk) Lt.nil = x at *
        generalize ix id lk = i at *
        have hil : i < l.length := by omega
        have hmax : max (min m nk) 0 = min m nk := by omega
        have HEP := hide (endPart_any g (i * 9) x m (min m nk) now w2.drew (by simp only [Nat.zero_add] at hx; exact hx.turn ((Turn.refl [] _).drew) (by simp)) HO3.out.fz (HBx.out.mono (by omega)) (by omega) (by omega) (by omega) (by omega))
        clear hx HS HF HBk
        by_cases hmn : nk < m
        · have e1 : min m nk = nk := by omega
          rw [e1] at HBn HF2 HEP
          rw [Int.sub_self] at HF2
          clear hmax e1
          go_wp2_with fail
          go_region_with (go_at_call 34; refine HEP.out.mono ?_; rintro e w3 ⟨rfl, hX3, hK3, hF3, hT3⟩)
          have HO4 : Hid (OwnL w3 g (lk.set i (endp x m nk now))) := ⟨HO3.out.lots.put hi (by simp only [Nat.zero_add]; exact hX3) (fun q hq => hK3 q (by omega)), Nat.lt_of_lt_of_le HO3.out.lt hT3.size, hF3⟩
          have HT4 := hide (HT3.out.drew.trans hT3)
          clear hX3 hK3 hF3 hT3 HEP HO3 HT3 HX hp2
          go_wp2_with fail
          go_roundw
          case rel => exact ⟨k + 1, _, _, by omega, rfl, by go_num, by omega, by omega, by rw [List.length_set]; exact hll, HF2, HBn.out.mono (by omega), HO4, HT4.out⟩
          case measure => simp [intOf]; omega
        · have e1 : min m nk = m := by omega
          rw [e1] at HBn HF2 HEP
          clear hmax e1
          go_wp2_with fail
          go_region_with (go_at_call 34; refine HEP.out.mono ?_; rintro e w3 ⟨rfl, hX3, hK3, hF3, hT3⟩)
          have HO4 : Hid (OwnL w3 g (lk.set i (endp x m m now))) := ⟨HO3.out.lots.put hi (by simp only [Nat.zero_add]; exact hX3) (fun q hq => hK3 q (by omega)), Nat.lt_of_lt_of_le HO3.out.lt hT3.size, hF3⟩
          have HT4 := hide (HT3.out.drew.trans hT3)
          clear hX3 hK3 hF3 hT3 HEP HO3 HT3 HX hp2
          go_wp2_with fail
          go_roundw
          case rel => exact ⟨k + 1, _, _, by omega, rfl, by go_num, by omega, by omega, by rw [List.length_set]; exact hll, HF2, HBn.out.mono (by omega), HO4, HT4.out⟩
          case measure => simp [intOf]; omega
      · rw [if_neg hi] at HS
        rw [atOf_no hi]
        have HF2 := hide (HS.out.symm.trans HF.out)
        clear HS HF
        go_wp2_with fail
        go_roundw
        case rel => exact ⟨k + 1, lk, nk, by omega, rfl, by go_num, hnk0, hnk1, hll, HF2, HBk.out.mono (by omega), HO3, HT3.out⟩
        case measure => simp [intOf]; omega
    · have HE : Hid (us now l p n = (lk, nk)) := by
        rw [Hid, ← HF.out, List.drop_of_length_le (by omega)]
        rfl
      clear HF
      go_wp2_with fail
      refine bodyPost_ret (v := .tuple #[.slice (some ⟨g, 0, none⟩) l.length l.length, .int .i64 nk]) (by simp [results, Try.results22, go_sem]) rfl ?_
      exact ⟨g, lk, nk, HE.out, rfl, hll, hg, HOk.out, HT1.out.then HT.out (by simp; exact hg)⟩

end Go.Proofs.Ytegbinlpojpffaa
