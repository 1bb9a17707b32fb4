/-
  LotsOrder, walked.
-/
import Derived.Test.YtegbinlpojpffabLGood
import Derived.Test.YtegbinlpojpffabLKnown
import Derived.Test.YtegbinlpojpffabLFrame
import Derived.Test.YtegbinlpojpffabLTakeP
import Derived.Deep.RegionHeld
namespace Go.Proofs.Ytegbinlpojpffab
open Go.RowKit Go.Maps Lo

namespace Lo
/-- The lots of these ends. -/
def ordAt (us : List Int) (i : Nat) : Lt := ⟨(i : Int) + 1, 0, 0, 10 + us.getD i 0 % 5, 3, 0, 0, 0, 0⟩
def ordL (us : List Int) (k : Nat) : List Lt := (List.range k).map (ordAt us)
theorem ordL_length (us : List Int) (k : Nat) : (ordL us k).length = k := by simp [ordL]
theorem ordL_get {us : List Int} {k i : Nat} (h : i < k) : (ordL us k).getD i Lt.nil = ordAt us i := by
  rw [List.getD_eq_getElem?_getD]
  simp [ordL, h]
theorem ordL_succ (us : List Int) (k : Nat) : ordL us (k + 1) = ordL us k ++ [ordAt us k] := by simp [ordL, List.range_succ]
theorem ordL_rises (us : List Int) (k : Nat) : Rises (ordL us k) := by
  intro i j hij hj
  rw [ordL_length] at hj
  rw [ordL_get hj, ordL_get (by omega)]
  simp only [ordAt]
  omega
theorem ordL_bh (us : List Int) (k : Nat) (hk : k ≤ 14) : Bhs (ordL us k) := by
  intro x hx
  obtain ⟨i, hi, rfl⟩ := List.mem_map.1 hx
  have hi' := List.mem_range.1 hi
  exact ⟨by simp only [ordAt]; omega, by simp only [ordAt]; omega, by simp only [ordAt]; omega, by simp only [ordAt]; omega, by simp only [ordAt]; omega, by simp only [ordAt]; omega, by simp only [ordAt]; omega, by simp only [ordAt]; omega⟩
theorem ordAt_rest (us : List Int) (i : Nat) : rest (ordAt us i) = 3 := by simp [rest, ordAt]
theorem ordAt_can (us : List Int) (i : Nat) : can (ordAt us i) 2 = true := by
  unfold can vld
  rw [ordAt_rest]
  simp [ordAt]
  omega
theorem ordL_is {us : List Int} {k : Nat} {is : List Nat} (h : Turned (ordL us k) 2 is) : is.length = k ∧ ∀ j, j < is.length → is.getD j 0 < k := by
  have hm : ∀ i, i ∈ is ↔ i ∈ List.range k := fun i => by
    rw [h.mem, ordL_length, List.mem_range]
    constructor
    · exact fun e => e.1
    · intro e
      rw [ordL_get e]
      exact ⟨e, ordAt_can us i⟩
  have hp : is.Perm (List.range k) := (List.perm_ext_iff_of_nodup (turned_nodup h) List.nodup_range).2 hm
  refine ⟨by rw [hp.length_eq]; simp, fun j hj => ?_⟩
  have : is.getD j 0 ∈ is := by rw [List.getD_eq_getElem?_getD, List.getElem?_eq_getElem hj]; exact List.getElem_mem hj
  exact List.mem_range.1 ((hm _).1 this)
theorem sumP_all : ∀ (P : List (Int × Int)), (∀ j, j < P.length → 1 ≤ (P.getD j (0, 0)).2 ∧ (P.getD j (0, 0)).2 ≤ 3 ∧ (j + 1 < P.length → (P.getD j (0, 0)).2 = 3)) → (P = [] ∧ sumP P = 0) ∨ (0 < P.length ∧ 3 * ((P.length : Int) - 1) + 1 ≤ sumP P ∧ sumP P ≤ 3 * P.length)
  | [], _ => .inl ⟨rfl, rfl⟩
  | x :: P, h => by
    right
    have h0 := h 0 (by simp)
    have ih := sumP_all P (fun j hj => by
      have := h (j + 1) (by simpa using hj)
      simpa using this)
    simp at h0
    rcases ih with ⟨rfl, e⟩ | ⟨e1, e2, e3⟩
    · simp [sumP]; omega
    · have := h0.2.2 (by omega)
      simp only [sumP, List.length_cons]
      push_cast
      omega
/-- How many parts there are. -/
theorem ord_count {us : List Int} {k : Nat} {is : List Nat} {n N : Int} {L : List Lt} {P : List (Int × Int)} (h : Turned (ordL us k) 2 is) (hT : Tkn (ordL us k) is n L P N) (_hn : 0 ≤ n) : (P.length : Int) = min ((n + 2) / 3) k := by
  obtain ⟨h1, h2⟩ := ordL_is h
  have hr : ∀ j, j < P.length → rest ((ordL us k).getD (is.getD j 0) Lt.nil) = 3 := fun j hj => by
    have := hT.plen
    rw [ordL_get (h2 j (by omega)), ordAt_rest]
  have hs := sumP_all P (fun j hj => by
    have := hT.part j hj
    rw [hr j hj] at this
    exact ⟨this.2.1, this.2.2.1, this.2.2.2⟩)
  have hpl := hT.plen
  have hsum := hT.sum
  have hlack := hT.lack
  by_cases hN : 0 < N
  · obtain ⟨f1, f2⟩ := hT.full hN
    have h3 : sumP P = 3 * P.length := by
      have hall : ∀ (Q : List (Int × Int)), (∀ j, j < Q.length → (Q.getD j (0, 0)).2 = 3) → sumP Q = 3 * Q.length := by
        intro Q
        induction Q with
        | nil => intro _; simp [sumP]
        | cons x Q ih =>
          intro hq
          have a := hq 0 (by simp)
          have b := ih (fun j hj => by have := hq (j + 1) (by simpa using hj); simpa using this)
          simp at a
          simp only [sumP, List.length_cons, b, a]
          push_cast
          omega
      exact hall P (fun j hj => by rw [f2 j hj, hr j hj])
    omega
  · rcases hs with ⟨rfl, e⟩ | ⟨e1, e2, e3⟩
    · simp at *; omega
    · omega
end Lo

set_option maxRecDepth 100000 in
set_option maxHeartbeats 8000000 in
theorem order_any (a : Option Addr) (cap : Nat) (us : List Int) (n : Int) (w : World) (_hlen : us.length ≤ 9223372036854775807) (hL : NumsAt w a us) :
    Calls Try.prog 6 #[.slice a us.length cap, .int .i64 n] w fun e w' => e = .returned (.bool true) ∧ Turn [] w w' := by
  have HL := hide hL
  clear hL
  go_enter Try.func6, Try.ntmps6
  go_wp2_with fail
  refine (known_any w).mono ?_
  rintro e w1 ⟨rfl, hT1⟩
  have HT1 := hide hT1
  clear hT1
  go_wp2_with fail
  go_loopw [5, 6] (fun v i wr => ∃ k : Nat, k ≤ us.length ∧ k ≤ 14 ∧ i = .int .i64 k ∧ Hid (wr.ownsRow w1.heap.size 35 9 v k (flatL (ordL us k))) ∧ Turn [] w wr ∧ w1.heap.size ≤ wr.heap.size) (fun _ i _ => 14 - (intOf i).toNat)
  case atStart => exact ⟨0, Nat.zero_le _, Nat.zero_le _, rfl, World.ownsRow_nil _ _ _ _, HT1.out, Nat.le_refl _⟩
  case round =>
    obtain ⟨k, hk, hk14, rfl, HO, hT, hsz⟩ := hrel
    have HT := hide hT
    clear hT
    by_cases hgo : k < us.length ∧ k < 14
    · obtain ⟨hlt, hlt2⟩ := hgo
      obtain ⟨b, off, rfl, hc⟩ := (HL.out.turn0 HT.out).at hlt
      have hb := lt_of_cell hc
      have HS := hide (ordL_succ us k)
      have HY : Hid (ordAt us k = ⟨(k : Int) + 1, 0, 0, 10 + us.getD k 0 % 5, 3, 0, 0, 0, 0⟩) := rfl
      generalize us.getD k 0 = u at *
      have HOl := hide HO.out
      clear HO
      have hu5 : 0 ≤ u % 5 ∧ u % 5 < 5 := by omega
      have HLn : Hid (k = (ordL us k).length) := (ordL_length us k).symm
      have HO2 : Hid (wr.ownsRow w1.heap.size 35 9 u5 (ordL us k).length (flatL (ordL us k))) := by rw [← HLn.out]; exact HOl.out
      go_wp2_with (first | (go_at_call 8; refine (within_any _ _ _ (by omega) (by omega)).mono ?_; rintro e wr ⟨rfl, rfl⟩) | (at_builtin; refine append_lot rfl _ _ rfl w1.heap.size u5 (ordL us k) ⟨(k : Int) + 1, 0, 0, 10 + u % 5, 3, 0, 0, 0, 0⟩ rfl HO2.out rfl ?_ hsz ?_; (rw [← HLn.out]; omega); intro v' w6 hown6 hgr6) | fail)
      have HO6 : Hid (w6.ownsRow w1.heap.size 35 9 v' (k + 1) (flatL (ordL us (k + 1)))) := by
        rw [HS.out, HY.out]
        rw [List.length_append, ← HLn.out] at hown6
        exact hown6
      have HT6 : Hid (Turn [] w w6) := (HT.out.alloc _).grown hgr6 (fun q hq => .inr (Nat.le_trans HT1.out.size (own_ge HO2.out hq)))
      have hsz6 : w1.heap.size ≤ w6.heap.size := by have := hgr6.size; simp at this; omega
      clear hown6 hgr6
      go_wp2_with fail
      go_roundw
      case rel => exact ⟨k + 1, by omega, by omega, by go_num, HO6, HT6.out, hsz6⟩
      case measure => simp [intOf]; omega
    · have HLen := hide (ordL_length us k)
      obtain ⟨la, lc, rfl, hkl, hlnil, hLa, hlcap, hlx⟩ := own_lots HO.out
      have HLa := hide hLa
      rw [HLen.out] at hlcap ⊢
      clear hLa hkl HO hlx
      have HTk := fun m h0 h1 => hide (take_any la lc (ordL us k) m 2 wr (ordL_rises us k) (by rw [HLen.out]; exact hk14) (ordL_bh us k hk14) HLa.out hlnil h0 h1)
      rw [HLen.out] at HTk
      have hstop : ¬ k < us.length ∨ ¬ k < 14 := by omega
      by_cases hk1 : k < us.length
      all_goals
        go_wp2_with (first | (go_at_call 8; refine (within_any _ _ _ (by omega) (by omega)).mono ?_; rintro e wr ⟨rfl, rfl⟩) | fail)
        obtain ⟨p, hp⟩ : ∃ p, p = n % 60 := ⟨_, rfl⟩
        rw [← hp]
        have hp1 : 0 ≤ p ∧ p < 60 := by omega
        have HP := hide hp
        clear hp
        refine (HTk p (by omega) (by omega)).out.mono ?_
        rintro e w2 ⟨is, g, L, P, N, pa, pc, hTd, htk, rfl, _, _, _, _, hPt, hpn, hP14, hpc1, hpc2, _, hT2⟩
        have HTn : Hid (Tkn (ordL us k) is p L P N) := by
          have h := tkn_of is (ordL us k) p hp1.1 (fun i hi => ⟨((hTd.mem i).1 hi).1, can_rest ((hTd.mem i).1 hi).2⟩) (turned_nodup hTd)
          rw [htk] at h
          exact h
        have HCnt := hide (ord_count hTd HTn.out hp1.1)
        have HTd := hide hTd
        have HPt := hide hPt
        have HL2 := hide (HLa.out.turn0 hT2)
        have HT2 := hide (HT.out.trans hT2)
        clear hTd htk hPt hT2 HTk
        go_wp2_with fail
        go_loopw [10] (fun i w3 => ∃ m : Nat, 1 ≤ m ∧ m ≤ 15 ∧ (m ≤ P.length ∨ m = 1) ∧ i = .int .i64 m ∧ Hid (PartsAt w3 pa P) ∧ Hid (LotsAt w3 la (ordL us k)) ∧ Turn [] w w3) (fun i _ => 15 - (intOf i).toNat)
        case atStart => exact ⟨1, by omega, by omega, .inr rfl, rfl, HPt, HL2, HT2.out⟩
        case round =>
          obtain ⟨m, hm1, hm15, hm2, rfl, HP3, HL3, hT3⟩ := hrel
          have HT3 := hide hT3
          clear hT3 HPt HL2 HT2
          by_cases hml : m < P.length
          · obtain ⟨q, hq⟩ : ∃ q, m = q + 1 := ⟨m - 1, by omega⟩
            obtain ⟨pb, po, rfl, d0, d1⟩ := HP3.out.at (show q < P.length by omega)
            obtain ⟨pb', po', he, e0, _⟩ := HP3.out.at hml
            obtain ⟨rfl, rfl⟩ : pb = pb' ∧ po = po' := by
              have := Option.some.inj he
              exact ⟨congrArg Addr.block this, congrArg Addr.off this⟩
            clear he
            have hpl := HTn.out.plen
            obtain ⟨hisl, hisk⟩ := ordL_is HTd.out
            have hi1 := hisk q (by omega)
            have hi2 := hisk m (by omega)
            have ha := HTn.out.part q (by omega)
            have hb2 := HTn.out.part m hml
            have HLt : Hid (lt2 (ordAt us (is.getD q 0)) (ordAt us (is.getD m 0))) := by
              have h := List.pairwise_iff_getElem.1 HTd.out.ord q m (by omega) (by omega) (by omega)
              rw [← ordL_get hi1, ← ordL_get hi2, List.getD_eq_getElem?_getD (l := is), List.getD_eq_getElem?_getD (l := is), List.getElem?_eq_getElem (by omega), List.getElem?_eq_getElem (by omega)]
              exact h
            have hn3 : (P.getD q (0, 0)).2 = 3 := by rw [ha.2.2.2 (by omega), ordL_get hi1, ordAt_rest]
            have hid1 : (P.getD q (0, 0)).1 = ((is.getD q 0 : Nat) : Int) + 1 := by rw [ha.1, ordL_get hi1]; rfl
            have hid2 : (P.getD m (0, 0)).1 = ((is.getD m 0 : Nat) : Int) + 1 := by rw [hb2.1, ordL_get hi2]; rfl
            rw [hid1] at d0
            rw [hid2] at e0
            rw [hn3] at d1
            obtain ⟨lb, lo, rfl, hx⟩ := HL3.out.at (show is.getD q 0 < (ordL us k).length by rw [HLen.out]; exact hi1)
            obtain ⟨lb', lo', he, hy⟩ := HL3.out.at (show is.getD m 0 < (ordL us k).length by rw [HLen.out]; exact hi2)
            obtain ⟨rfl, rfl⟩ : lb = lb' ∧ lo = lo' := by
              have := Option.some.inj he
              exact ⟨congrArg Addr.block this, congrArg Addr.off this⟩
            rw [ordL_get hi1] at hx
            rw [ordL_get hi2] at hy
            clear he ha hb2 hn3 hid1 hid2 hisk hisl hpl
            generalize is.getD q 0 = i1 at *
            generalize is.getD m 0 = i2 at *
            generalize ordAt us i1 = x at *
            generalize ordAt us i2 = y at *
            have hpb := lt_of_cell d0
            have hlb := hx.lt
            have HX := hide hx
            have HY := hide hy
            obtain ⟨c0, c1, c2, c3, c4, c5, c6, c7, c8⟩ := hx
            obtain ⟨f0, f1, f2, f3, f4, f5, f6, f7, f8⟩ := hy
            have hw1 : IntKind.i64.wrap ((m : Int) - 1) = (q : Nat) := by rw [IntKind.wrap_i64]; omega
            have hw2 : IntKind.i64.wrap (((i1 : Nat) : Int) + 1 - 1) = (i1 : Nat) := by rw [IntKind.wrap_i64]; omega
            have hw3 : IntKind.i64.wrap (((i2 : Nat) : Int) + 1 - 1) = (i2 : Nat) := by rw [IntKind.wrap_i64]; omega
            have hql : q < P.length := by omega
            have HT3' := hide HT3.out
            have hw4 : IntKind.i64.wrap ((q : Nat) : Int) = (q : Nat) := by rw [IntKind.wrap_i64]; omega
            have hw5 : IntKind.i64.wrap ((i1 : Nat) : Int) = (i1 : Nat) := by rw [IntKind.wrap_i64]; omega
            have hw6 : IntKind.i64.wrap ((i2 : Nat) : Int) = (i2 : Nat) := by rw [IntKind.wrap_i64]; omega
            have Hq := hide hq
            clear hq
            go_wp2_with fail
            go_region_held (fun w' => w'.cell? ⟨pb, po + q * 2, none⟩ = some (.int .i64 (((i1 : Nat) : Int) + 1)) ∧ w'.cell? ⟨pb, po + m * 2, none⟩ = some (.int .i64 (((i2 : Nat) : Int) + 1)) ∧ w'.cell? ⟨lb, lo + i1 * 9, none⟩ = some (.int .i64 x.id) ∧ w'.cell? ⟨lb, lo + i1 * 9 + 1, none⟩ = some (.int .i64 x.kd) ∧ w'.cell? ⟨lb, lo + i1 * 9 + 2, none⟩ = some (.int .i64 x.fr) ∧ w'.cell? ⟨lb, lo + i1 * 9 + 3, none⟩ = some (.int .i64 x.un) ∧ w'.cell? ⟨lb, lo + i1 * 9 + 4, none⟩ = some (.int .i64 x.gr) ∧ w'.cell? ⟨lb, lo + i1 * 9 + 5, none⟩ = some (.int .i64 x.co) ∧ w'.cell? ⟨lb, lo + i1 * 9 + 6, none⟩ = some (.int .i64 x.he) ∧ w'.cell? ⟨lb, lo + i1 * 9 + 7, none⟩ = some (.int .i64 x.ex) ∧ w'.cell? ⟨lb, lo + i1 * 9 + 8, none⟩ = some (.int .i64 x.ro) ∧ w'.cell? ⟨lb, lo + i2 * 9, none⟩ = some (.int .i64 y.id) ∧ w'.cell? ⟨lb, lo + i2 * 9 + 1, none⟩ = some (.int .i64 y.kd) ∧ w'.cell? ⟨lb, lo + i2 * 9 + 2, none⟩ = some (.int .i64 y.fr) ∧ w'.cell? ⟨lb, lo + i2 * 9 + 3, none⟩ = some (.int .i64 y.un) ∧ w'.cell? ⟨lb, lo + i2 * 9 + 4, none⟩ = some (.int .i64 y.gr) ∧ w'.cell? ⟨lb, lo + i2 * 9 + 5, none⟩ = some (.int .i64 y.co) ∧ w'.cell? ⟨lb, lo + i2 * 9 + 6, none⟩ = some (.int .i64 y.he) ∧ w'.cell? ⟨lb, lo + i2 * 9 + 7, none⟩ = some (.int .i64 y.ex) ∧ w'.cell? ⟨lb, lo + i2 * 9 + 8, none⟩ = some (.int .i64 y.ro)) (first | assumption | go_keep) (fail)
            all_goals
              have hmq : (m : Int) - 1 = (q : Nat) := by have := Hq.out; omega
              have hmp : ¬ m = P.length := by omega
              rcases HLt.out with hlt' | ⟨heq', hlt'⟩
              · go_wp2_with fail
                go_roundw
                case rel => exact ⟨m + 1, by omega, by omega, .inl (by omega), by go_num, HP3.out.turn0 (((Turn.refl [] _).alloc _).alloc _).drew, HL3.out.turn0 (((Turn.refl [] _).alloc _).alloc _).drew, ((HT3'.out.alloc _).alloc _).drew⟩
                case measure => simp [intOf]; omega
              · have heq2 : (x.un == y.un) = true := by simpa using heq'
                have hle : ¬ y.un < x.un := by omega
                have Heq := hide heq'
                clear heq'
                go_wp2_with fail
                go_roundw
                case rel => exact ⟨m + 1, by omega, by omega, .inl (by omega), by go_num, HP3.out.turn0 (((Turn.refl [] _).alloc _).alloc _).drew, HL3.out.turn0 (((Turn.refl [] _).alloc _).alloc _).drew, ((HT3'.out.alloc _).alloc _).drew⟩
                case measure => simp [intOf]; omega
          · have HWp := fun w => hide (within_any n 60 w (by omega) (by omega))
            rw [← HP.out] at HWp
            by_cases hmin : (k : Int) < (p + 2) / 3
            · have hc : P.length = k := by have := HCnt.out; omega
              have hml2 : ¬ m < k := by omega
              rw [hc] at hml
              generalize P.length = pl at *
              subst hc
              go_wp2_with (first | (go_at_call 8; refine (HWp _).out.mono ?_; rintro e wr ⟨rfl, rfl⟩) | fail)
              go_ret
              exact ⟨rfl, HT3.out⟩
            · have hc : (P.length : Int) = (p + 2) / 3 := by have := HCnt.out; omega
              go_wp2_with (first | (go_at_call 8; refine (HWp _).out.mono ?_; rintro e wr ⟨rfl, rfl⟩) | fail)
              go_ret
              exact ⟨rfl, HT3.out⟩

end Go.Proofs.Ytegbinlpojpffab
