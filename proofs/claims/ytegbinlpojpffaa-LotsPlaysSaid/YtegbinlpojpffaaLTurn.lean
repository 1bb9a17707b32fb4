/-
  slices.SortStableFunc, inTurn, walked.
-/
import Derived.Test.YtegbinlpojpffaaLSort
import Derived.Test.YtegbinlpojpffaaLCopy
namespace Go.Proofs.Ytegbinlpojpffaa
open Go.RowKit Go.Maps Lo

set_option maxRecDepth 100000 in
set_option maxHeartbeats 2000000 in
theorem insertion_nil (a : Option Addr) (cap : Nat) (f : Value) (w : World) :
    Calls Try.prog 43 #[.slice a 0 cap, .int .i64 0, .int .i64 0, f] w fun e w' => e = .returned (.tuple #[]) ∧ w' = w := by
  go_enter Try.func43, Try.ntmps43
  go_wp2_with fail
  go_loop [8] (fun i => i = .int .i64 1) (fun _ => 0)
  case atStart => rfl
  case round =>
    subst hrel
    go_wp2_with fail
    go_end0
    exact ⟨rfl, rfl⟩

set_option maxRecDepth 100000 in
set_option maxHeartbeats 2000000 in
theorem stable_any {a : Option Addr} {n cap : Nat} {f : Value} {w : World} {R : World → Prop} (hn : n < 20) (h : Calls Try.prog 43 #[.slice a n cap, .int .i64 0, .int .i64 n, f] w fun e w' => e = .returned (.tuple #[]) ∧ R w') :
    Calls Try.prog 41 #[.slice a n cap, .int .i64 n, f] w fun e w' => e = .returned (.tuple #[]) ∧ R w' := by
  have HC := hide h
  clear h
  go_enter Try.func41, Try.ntmps41
  go_wp2_with fail
  go_loop [7, 8] (fun i j => i = .int .i64 0 ∧ j = .int .i64 20) (fun _ _ => 0)
  case atStart => exact ⟨rfl, rfl⟩
  case round =>
    obtain ⟨rfl, rfl⟩ := hrel
    go_wp2_with fail
    refine HC.out.mono ?_
    rintro e w1 ⟨rfl, hR⟩
    have HR := hide hR
    clear hR
    go_wp2_with fail
    go_loop [6] (fun i => i = .int .i64 20) (fun _ => 0)
    case atStart => rfl
    case round =>
      subst hrel
      go_wp2_with fail
      go_end0
      exact ⟨rfl, HR.out⟩

set_option maxRecDepth 100000 in
set_option maxHeartbeats 2000000 in
theorem sort_any {a : Option Addr} {n cap : Nat} {f : Value} {w : World} {R : World → Prop} (h : Calls Try.prog 41 #[.slice a n cap, .int .i64 n, f] w fun e w' => e = .returned (.tuple #[]) ∧ R w') :
    Calls Try.prog 37 #[.slice a n cap, f] w fun e w' => e = .returned (.tuple #[]) ∧ R w' := by
  have HC := hide h
  clear h
  go_enter Try.func37, Try.ntmps37
  go_wp2_with fail
  refine HC.out.mono ?_
  rintro e w1 ⟨rfl, hR⟩
  have HR := hide hR
  clear hR
  go_wp2_with fail
  go_end0
  exact ⟨rfl, HR.out⟩

theorem info_int : (Try.prog.info? 3).map (fun i => (i.zero, i.size, i.bytes)) = some (some (.int .i64 0), 1, 8) := by kernel_rfl

theorem append_place {ops : Array Oper} {rest : List Oper} {o : Oper} {a : Act} {Q : Exit → Act → World → Prop} {w : World} (hgd : o.guard = none) (s x : Operand)
    (ho : o.op = .call { callee := .builtin .append, args := #[s, x], argTypes := #[55, 55] }) (base : Nat) (v : Value) (xs : List Nat) (k : Nat) (hs : a.eval s = v) (hown : w.ownsRow base 3 1 v xs.length (flatI xs)) (hx : a.eval x = .slice (some ⟨w.heap.size, 0, none⟩) 1 1) (hb : xs.length < 1000000) (hbase : base ≤ w.heap.size)
    (h : ∀ v' w', w'.ownsRow base 3 1 v' (xs ++ [k]).length (flatI (xs ++ [k])) → (w.alloc (.cells #[.int .i64 (k : Nat)] 3)).grownBy w' v.ownBlock → wpList Try.prog ops Q rest (a.put o.dst v') w') :
    wpList Try.prog ops Q (o :: rest) a (w.alloc (.cells #[.int .i64 (k : Nat)] 3)) := by
  obtain ⟨i0, hi, hz0, hz1, hz2⟩ := info_parts info_int
  have hown' : (w.alloc (.cells #[.int .i64 (k : Nat)] 3)).ownsRow base 3 1 v xs.length (flatI xs) := by
    obtain ⟨hl, h | ⟨g, cap, cur, rfl, hb, hg, rest⟩⟩ := hown
    · exact ⟨hl, .inl h⟩
    · have hlt : g < w.heap.size := by
        rcases Nat.lt_or_ge g w.heap.size with h | h
        · exact h
        · rw [Array.getElem?_eq_none h] at hg; cases hg
      exact ⟨hl, .inr ⟨g, cap, cur, rfl, hb, (Below.heap_alloc w _ g hlt).trans hg, rest⟩⟩
  refine wpList_append_own_at (w.alloc (.cells #[.int .i64 (k : Nat)] 3)) hgd s x 55 ho base 3 i0 (.int .i64 0) 1 8 Try.underlying55 hi hz0 hz1 hz2 rfl (by decide) v xs.length (flatI xs) hs hown' ⟨w.heap.size, 0, none⟩ 1 1 [.int .i64 (k : Nat)] hx rfl (cell_one_new _ _ _) (by simp [Value.oneCell']) (by unfold maxLen; omega) (by omega) (by simp; omega) ?_
  intro v' w' h1 h2 _ _
  refine h v' w' ?_ h2
  simp only [flatI, List.length_append, List.map_append]
  exact h1

/-- The places of the lots ahead of k that units can be taken of. -/
def placesTo (l : List Lt) (now : Int) (k : Nat) : List Nat := (List.range k).filter fun i => can (l.getD i Lt.nil) now
theorem placesTo_succ (l : List Lt) (now : Int) (k : Nat) : placesTo l now (k + 1) = placesTo l now k ++ if can (l.getD k Lt.nil) now = true then [k] else [] := by
  unfold placesTo
  rw [List.range_succ, List.filter_append, List.filter_cons, List.filter_nil]
theorem placesTo_length (l : List Lt) (now : Int) (k : Nat) : (placesTo l now k).length ≤ k := by
  unfold placesTo
  exact Nat.le_trans (List.length_filter_le _ _) (by simp)
theorem placesTo_mem (l : List Lt) (now : Int) (k i : Nat) : i ∈ placesTo l now k ↔ i < k ∧ can (l.getD i Lt.nil) now = true := by simp [placesTo]
theorem placesTo_nodup (l : List Lt) (now : Int) (k : Nat) : (placesTo l now k).Nodup := List.Pairwise.filter _ List.nodup_range
theorem turned_of {l : List Lt} {now : Int} {ys : List Nat} (hp : ys.Perm (placesTo l now l.length)) (hs : ys.Pairwise (pl l)) : Turned l now ys :=
  ⟨hs, fun i => by rw [hp.mem_iff, placesTo_mem]⟩

theorem own_keep {w w' : World} {base e m n : Nat} {v : Value} {cs : List Value} (h : w.ownsRow base e m v n cs) (hT : Turn [] w w') : w'.ownsRow base e m v n cs := by
  obtain ⟨hl, h | ⟨g, cap, cur, rfl, hb, hg, rest⟩⟩ := h
  · exact ⟨hl, .inl h⟩
  · have hlt : g < w.heap.size := by
      rcases Nat.lt_or_ge g w.heap.size with h | h
      · exact h
      · rw [Array.getElem?_eq_none h] at hg; cases hg
    exact ⟨hl, .inr ⟨g, cap, cur, rfl, hb, (hT.block g hlt (by simp)).trans hg, rest⟩⟩
theorem own_ge {w : World} {base e m n : Nat} {v : Value} {cs : List Value} (h : w.ownsRow base e m v n cs) {q : Nat} (hq : v.ownBlock = some q) : base ≤ q := by
  obtain ⟨hl, ⟨rfl, _⟩ | ⟨g, cap, cur, rfl, hb, hg, rest⟩⟩ := h
  · cases hq
  · simp only [Value.ownBlock, Option.some.injEq] at hq
    omega

/-- A slice of places. -/
def PlacesAt (w : World) (base : Nat) (a : Option Addr) (is : List Nat) : Prop := is = [] ∨ ∃ g, a = some ⟨g, 0, none⟩ ∧ IntsIn w g is ∧ g < w.heap.size ∧ base ≤ g

set_option maxRecDepth 100000 in
set_option maxHeartbeats 4000000 in
theorem inTurn_any (b off cap : Nat) (l : List Lt) (now : Int) (w : World) (hR : Rises l) (hn : l.length ≤ 14) (hB : Bhs l) (hb : b < w.heap.size) (hL : LotsIn w b off l) :
    Calls Try.prog 30 #[.slice (some ⟨b, off, none⟩) l.length cap, .int .i64 now] w fun e w' => ∃ (is : List Nat) (a : Option Addr) (c : Nat), e = .returned (.slice a is.length c) ∧ Turned l now is ∧ PlacesAt w' w.heap.size a is ∧ is.length ≤ 14 ∧ Turn [] w w' := by
  have hc0 : (w.alloc (.cells #[.slice (some ⟨b, off, none⟩) l.length cap] 22)).cell? ⟨w.heap.size, 0, none⟩ = some (.slice (some ⟨b, off, none⟩) l.length cap) := World.cell?_alloc_at _ _ _ _ rfl
  have HT0 := hide ((Turn.refl [] w).alloc (.cells #[.slice (some ⟨b, off, none⟩) l.length cap] 22))
  have HL0 := hide (hL.turn0 HT0.out)
  have hs0 : (w.alloc (.cells #[.slice (some ⟨b, off, none⟩) l.length cap] 22)).heap.size = w.heap.size + 1 := by simp
  have HR := hide hR
  have HB := hide hB
  clear hL hR hB
  go_enter Try.func30, Try.ntmps30
  go_wp2_with fail
  generalize w.alloc (.cells #[.slice (some ⟨b, off, none⟩) l.length cap] 22) = w0 at *
  obtain ⟨bx, hbx⟩ : ∃ bx, bx = w.heap.size := ⟨_, rfl⟩
  rw [← hbx] at hc0 hs0 ⊢
  have HBX := hide hbx
  have hbb : b < w0.heap.size := by omega
  have hbx0 : bx < w0.heap.size := by omega
  have hne : b ≠ bx := by omega
  clear hb hbx
  have HC0 := hide hc0
  clear hc0
  go_loopw [5, 10] (fun v j wr => ∃ k : Nat, k ≤ l.length ∧ j = .int .i64 k ∧ Hid (wr.ownsRow w0.heap.size 3 1 v (placesTo l now k).length (flatI (placesTo l now k))) ∧ Turn [] w0 wr) (fun _ j _ => l.length - (intOf j).toNat)
  case atStart => exact ⟨0, Nat.zero_le _, rfl, World.ownsRow_nil _ _ _ _, Turn.refl _ _⟩
  case round =>
    obtain ⟨k, hk, rfl, HO, hT⟩ := hrel
    have HT := hide hT
    clear hT
    by_cases hlt : k < l.length
    · have hx := (HL0.out.turn0 HT.out) k hlt
      have HQ := hide (HB.out.at hlt).q
      have HS := hide (placesTo_succ l now k)
      have HPl := hide (placesTo_length l now k)
      generalize l.getD k Lt.nil = x at *
      have hb1 := hx.lt
      obtain ⟨c0, c1, c2, c3, c4, c5, c6, c7, c8⟩ := hx
      have HT2 := hide (HT.out.alloc (.cells (lotC x).toArray 29))
      go_wp2_with fail
      refine (valid_any x now _).mono ?_
      rintro e w1 ⟨rfl, hT1⟩
      have hI : LotIn w1 wr.heap.size 0 x := (show LotIn (wr.alloc (.cells (lotC x).toArray 29)) wr.heap.size 0 x from ⟨World.cell?_alloc_at _ _ _ _ rfl, World.cell?_alloc_at _ _ _ _ rfl, World.cell?_alloc_at _ _ _ _ rfl, World.cell?_alloc_at _ _ _ _ rfl, World.cell?_alloc_at _ _ _ _ rfl, World.cell?_alloc_at _ _ _ _ rfl, World.cell?_alloc_at _ _ _ _ rfl, World.cell?_alloc_at _ _ _ _ rfl, World.cell?_alloc_at _ _ _ _ rfl⟩).turn hT1 (by simp)
      have HO1 : Hid (w1.ownsRow w0.heap.size 3 1 u5 (placesTo l now k).length (flatI (placesTo l now k))) := own_keep HO.out (((Turn.refl [] wr).alloc _).trans hT1)
      have HT3 := hide (HT2.out.trans hT1)
      have hbw := hI.lt
      obtain ⟨d0, d1, d2, d3, d4, d5, d6, d7, d8⟩ := hI
      clear hT1 c0 c1 c2 c3 c4 c5 c6 c7 c8 HT2 HO HT
      generalize wr.heap.size = g at *
      have hcan : can x now = (vld x now && decide (0 < rest x)) := rfl
      have HCan := hide hcan
      clear hcan
      by_cases hv : vld x now = true
      · rw [hv] at HCan ⊢
        go_wp2_with fail
        refine (rest_any x _ HQ.out).mono ?_
        rintro e w2 ⟨rfl, hT4⟩
        have HT5 := hide (HT3.out.trans hT4)
        have HO2 := hide (own_keep HO1.out hT4)
        clear hT4 d0 d1 d2 d3 d4 d5 d6 d7 d8 hv HO1
        generalize rest x = r at *
        by_cases hr : 0 < r
        · have HS2 : Hid (placesTo l now (k + 1) = placesTo l now k ++ [k]) := by rw [Hid, HS.out, if_pos (by rw [HCan.out]; simpa using hr)]
          have hsz : w0.heap.size ≤ w2.heap.size := HT5.out.size
          clear HCan HS
          go_wp2_with (first | (at_builtin; refine append_place rfl _ _ rfl w0.heap.size u5 (placesTo l now k) k rfl HO2.out rfl ?_ ?_ ?_; (have := HPl.out; omega); exact hsz; intro v' w3 hown3 hgr3) | fail)
          have HO3 : Hid (w3.ownsRow w0.heap.size 3 1 v' (placesTo l now (k + 1)).length (flatI (placesTo l now (k + 1)))) := by rw [HS2.out]; exact hown3
          have HT6 : Hid (Turn [] w0 w3) := (HT5.out.alloc _).grown hgr3 (fun q hq => .inr (own_ge HO2.out hq))
          clear hown3 hgr3
          go_wp2_with fail
          go_roundw
          case rel => exact ⟨k + 1, by omega, by go_num, HO3, HT6.out⟩
          case measure => simp [intOf]; omega
        · have HS2 : Hid (placesTo l now (k + 1) = placesTo l now k) := by rw [Hid, HS.out, if_neg (by rw [HCan.out]; simpa using hr), List.append_nil]
          clear HCan HS
          go_wp2_with fail
          go_roundw
          case rel => exact ⟨k + 1, by omega, by go_num, by rw [HS2.out]; exact HO2, HT5.out⟩
          case measure => simp [intOf]; omega
      · have hv' : vld x now = false := by simpa using hv
        rw [hv'] at HCan ⊢
        have HS2 : Hid (placesTo l now (k + 1) = placesTo l now k) := by rw [Hid, HS.out, if_neg (by rw [HCan.out]; simp), List.append_nil]
        clear HCan HS hv hv' d0 d1 d2 d3 d4 d5 d6 d7 d8
        go_wp2_with fail
        go_roundw
        case rel => exact ⟨k + 1, by omega, by go_num, by rw [HS2.out]; exact HO1, HT3.out⟩
        case measure => simp [intOf]; omega
    · obtain rfl : k = l.length := by omega
      have HPl := hide (placesTo_length l now l.length)
      obtain ⟨a, c, rfl, _, _, ha, _, hx⟩ := own_ints HO.out
      have HE : Hid (Env wr bx b off cap l) := ⟨(HT.out.cell (p := ⟨bx, 0, none⟩) hbx0 (by simp)).trans HC0.out, HL0.out.turn0 HT.out, Nat.lt_of_lt_of_le hbb HT.out.size⟩
      have HSort : Hid (Calls Try.prog 37 #[.slice a (placesTo l now l.length).length c, .func (.func 38) #[] #[.pointer (some ⟨bx, 0, none⟩)]] wr fun e w' => e = .returned (.tuple #[]) ∧ ∃ ys : List Nat, ys.Perm (placesTo l now l.length) ∧ ys.Pairwise (pl l) ∧ PlacesAt w' bx a ys ∧ Turn [] w0 w') := by
        refine sort_any (stable_any (by have := HPl.out; omega) ?_)
        rcases ha with ha | ⟨g, rfl⟩
        · rw [ha]
          refine (insertion_nil a c _ wr).mono ?_
          rintro e w' ⟨rfl, rfl⟩
          exact ⟨rfl, [], List.Perm.refl _, List.Pairwise.nil, .inl rfl, HT.out⟩
        · obtain ⟨_, hg1, hg2, hI⟩ := hx _ rfl
          simp only at hg1 hg2 hI
          refine (insertion_any bx b off cap g c l (placesTo l now l.length) wr HR.out (by omega) (fun i hi => ((placesTo_mem _ _ _ _).1 hi).1) (placesTo_nodup _ _ _) (by have := HPl.out; omega) hg2 hI HE.out (by omega) (by omega)).mono ?_
          rintro e w' ⟨rfl, ys, h1, h2, h3, h4⟩
          exact ⟨rfl, ys, h1, h2, .inr ⟨g, rfl, h3, Nat.lt_of_lt_of_le hg2 h4.size, by omega⟩, HT.out.then h4 (by simp; exact hg1)⟩
      clear hx ha HO HE
      generalize hN : placesTo l now l.length = P at *
      go_wp2_with fail
      refine HSort.out.mono ?_
      rintro e w1 ⟨rfl, ys, h1, h2, h3, h4⟩
      have H1 := hide h1
      have H2 := hide h2
      have H3 := hide h3
      have H4 := hide (HT0.out.trans h4)
      clear h1 h2 h3 h4 HSort
      go_wp2_with fail
      refine bodyPost_ret (v := .slice a P.length c) (by simp [results, Try.results30, go_sem]) rfl ⟨ys, a, c, by rw [H1.out.length_eq], turned_of (by rw [hN]; exact H1.out) H2.out, by rw [← HBX.out]; exact H3.out, by rw [H1.out.length_eq]; have := HPl.out; omega, H4.out⟩

end Go.Proofs.Ytegbinlpojpffaa
