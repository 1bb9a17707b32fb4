/-
  slices.SortStableFunc of few places by the closure, walked.
-/
import Derived.Test.YtegbinlpojpffaaLCmp
namespace Go.Proofs.Ytegbinlpojpffaa
open Go.RowKit Lo

/-- A place ahead of another. -/
def pl (l : List Lt) (i j : Nat) : Prop := lt2 (l.getD i Lt.nil) (l.getD j Lt.nil)
theorem pl_trans {l : List Lt} {i j k : Nat} (h1 : pl l i j) (h2 : pl l j k) : pl l i k := by unfold pl lt2 at *; omega
theorem pl_total {l : List Lt} (hR : Rises l) {i j : Nat} (hi : i < l.length) (hj : j < l.length) (h : i ≠ j) (hn : ¬ pl l i j) : pl l j i := by
  unfold pl lt2 at *
  rcases Nat.lt_or_ge i j with h1 | h1
  · have := hR i j h1 hj; omega
  · have := hR j i (by omega) hi; omega

theorem ins_done {l : List Lt} {A B : List Nat} {x : Nat} (hs : (A ++ B).Pairwise (pl l)) (hB : ∀ b ∈ B, pl l x b) (hA : ∀ a ∈ A, pl l a x) : (A ++ x :: B).Pairwise (pl l) := by
  rw [List.pairwise_append] at hs ⊢
  refine ⟨hs.1, List.pairwise_cons.2 ⟨hB, hs.2.1⟩, fun a ha b hb => ?_⟩
  rcases List.mem_cons.1 hb with rfl | hb
  · exact hA a ha
  · exact hs.2.2 a ha b hb

/-- Where the inner loop stands: x stands at j among k + 1. -/
structure Ins (l : List Lt) (xs : List Nat) (k j : Nat) (A : List Nat) (x : Nat) (B T ys : List Nat) : Prop where
  eq : ys = A ++ x :: (B ++ T)
  la : A.length = j
  lb : A.length + B.length = k
  so : (A ++ B).Pairwise (pl l)
  up : ∀ b ∈ B, pl l x b
  perm : ys.Perm xs

theorem Ins.start {l : List Lt} {xs ys : List Nat} {k : Nat} (hk : k < ys.length) (hp : ys.Perm xs) (hs : (ys.take k).Pairwise (pl l)) : Ins l xs k k (ys.take k) (ys.getD k 0) [] (ys.drop (k + 1)) ys := by
  have e : ys.getD k 0 = ys[k] := by rw [List.getD_eq_getElem?_getD, List.getElem?_eq_getElem hk]; rfl
  refine ⟨?_, by rw [List.length_take]; omega, by rw [List.length_take]; simp; omega, by rwa [List.append_nil], by simp, hp⟩
  rw [e, List.nil_append, ← List.drop_eq_getElem_cons hk, List.take_append_drop]
theorem Ins.step {l : List Lt} {xs ys A B T : List Nat} {k j x a : Nat} (h : Ins l xs k (j + 1) (A ++ [a]) x B T ys) (hx : pl l x a) : Ins l xs k j A x (a :: B) T (A ++ x :: a :: (B ++ T)) := by
  refine ⟨by simp, by have := h.la; simp at this; omega, by have := h.lb; simp at this ⊢; omega, by have := h.so; rw [List.append_assoc] at this; exact this, fun b hb => ?_, ?_⟩
  · rcases List.mem_cons.1 hb with rfl | hb
    · exact hx
    · exact h.up b hb
  · refine List.Perm.trans ?_ h.perm
    rw [h.eq, List.append_assoc]
    exact List.Perm.append_left A (List.Perm.swap a x (B ++ T))
theorem Ins.done {l : List Lt} {xs ys A B T : List Nat} {k j x : Nat} (h : Ins l xs k j A x B T ys) (hA : ∀ a ∈ A, pl l a x) : (ys.take (k + 1)).Pairwise (pl l) := by
  have e : ys.take (k + 1) = A ++ x :: B := by
    rw [h.eq, ← List.cons_append, ← List.append_assoc]
    exact List.take_left' (by have := h.lb; simp; omega)
  rw [e]
  exact ins_done h.so h.up hA
theorem Ins.last {l : List Lt} {xs ys A B T : List Nat} {k j x a : Nat} (h : Ins l xs k (j + 1) (A ++ [a]) x B T ys) (hR : Rises l) (hm : ∀ i ∈ xs, i < l.length) (hn : xs.Nodup) (hx : ¬ pl l x a) : ∀ c ∈ A ++ [a], pl l c x := by
  have hny : ys.Nodup := h.perm.nodup_iff.2 hn
  have hmem : ∀ i ∈ ys, i < l.length := fun i hi => hm i (h.perm.mem_iff.1 hi)
  have hxm : x ∈ ys := by rw [h.eq]; simp
  have ham : a ∈ ys := by rw [h.eq]; simp
  have hne : x ≠ a := by
    rw [h.eq, List.nodup_append] at hny
    exact fun e => hny.2.2 a (by simp) x (by simp) e.symm
  have hax := pl_total hR (hmem x hxm) (hmem a ham) hne hx
  intro c hc
  rcases List.mem_append.1 hc with hc | hc
  · have hs := h.so
    rw [List.append_assoc, List.pairwise_append] at hs
    exact pl_trans (hs.2.2 c hc a (by simp)) hax
  · simp at hc; subst hc; exact hax
theorem Ins.len {l : List Lt} {xs ys A B T : List Nat} {k j x : Nat} (h : Ins l xs k j A x B T ys) : ys.length = xs.length := h.perm.length_eq
theorem Ins.at {l : List Lt} {xs ys A B T : List Nat} {k j x : Nat} (h : Ins l xs k j A x B T ys) : ys.getD j 0 = x ∧ j < ys.length := by
  rw [h.eq, ← h.la]
  simp
theorem Ins.at1 {l : List Lt} {xs ys A B T : List Nat} {k j x a : Nat} (h : Ins l xs k (j + 1) (A ++ [a]) x B T ys) : ys.getD j 0 = a := by
  have e : A.length = j := by have := h.la; simp at this; omega
  rw [h.eq, ← e]
  simp

theorem getD_ne {ys : List Nat} {i j v : Nat} (h : i ≠ j) : (ys.set i v).getD j 0 = ys.getD j 0 := by
  rw [List.getD_eq_getElem?_getD, List.getD_eq_getElem?_getD, List.getElem?_set_ne h]
theorem IntsIn.set {w : World} {g : Nat} {ys : List Nat} (h : IntsIn w g ys) (i v : Nat) (_hi : i < ys.length) : IntsIn (w.setCell ⟨g, i, none⟩ (.int .i64 (v : Nat))) g (ys.set i v) := by
  refine ⟨fun k hk => ?_, fun o => by rw [World.frozen?_setCell]; exact h.fz o⟩
  rw [List.length_set] at hk
  by_cases e : i = k
  · subst e
    rw [World.cell?_setCell_same _ _ _ (h.cell i hk), List.getD_eq_getElem?_getD, List.getElem?_set_self hk]
    rfl
  · rw [getD_ne e, World.cell?_setCell_other _ _ _ _ (off_ne e)]
    exact h.cell k hk
theorem IntsIn.drew {w : World} {g : Nat} {ys : List Nat} (h : IntsIn w g ys) : IntsIn w.drew g ys := ⟨h.cell, h.fz⟩
theorem IntsIn.drewN {w : World} {g : Nat} {ys : List Nat} (h : IntsIn w g ys) (n : Nat) : IntsIn (w.drewN n) g ys := ⟨h.cell, h.fz⟩
theorem swap_list (A C : List Nat) (a x : Nat) : ((A ++ a :: x :: C).set (A.length + 1) a).set A.length x = A ++ x :: a :: C := by
  simp
theorem swap_list' (A C : List Nat) (a x : Nat) : ((A ++ a :: x :: C).set A.length x).set (A.length + 1) a = A ++ x :: a :: C := by
  simp

/-- What the closure reads. -/
structure Env (w : World) (bx b off cap : Nat) (l : List Lt) : Prop where
  box : w.cell? ⟨bx, 0, none⟩ = some (.slice (some ⟨b, off, none⟩) l.length cap)
  lots : LotsIn w b off l
  lb : b < w.heap.size
theorem Env.turn {S : List Nat} {w w' : World} {bx b off cap : Nat} {l : List Lt} (h : Env w bx b off cap l) (hT : Turn S w w') (h1 : bx ∉ S) (h2 : b ∉ S) : Env w' bx b off cap l :=
  ⟨(hT.cell (p := ⟨bx, 0, none⟩) (lt_of_cell h.box) h1).trans h.box, h.lots.turn hT h2, Nat.lt_of_lt_of_le h.lb hT.size⟩
theorem Env.before {w : World} {bx b off cap : Nat} {l : List Lt} (h : Env w bx b off cap l) (i j : Nat) (hi : i < l.length) (hj : j < l.length) (hn : l.length ≤ 1000) :
    Calls Try.prog 38 #[.int .i64 (i : Nat), .int .i64 (j : Nat), .pointer (some ⟨bx, 0, none⟩)] w fun e w' => e = .returned (.int .i64 (cmL (l.getD i Lt.nil) (l.getD j Lt.nil))) ∧ Turn [] w w' :=
  before_any i j bx b off cap l.length (l.getD i Lt.nil) (l.getD j Lt.nil) w h.box hi hj hn (h.lots i hi).id (h.lots i hi).un (h.lots j hj).id (h.lots j hj).un

set_option maxRecDepth 100000 in
set_option maxHeartbeats 4000000 in
theorem insertion_any (bx b off capl g cap : Nat) (l : List Lt) (xs : List Nat) (w : World) (hR : Rises l) (hn : l.length ≤ 1000) (hm : ∀ i ∈ xs, i < l.length) (hd : xs.Nodup) (hxl : xs.length ≤ 1000) (hg : g < w.heap.size) (hI : IntsIn w g xs) (hE : Env w bx b off capl l) (h1 : bx ≠ g) (h2 : b ≠ g) :
    Calls Try.prog 43 #[.slice (some ⟨g, 0, none⟩) xs.length cap, .int .i64 0, .int .i64 xs.length, .func (.func 38) #[] #[.pointer (some ⟨bx, 0, none⟩)]] w fun e w' => e = .returned (.tuple #[]) ∧ ∃ ys : List Nat, ys.Perm xs ∧ ys.Pairwise (pl l) ∧ IntsIn w' g ys ∧ Turn [g] w w' := by
  have HI := hide hI
  have HE := hide hE
  have HR := hide hR
  have HM := hide hm
  have HD := hide hd
  clear hI hE hR hm hd
  go_enter Try.func43, Try.ntmps43
  go_wp2_with fail
  go_loopw [8] (fun i wr => ∃ (k : Nat) (ys : List Nat), 1 ≤ k ∧ k ≤ 1001 ∧ i = .int .i64 k ∧ Hid (ys.Perm xs) ∧ Hid ((ys.take k).Pairwise (pl l)) ∧ Hid (IntsIn wr g ys) ∧ Turn [g] w wr) (fun i _ => xs.length - (intOf i).toNat)
  case atStart =>
    refine ⟨1, xs, Nat.le_refl _, by omega, rfl, hide (List.Perm.refl _), ?_, HI, Turn.refl _ _⟩
    cases xs with
    | nil => exact List.Pairwise.nil
    | cons a t => simp [Hid]
  case round =>
    obtain ⟨k, ys, hk1, hk2, rfl, HP, HS, HY, hT⟩ := hrel
    have HT := hide hT
    clear hT
    by_cases hlt : k < xs.length
    · go_wp2_with fail
      go_loopw [9] (fun j w3 => ∃ (m x : Nat) (A B T zs : List Nat), m ≤ 1001 ∧ j = .int .i64 m ∧ Hid (Ins l xs k m A x B T zs) ∧ Hid (IntsIn w3 g zs) ∧ Turn [g] w w3) (fun j _ => (intOf j).toNat)
      case atStart => exact ⟨k, _, _, _, _, ys, hk2, rfl, Ins.start (by rw [HP.out.length_eq]; exact hlt) HP.out HS.out, HY, HT.out⟩
      case round =>
        obtain ⟨m, x, A, B, T, zs, hm1, rfl, HX, HZ, hT3⟩ := hrel
        have HT3 := hide hT3
        clear hT3 HS HY HP HT
        have hxl2 := HX.out.at
        have hzl := HX.out.len
        have hmx : m < xs.length := by omega
        have hx1 : zs.getD m 0 = x := hxl2.1
        have hcx := HZ.out.cell m hxl2.2
        rw [hx1] at hcx
        have hxm : x < l.length := HM.out x (HX.out.perm.mem_iff.1 (by rw [HX.out.eq]; simp))
        have hg3 : g < wr.heap.size := Nat.lt_of_lt_of_le hg HT3.out.size
        clear hxl2 hzl hx1
        by_cases hm0 : m = 0
        · subst hm0
          have HN : Hid ((zs.take (k + 1)).Pairwise (pl l)) := HX.out.done (fun a ha => by have := HX.out.la; rw [List.eq_nil_of_length_eq_zero this] at ha; cases ha)
          have HP := hide HX.out.perm
          go_wp2_with fail
          go_quiet (fail)
          go_wp2_with fail
          go_roundw
          case rel => exact ⟨k + 1, zs, by omega, by omega, by go_num, HP, HN, HZ.out.drewN _, HT3.out.drewN _⟩
          case measure => simp [intOf]; omega
        · obtain ⟨p, hp⟩ : ∃ p, m = p + 1 := ⟨m - 1, by omega⟩
          obtain ⟨A', a, rfl⟩ : ∃ A' a, A = A' ++ [a] := by
            have hne : A ≠ [] := fun e => by have := HX.out.la; rw [e] at this; simp at this; omega
            exact ⟨A.dropLast, A.getLast hne, (List.dropLast_concat_getLast hne).symm⟩
          have HX' : Hid (Ins l xs k (p + 1) (A' ++ [a]) x B T zs) := by rw [← hp]; exact HX
          have hca := HZ.out.cell p (by have := HX.out.at.2; omega)
          rw [HX'.out.at1] at hca
          have ham : a < l.length := HM.out a (HX.out.perm.mem_iff.1 (by rw [HX.out.eq]; simp))
          have HE3 := hide (HE.out.turn HT3.out (by simp [h1]) (by simp [h2]))
          have hz3 := HZ.out.fz
          have hw1 : IntKind.i64.wrap ((m : Int) - 1) = p := by rw [IntKind.wrap_i64]; omega
          have hd0 : decide (0 < m) = true := by simp; omega
          have hpl : p < xs.length := by omega
          have HC := hide ((HE3.out.turn ((Turn.refl [] _).drew) (by simp) (by simp)).before x a hxm ham hn)
          have HPm := hide hp
          clear HX hp hm0
          by_cases hc : cmL (l.getD x Lt.nil) (l.getD a Lt.nil) < 0
          · have HI2 := hide (HX'.out.step ((cmL_neg _ _).1 hc))
            have HEq := hide HX'.out.eq
            have HLa : Hid (A'.length = p) := by have := HX'.out.la; simp at this; exact this
            clear HX'
            generalize cmL (l.getD x Lt.nil) (l.getD a Lt.nil) = c at *
            go_wp2_with fail
            go_region_held (fun w' => w'.cell? ⟨g, m, none⟩ = some (.int .i64 (x : Nat)) ∧ w'.cell? ⟨g, p, none⟩ = some (.int .i64 (a : Nat))) (first | assumption | go_keep | exact ⟨(hT4.cell (p := ⟨g, m, none⟩) hg3 (by simp)).trans hcx, (hT4.cell (p := ⟨g, p, none⟩) hg3 (by simp)).trans hca⟩)
              (first | (go_at_call 38; refine HC.out.mono ?_; rintro e w4 ⟨rfl, hT4⟩))
            have HT4 := hide (HT3.out.drew.then hT4 (by simp))
            have HZ4 := hide (HZ.out.drew.turn hT4 (by simp) hg3)
            have hcx4 := (hT4.cell (p := ⟨g, m, none⟩) hg3 (by simp)).trans hcx
            have hca4 := (hT4.cell (p := ⟨g, p, none⟩) hg3 (by simp)).trans hca
            have hz4 := HZ4.out.fz
            have hg4 : g < w4.heap.size := Nat.lt_of_lt_of_le hg3 hT4.size
            have hmp : ¬ m = p := by have := HPm.out; omega
            have hpm : ¬ p = m := by have := HPm.out; omega
            clear hT4 HC HE3 hcx hca hz3 HZ hg3
            go_wp2_with fail
            go_region
            have HZ5 : Hid (IntsIn ((w4.setCell ⟨g, m, none⟩ (.int .i64 (a : Nat))).setCell ⟨g, p, none⟩ (.int .i64 (x : Nat))).drew g (A' ++ x :: a :: (B ++ T))) := by
              have h := HZ4.out
              rw [HEq.out, List.append_assoc] at h
              have e := swap_list A' (B ++ T) a x
              have h2 := ((h.set m a (by have := HPm.out; have := HLa.out; simp; omega)).set p x (by have := HPm.out; have := HLa.out; simp; omega)).drew
              rw [show m = A'.length + 1 by have := HPm.out; have := HLa.out; omega, show p = A'.length from HLa.out.symm] at h2 ⊢
              rw [show A' ++ ([a] ++ x :: (B ++ T)) = A' ++ a :: x :: (B ++ T) from rfl] at h2
              rwa [e] at h2
            have HT5 := hide (((HT4.out.setCell (b := g) (by simp) m (.int .i64 (a : Nat))).setCell (b := g) (by simp) p (.int .i64 (x : Nat))).drew)
            have hpm1 : (m : Int) - 1 = (p : Int) := by have := HPm.out; omega
            clear HZ4 HT4 hcx4 hca4 hz4
            generalize ((w4.setCell ⟨g, m, none⟩ (.int .i64 (a : Nat))).setCell ⟨g, p, none⟩ (.int .i64 (x : Nat))).drew = w5 at *
            go_wp2_with fail
            go_roundw
            case rel => exact ⟨p, x, A', a :: B, T, _, by have := HPm.out; omega, by go_num, HI2, HZ5, HT5.out⟩
            case measure => simp [intOf]; have := HPm.out; omega
          · have HN := hide (HX'.out.done (HX'.out.last HR.out HM.out HD.out (fun e => hc ((cmL_neg _ _).2 e))))
            have HP := hide HX'.out.perm
            clear HX'
            generalize cmL (l.getD x Lt.nil) (l.getD a Lt.nil) = c at *
            go_wp2_with fail
            go_region_held (fun w' => w'.cell? ⟨g, m, none⟩ = some (.int .i64 (x : Nat)) ∧ w'.cell? ⟨g, p, none⟩ = some (.int .i64 (a : Nat))) (first | assumption | go_keep | exact ⟨(hT4.cell (p := ⟨g, m, none⟩) hg3 (by simp)).trans hcx, (hT4.cell (p := ⟨g, p, none⟩) hg3 (by simp)).trans hca⟩)
              (first | (go_at_call 38; refine HC.out.mono ?_; rintro e w4 ⟨rfl, hT4⟩))
            all_goals
              have HT4 := hide (HT3.out.drew.then hT4 (by simp))
              have HZ4 := hide (HZ.out.drew.turn hT4 (by simp) hg3)
              clear hT4
              go_wp2_with fail
              go_roundw
              case rel => exact ⟨k + 1, zs, by omega, by omega, by go_num, HP, HN, HZ4.out, HT4.out⟩
              case measure => simp [intOf]; omega
    · have hkl : xs.length ≤ k := by omega
      go_wp2_with fail
      go_end0
      refine ⟨rfl, ys, HP.out, ?_, HY.out, HT.out⟩
      have := HS.out
      rwa [List.take_of_length_le (by rw [HP.out.length_eq]; exact hkl)] at this

end Go.Proofs.Ytegbinlpojpffaa
