/-
  Either carrier: a number, a text; 'nums'; plans, walked.
-/
import Derived.Test.YtkbboingeacgjaaQWr
import Derived.Test.YtkbboingeacgjaaQRd
namespace Go.Proofs.Ytkbboingeacgjaa
open Go.RowKit

def tyOf : Kd → TypeId
  | .wr => 123
  | .pr => 128
def ifc (k : Kd) (b : Nat) : Value := .iface (tyOf k) (.pointer (some ⟨b, 0, none⟩))
def Free (k : Kd) (w : World) (rb : Nat) : Prop := k = .pr → ∀ o, w.frozen? ⟨rb, o, none⟩ = false
def Room (k : Kd) (s : Sx) (n : Nat) : Prop := k = .wr → s.l.length + n ≤ 1000000000

theorem Free.step {k : Kd} {w w' : World} {rb : Nat} {P : Nat → Prop} {off n : Nat} (h : Free k w rb) (hs : Step P rb off n w w') : Free k w' rb := fun e o => (hs.fz o).trans (h e o)

/-- A record's block is none of the carrier's. -/
theorem StAt.keep {k : Kd} {w w' : World} {O R : Nat → Prop} {b g : Nat} {s : Sx} (h : StAt k w O R b g s) (hK : Keep (fun _ => True) w w') : StAt k w' O R b g s := by
  cases k with
  | wr =>
    obtain ⟨⟨⟨v, hv, hown, hno⟩, hc1, hfz, hob, hlt⟩, he⟩ := h
    have hbl := lt_of_cell hc1
    exact ⟨⟨⟨v, (hK.cell hbl trivial).trans hv, own_kept hown (hK.less (fun _ _ _ => trivial)), hno⟩, (hK.cell hbl trivial).trans hc1, fun o => (hK.fz hbl trivial).trans (hfz o), hob, fun x hx => Nat.lt_of_lt_of_le (hlt x hx) hK.size⟩, he⟩
  | pr => exact PrAt.keep h hK (fun _ _ => trivial) trivial
/-- A new block becomes other people's, or a record's. -/
theorem StAt.more {k : Kd} {w w' : World} {O R O' R' : Nat → Prop} {b g : Nat} {s : Sx} (h : StAt k w O R b g s) (hK : Keep (fun _ => True) w w') (hO : ∀ x, O' x → O x ∨ w.heap.size ≤ x ∧ x < w'.heap.size) (hR : ∀ x, R' x → R x ∨ w.heap.size ≤ x ∧ x < w'.heap.size) (hOO : ∀ x, O x → O' x) : StAt k w' O' R' b g s := by
  cases k with
  | wr =>
    have h2 := StAt.keep h hK
    obtain ⟨⟨⟨v, hv, hown, hno⟩, hc1, hfz, hob, _⟩, he⟩ := h2
    obtain ⟨⟨⟨v0, hv0, hown0, hno0⟩, hc10, _, _, hlt⟩, _⟩ := h
    have hbl := lt_of_cell hc10
    obtain rfl : v0 = v := Option.some.inj (((hK.cell hbl trivial).trans hv0).symm.trans hv)
    have hback : ∀ x, x < w.heap.size → (O' x ∨ R' x) → (O x ∨ R x) := fun x hx h => by
      rcases h with h | h
      · rcases hO x h with h | h
        · exact .inl h
        · omega
      · rcases hR x h with h | h
        · exact .inr h
        · omega
    refine ⟨⟨⟨v0, hv, hown, fun g e => ⟨fun hg => (hno g e).1 (hback g (hown0.lt g e).2 hg), (hno g e).2⟩⟩, hc1, hfz, fun hb => hob (hback b hbl hb), fun x hx => ?_⟩, he⟩
    have hs := hK.size
    rcases hx with hx | hx
    · rcases hO x hx with h | h
      · have := hlt x (.inl h); omega
      · exact h.2
    · rcases hR x hx with h | h
      · have := hlt x (.inr h); omega
      · exact h.2
  | pr =>
    have h2 : PrAt w' O R b g s := StAt.keep (k := .pr) h hK
    have hbl := lt_of_cell (PrAt.c1 h)
    obtain ⟨a, cap, h0, h1, h3, h4, h5, h6⟩ := h2.src
    refine ⟨⟨a, cap, h0, h1, h3, h4, h5, h6⟩, h2.c1, h2.fz, ⟨fun hb => ?_, fun hb => ?_⟩, h2.by8, hOO _ h2.og⟩
    · rcases hO b hb with h | h
      · exact h2.ob.1 h
      · omega
    · rcases hR b hb with h | h
      · exact h2.ob.2 h
      · omega
/-- The source of what is parsed is other people's. -/
def Og (k : Kd) (O : Nat → Prop) (g : Nat) : Prop := k = .pr → O g
theorem StAt.og {k : Kd} {w : World} {O R : Nat → Prop} {b g : Nat} {s : Sx} (h : StAt k w O R b g s) : Og k O g := by
  intro e
  subst e
  exact PrAt.og h
theorem StAt.less {k : Kd} {w : World} {O R O' R' : Nat → Prop} {b g : Nat} {s : Sx} (h : StAt k w O R b g s) (hO : ∀ x, O' x → O x) (hR : ∀ x, R' x → R x) (hg : Og k O' g) : StAt k w O' R' b g s := by
  cases k with
  | wr =>
    obtain ⟨⟨⟨v, hv, hown, hno⟩, hc1, hfz, hob, hlt⟩, he⟩ := h
    have hb : ∀ x, (O' x ∨ R' x) → (O x ∨ R x) := fun x h => h.imp (hO x) (hR x)
    exact ⟨⟨⟨v, hv, hown, fun g e => ⟨fun h => (hno g e).1 (hb g h), (hno g e).2⟩⟩, hc1, hfz, fun h => hob (hb b h), fun x hx => hlt x (hb x hx)⟩, he⟩
  | pr =>
    have h2 : PrAt w O R b g s := h
    exact ⟨h2.src, h2.c1, h2.fz, ⟨fun h => h2.ob.1 (hO b h), fun h => h2.ob.2 (hR b h)⟩, h2.by8, hg rfl⟩

def numF : Kd → Nat
  | .wr => 99
  | .pr => 105
def textF : Kd → Nat
  | .wr => 101
  | .pr => 106

theorem cnum (k : Kd) {w : World} {O R : Nat → Prop} {b g : Nat} {s : Sx} (rb o : Nat) (x : Int) (h : StAt k w O R b g s) (hR : R rb) (hO : ¬ O rb) (hc : w.cell? ⟨rb, o, none⟩ = some (.int .i64 x)) (hf : Free k w rb) (hm : Room k s 0) :
    Calls Try.prog (numF k) #[.pointer (some ⟨b, 0, none⟩), .pointer (some ⟨rb, o, none⟩)] w fun r w' => r = .returned (.tuple #[]) ∧ StAt k w' O R b g (numS k s x).1 ∧ w'.cell? ⟨rb, o, none⟩ = some (.int .i64 (numS k s x).2) ∧ Step (fun x => O x ∨ R x) rb o 1 w w' := by
  have hrl := lt_of_cell hc
  cases k with
  | wr =>
    obtain ⟨hW, he⟩ := h
    refine (wnum rb o x (hm rfl) hW hc (.inr hR)).mono ?_
    rintro e w' ⟨rfl, hW', hK⟩
    exact ⟨rfl, ⟨hW', he⟩, (hK.cell hrl (.inr hR)).trans hc, Step.of hK hrl (.inr hR)⟩
  | pr => exact pnum rb o _ h hR hO hc (hf rfl o)

theorem ctext (k : Kd) {w : World} {O R : Nat → Prop} {b g : Nat} {s : Sx} (rb o : Nat) (x : ByteArray) (hx : k = .wr → x.size ≤ 255) (h : StAt k w O R b g s) (hR : R rb) (hO : ¬ O rb) (hc : w.cell? ⟨rb, o, none⟩ = some (.string x)) (hf : Free k w rb) (hm : Room k s 0) :
    Calls Try.prog (textF k) #[.pointer (some ⟨b, 0, none⟩), .pointer (some ⟨rb, o, none⟩)] w fun r w' => r = .returned (.tuple #[]) ∧ StAt k w' O R b g (textS k s x).1 ∧ w'.cell? ⟨rb, o, none⟩ = some (.string (textS k s x).2) ∧ Step (fun x => O x ∨ R x) rb o 1 w w' := by
  have hrl := lt_of_cell hc
  cases k with
  | wr =>
    obtain ⟨hW, he⟩ := h
    refine (wtext rb o x (hx rfl) (hm rfl) hW hc (.inr hR)).mono ?_
    rintro e w' ⟨rfl, hW', hK⟩
    exact ⟨rfl, ⟨hW', he⟩, (hK.cell hrl (.inr hR)).trans hc, Step.of hK hrl (.inr hR)⟩
  | pr => exact ptext rb o _ h hR hO hc (hf rfl o)

/-- Ints in a row. -/
def IntsAt (w : World) (rb o : Nat) (l : List Int) : Prop := ∀ i (h : i < l.length), w.cell? ⟨rb, o + i, none⟩ = some (.int .i64 l[i])

def numsS (k : Kd) (s : Sx) : List Int → Sx × List Int
  | [] => (s, [])
  | x :: l => ((numsS k (numS k s x).1 l).1, (numS k s x).2 :: (numsS k (numS k s x).1 l).2)
theorem numsS_snoc (k : Kd) (l : List Int) (x : Int) : ∀ s, numsS k s (l ++ [x]) = ((numS k (numsS k s l).1 x).1, (numsS k s l).2 ++ [(numS k (numsS k s l).1 x).2]) := by
  induction l with
  | nil => intro s; rfl
  | cons y l ih =>
    intro s
    show ((numsS k (numS k s y).1 (l ++ [x])).1, (numS k s y).2 :: (numsS k (numS k s y).1 (l ++ [x])).2) = _
    rw [ih]
    rfl
theorem numsS_length (k : Kd) (l : List Int) : ∀ s, (numsS k s l).2.length = l.length := by
  induction l with
  | nil => intro s; rfl
  | cons y l ih => intro s; show (numsS k _ l).2.length + 1 = _; rw [ih]; rfl
theorem numS_len (s : Sx) (x : Int) : (numS .wr s x).1.l.length = s.l.length + 8 := by
  show (s.l ++ be8 x).length = _
  rw [List.length_append, be8_length]
theorem numsS_len (l : List Int) : ∀ s, (numsS .wr s l).1.l.length = s.l.length + 8 * l.length := by
  induction l with
  | nil => intro s; rfl
  | cons y l ih => intro s; show (numsS .wr _ l).1.l.length = _; rw [ih, numS_len, List.length_cons]; omega

theorem IntsAt.step {w w' : World} {rb o off n : Nat} {P : Nat → Prop} {l : List Int} (h : IntsAt w rb o l) (hs : Step P rb off n w w') (hd : o + l.length ≤ off ∨ off + n ≤ o) : IntsAt w' rb o l := fun i hi => (hs.cell (o + i) (by omega)).trans (h i hi)

theorem IntsAt.put {w w' : World} {rb o j n : Nat} {P : Nat → Prop} {ys zs : List Int} {x y : Int} (h : IntsAt w rb o (ys ++ x :: zs)) (hj : ys.length = j) (hs : Step P rb (o + j) 1 w w') (hc : w'.cell? ⟨rb, o + j, none⟩ = some (.int .i64 y)) (_hn : n = n) : IntsAt w' rb o (ys ++ [y] ++ zs) := by
  intro i hi
  by_cases e : i = j
  · subst e
    rw [hc]
    congr 2
    rw [List.getElem_append_left (by simp; omega), List.getElem_append_right (by omega)]
    simp [hj]
  · have hi2 : i < (ys ++ x :: zs).length := by simpa [Nat.add_assoc, Nat.add_comm 1] using hi
    rw [hs.cell (o + i) (by omega), h i hi2]
    congr 2
    by_cases hlt : i < ys.length
    · rw [List.getElem_append_left hlt, List.getElem_append_left (by simp; omega), List.getElem_append_left hlt]
    · rw [List.getElem_append_right (by omega), List.getElem_append_right (by simp; omega)]
      obtain ⟨d, hd⟩ : ∃ d, i - ys.length = d + 1 := ⟨i - ys.length - 1, by omega⟩
      simp only [hd, List.getElem_cons_succ, List.length_append, List.length_singleton]
      congr 1
      omega

set_option maxRecDepth 100000 in
set_option maxHeartbeats 1600000 in
theorem cnums (k : Kd) {w : World} {O R : Nat → Prop} {b g : Nat} {s : Sx} (rb o pb n : Nat) (xs : List Int) (hn : xs.length = n) (hn0 : 0 < n) (hn2 : n ≤ 100) (h : StAt k w O R b g s) (hR : R rb) (hO : ¬ O rb) (hI : IntsAt w rb o xs) (hf : Free k w rb) (hm : Room k s (8 * n))
    (hpb : O pb) (hP : ∀ i, i < n → w.cell? ⟨pb, i, none⟩ = some (.pointer (some ⟨rb, o + i, none⟩))) :
    Calls Try.prog 62 #[.agg #[ifc k b], .slice (some ⟨pb, 0, none⟩) n n] w fun r w' => r = .returned (.tuple #[]) ∧ StAt k w' O R b g (numsS k s xs).1 ∧ IntsAt w' rb o (numsS k s xs).2 ∧ Step (fun x => O x ∨ R x) rb o n w w' := by
  have hpr : pb ≠ rb := fun e => hO (by rw [← e]; exact hpb)
  have hrbl : rb < w.heap.size := lt_of_cell (hI 0 (by omega))
  have hpbl : pb < w.heap.size := lt_of_cell (hP 0 hn0)
  have hK0 : Keep (fun _ => True) w (w.alloc (.cells #[ifc k b] 121)) := (Keep.refl _ w).alloc _
  have hs0 : (w.alloc (.cells #[ifc k b] 121)).heap.size = w.heap.size + 1 := by simp
  have hc0 : (w.alloc (.cells #[ifc k b] 121)).cell? ⟨w.heap.size, 0, none⟩ = some (ifc k b) := World.cell?_alloc_at _ _ _ _ rfl
  have hS0 : StAt k (w.alloc (.cells #[ifc k b] 121)) (fun x => O x ∨ x = w.heap.size) R b g s := h.more hK0 (fun x hx => by
    rcases hx with hx | hx
    · exact .inl hx
    · exact .inr (by omega)) (fun x hx => .inl hx) (fun x hx => .inl hx)
  have hI0 : IntsAt (w.alloc (.cells #[ifc k b] 121)) rb o xs := fun i hi => (hK0.cell hrbl trivial).trans (hI i hi)
  have hP0 : ∀ i, i < n → (w.alloc (.cells #[ifc k b] 121)).cell? ⟨pb, i, none⟩ = some (.pointer (some ⟨rb, o + i, none⟩)) := fun i hi => (hK0.cell hpbl trivial).trans (hP i hi)
  have hf0 : Free k (w.alloc (.cells #[ifc k b] 121)) rb := fun e o => (hK0.fz hrbl trivial).trans (hf e o)
  have hfin : ∀ w', Step (fun x => (O x ∨ x = w.heap.size) ∨ R x) rb o n (w.alloc (.cells #[ifc k b] 121)) w' → Step (fun x => O x ∨ R x) rb o n w w' := fun w' hs =>
    ⟨(hK0.less (fun _ _ _ => trivial)).trans (hs.keep.less (fun x _ hx => ⟨hx.1.imp .inl id, hx.2⟩)), fun q hq => (hs.cell q hq).trans (hK0.cell hrbl trivial), fun q => (hs.fz q).trans (hK0.fz hrbl trivial), fun cs t fr h0 => hs.sh cs t fr ((hK0.block rb hrbl trivial).trans h0)⟩
  have hog := h.og
  have HFin := hide hfin
  have HOg := hide hog
  have HS0 := hide hS0
  have HI0 := hide hI0
  have HP0 := hide hP0
  have HF0 := hide hf0
  have HM := hide hm
  have HC0 := hide hc0
  have HN := hide hn
  have HZ := hide hs0
  clear h hI hf hm hP hn hfin hog hS0 hI0 hP0 hf0 hK0 hc0 hs0
  generalize hrk : w.heap.size = rk at *
  have hrkr : rk ≠ rb := by omega
  go_enter Try.func62, Try.ntmps62
  go_wp2_with fail
  clear hrk
  generalize w.alloc (.cells #[ifc k b] 121) = w0 at *
  go_loopw [5, 8] (fun _ i wr => ∃ j : Nat, j ≤ n ∧ i = .int .i64 (j : Nat) ∧ StAt k wr (fun x => O x ∨ x = rk) R b g (numsS k s (xs.take j)).1 ∧ IntsAt wr rb o ((numsS k s (xs.take j)).2 ++ xs.drop j) ∧ Step (fun x => (O x ∨ x = rk) ∨ R x) rb o n w0 wr) (fun _ i _ => n - (intOf i).toNat)
  case atStart => exact ⟨0, by omega, rfl, HS0.out, HI0.out, Step.refl _ _ _ _ _⟩
  case round =>
    obtain ⟨j, hj, rfl, hS, hI, hSt⟩ := hrel
    have HS := hide hS
    have HI := hide hI
    have HSt := hide hSt
    by_cases hlt : j < n
    · have hjl : j < xs.length := by rw [HN.out]; exact hlt
      have hpc : wr.cell? ⟨pb, j, none⟩ = some (.pointer (some ⟨rb, o + j, none⟩)) := (hSt.keep.cell (by have := HZ.out; omega) ⟨.inl (.inl hpb), hpr⟩).trans (HP0.out j hlt)
      have hck : wr.cell? ⟨rk, 0, none⟩ = some (ifc k b) := (hSt.keep.cell (by have := HZ.out; omega) ⟨.inl (.inr rfl), hrkr⟩).trans HC0.out
      have hlen := numsS_length k (xs.take j) s
      rw [List.length_take, Nat.min_eq_left (by omega)] at hlen
      rw [← List.getElem_cons_drop hjl] at hI
      have hcx : wr.cell? ⟨rb, o + j, none⟩ = some (.int .i64 xs[j]) := by
        have := hI j (by simp; omega)
        rw [this]
        congr 2
        rw [List.getElem_append_right (by omega)]
        simp [hlen]
      have HTk : Hid (xs.take (j + 1) = xs.take j ++ [xs[j]]) := List.take_succ_eq_append_getElem hjl
      have hrm : Room k (numsS k s (xs.take j)).1 0 := by
        intro e
        subst e
        rw [numsS_len, List.length_take]
        have := HM.out rfl
        omega
      have HRm := hide hrm
      have HI2 := hide hI
      have HLe := hide hlen
      have HFr := hide (HF0.out.step hSt)
      have hOr : ¬ (O rb ∨ rb = rk) := fun h => by
        rcases h with h | h
        · exact hO h
        · exact hrkr h.symm
      have HCx := hide hcx
      clear hS hI hSt hlen hrm hcx
      rcases k with _ | _
      all_goals
        dsimp only [ifc, tyOf] at hck
        go_wp2_with fail
        refine (cnum _ rb (o + j) xs[j] HS.out hR hOr HCx.out HFr.out HRm.out).mono ?_
        rintro e w2 ⟨rfl, hS2, hc2, hSt2⟩
        have HS2 := hide hS2
        have HSt2 := hide (HSt.out.trans (hSt2.wide (by omega) (by omega)))
        have HI3 := hide (HI2.out.put HLe.out hSt2 hc2 rfl (n := 0))
        clear hS2 hc2 hSt2
        go_wp2_with fail
        go_roundw
        case rel =>
          refine ⟨j + 1, hlt, by go_num, ?_, ?_, HSt2.out⟩
          · rw [HTk.out, numsS_snoc]; exact HS2.out
          · rw [HTk.out, numsS_snoc]; exact HI3.out
        case measure => simp [intOf]; omega
    · obtain rfl : j = n := by omega
      rw [List.take_of_length_le (by rw [HN.out]; omega)] at hS hI
      rw [List.drop_eq_nil_of_le (by rw [HN.out]; omega), List.append_nil] at hI
      have HS := hide hS
      have HI := hide hI
      clear hS hI hSt
      go_wp2_with fail
      go_end0
      exact ⟨rfl, HS.out.less (fun x hx => .inl hx) (fun x hx => hx) HOg.out, HI.out, HFin.out _ HSt.out⟩
end Go.Proofs.Ytkbboingeacgjaa
