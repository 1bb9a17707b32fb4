/-
  What a writer does with the parts of an account.
-/
import Derived.Test.YtghgkjollafeiaaRW
import Derived.Test.YtghgkjollafeiaaCEw0
import Derived.Test.YtghgkjollafeiaaCEw1
namespace Go.Proofs.Ytghgkjollafeiaa
open Go.RowKit

theorem free_wr {w : World} {rb : Nat} : Free .wr w rb := fun e => nomatch e
theorem wtextC {w : World} {O R : Nat → Prop} {b g : Nat} {l : List Nat} (rb o : Nat) (t : ByteArray) (ht : t.size ≤ 255) (h : StAt .wr w O R b g ⟨l, 0⟩) (hR : R rb) (hO : ¬ O rb) (hc : w.cell? ⟨rb, o, none⟩ = some (.string t)) (hl : l.length ≤ 950000000) :
    Calls Try.prog 91 #[.pointer (some ⟨b, 0, none⟩), .pointer (some ⟨rb, o, none⟩)] w fun r w' => r = .returned (.tuple #[]) ∧ StAt .wr w' O R b g ⟨l ++ textB t, 0⟩ ∧ KeepC O R w w' := by
  refine (ctext .wr rb o t (fun _ => ht) h hR hO hc free_wr (fun _ => by show l.length + 0 ≤ _; omega)).mono ?_
  rintro r w' ⟨rfl, hS, hc', hSt⟩
  refine ⟨rfl, ?_, KeepC.step hSt hO (fun q h1 h2 => ?_)⟩
  · have e : l ++ textB t = l ++ [t.size] ++ natBytes t := by unfold textB; rw [List.append_assoc]
    rw [e]
    exact hS
  · obtain rfl : q = o := by omega
    rw [hc, hc']
    rfl
theorem wplanC {w : World} {O R : Nat → Prop} {b g : Nat} {l : List Nat} (rb o : Nat) (t : ByteArray) (xs : List Int) (hn : xs.length = 9) (ht : t.size ≤ 255) (h : StAt .wr w O R b g ⟨l, 0⟩) (hR : R rb) (hO : ¬ O rb) (hc : w.cell? ⟨rb, o, none⟩ = some (.string t)) (hI : IntsAt w rb (o + 1) xs) (hl : l.length ≤ 950000000) :
    Calls Try.prog 42 #[.agg #[ifc .wr b], .pointer (some ⟨rb, o, none⟩)] w fun r w' => r = .returned (.tuple #[]) ∧ StAt .wr w' O R b g ⟨l ++ tiB t xs, 0⟩ ∧ KeepC O R w w' := by
  refine (cplan .wr rb o t xs hn (fun _ => ht) h hR hO hc hI free_wr (fun _ => by show l.length + 400 ≤ _; omega)).mono ?_
  rintro r w' ⟨rfl, hS, hc', hI', hSt⟩
  rw [tiS_wr] at hS hc' hI'
  refine ⟨rfl, hS, KeepC.step hSt hO (fun q h1 h2 => ?_)⟩
  by_cases e : q = o
  · subst e
    rw [hc, hc']
  · exact ints_same hI hI' q (by omega) (by omega)
theorem wnumsC {w : World} {O R : Nat → Prop} {b g : Nat} {l : List Nat} (rb o n : Nat) (cs : Array Value) (hcs : cs.toList = (List.range n).map fun i => Value.pointer (some ⟨rb, o + i, none⟩)) (xs : List Int) (hn : xs.length = n) (hn0 : 0 < n) (hn2 : n ≤ 100) (h : StAt .wr w O R b g ⟨l, 0⟩) (hR : R rb) (hO : ¬ O rb) (hI : IntsAt w rb o xs) (hl : l.length ≤ 950000000) :
    Calls Try.prog 52 #[.agg #[ifc .wr b], .slice (some ⟨w.heap.size, 0, none⟩) n n] (w.alloc (.cells cs 117)).drew fun r w' => r = .returned (.tuple #[]) ∧ StAt .wr w' O R b g ⟨l ++ intsB xs, 0⟩ ∧ KeepC O R w w' := by
  refine (fnums .wr rb o n cs hcs xs hn hn0 hn2 h hR hO hI free_wr (fun _ => by show l.length + 8 * n ≤ _; omega)).mono ?_
  rintro r w' ⟨rfl, hS, hI', hSt⟩
  rw [numsS_wr] at hS hI'
  exact ⟨rfl, hS, KeepC.step hSt hO (fun q h1 h2 => ints_same hI hI' q h1 (by omega))⟩
theorem wlotC {w : World} {O R : Nat → Prop} {b g : Nat} {l : List Nat} (rb o : Nat) (xs : List Int) (hn : xs.length = 9) (h : StAt .wr w O R b g ⟨l, 0⟩) (hR : R rb) (hO : ¬ O rb) (hI : IntsAt w rb o xs) (hl : l.length ≤ 950000000) :
    Calls Try.prog 54 #[.agg #[ifc .wr b], .pointer (some ⟨rb, o, none⟩)] w fun r w' => r = .returned (.tuple #[]) ∧ StAt .wr w' O R b g ⟨l ++ intsB xs, 0⟩ ∧ KeepC O R w w' := by
  refine (clot .wr rb o xs hn h hR hO hI free_wr (fun _ => by show l.length + 72 ≤ _; omega)).mono ?_
  rintro r w' ⟨rfl, hS, hI', hSt⟩
  rw [numsS_wr] at hS hI'
  exact ⟨rfl, hS, KeepC.step hSt hO (fun q h1 h2 => ints_same hI hI' q h1 (by omega))⟩

/-- An entry's bytes. -/
theorem entS_wr (l : List Nat) (d : EntD) : entS .wr ⟨l, 0⟩ d = (⟨l ++ entBy d, 0⟩, d) := by
  have h1 : ent1 .wr ⟨l, 0⟩ d = (⟨l ++ be8 d.id, 0⟩, d.id) := rfl
  have h2 : ent2 .wr ⟨l, 0⟩ d = (⟨l ++ be8 d.id ++ [d.er.toNat], 0⟩, d.er) := by unfold ent2; rw [h1]; rfl
  have h3 : ent3 .wr ⟨l, 0⟩ d = (⟨l ++ be8 d.id ++ [d.er.toNat] ++ intsB d.l, 0⟩, d.l) := by unfold ent3; rw [h2, numsS_wr]; rfl
  by_cases hz : d.xs.headD 0 = 0
  · have h4 : ent4 .wr ⟨l, 0⟩ d = (⟨l ++ be8 d.id ++ [d.er.toNat] ++ intsB d.l ++ [0], 0⟩, false) := by unfold ent4; rw [h3, hz]; rfl
    unfold entS entBy
    rw [h4, h1, h2, h3, if_pos hz]
    simp only [List.append_assoc]
    rfl
  · have h4 : ent4 .wr ⟨l, 0⟩ d = (⟨l ++ be8 d.id ++ [d.er.toNat] ++ intsB d.l ++ [1], 0⟩, true) := by unfold ent4; rw [h3, decide_eq_false hz]; rfl
    have h5 : ent5 .wr ⟨l, 0⟩ d = (⟨l ++ be8 d.id ++ [d.er.toNat] ++ intsB d.l ++ [1] ++ tiB d.nm d.xs, 0⟩, d.nm, d.xs) := by unfold ent5; rw [h4, tiS_wr]
    unfold entS entBy
    rw [h5, h4, h1, h2, h3, if_neg hz]
    simp only [List.append_assoc]
    simp only [if_neg hz]
    rfl
/-- An entry that may be written. -/
structure EntOk (d : EntD) : Prop where
  l : d.l.length = 3
  xs : d.xs.length = 8
  er : 0 ≤ d.er ∧ d.er ≤ 255
  nm : d.nm.size ≤ 255
theorem centry_wr {w : World} {O R : Nat → Prop} {b g : Nat} {l : List Nat} (rb o : Nat) (d : EntD) (hd : EntOk d) (h : StAt .wr w O R b g ⟨l, 0⟩) (hR : R rb) (hO : ¬ O rb) (hE : EntAt w rb o d) (hl : l.length ≤ 950000000) :
    Calls Try.prog 62 #[.agg #[ifc .wr b], .int .i64 0, .pointer (some ⟨rb, o, none⟩), .pointer (some ⟨rb, o + 5, none⟩)] w fun r w' => r = .returned (.tuple #[]) ∧ StAt .wr w' O R b g ⟨l ++ entBy d, 0⟩ ∧ KeepC O R w w' := by
  have hgen : Calls Try.prog 62 #[.agg #[ifc .wr b], .int .i64 0, .pointer (some ⟨rb, o, none⟩), .pointer (some ⟨rb, o + 5, none⟩)] w fun r w' => r = .returned (.tuple #[]) ∧ StAt .wr w' O R b g (entS .wr ⟨l, 0⟩ d).1 ∧ EntAt w' rb o (entS .wr ⟨l, 0⟩ d).2 ∧ Step (fun x => O x ∨ R x) rb o 14 w w' := by
    by_cases hz : d.xs.headD 0 = 0
    · exact centry_wr0 .wr rfl rb o d hd.l hd.xs (fun _ => hd.er) (fun _ => hd.nm) hz h hR hO hE free_wr (fun _ => by show l.length + 500 ≤ _; omega)
    · exact centry_wr1 .wr rfl rb o d hd.l hd.xs (fun _ => hd.er) (fun _ => hd.nm) hz h hR hO hE free_wr (fun _ => by show l.length + 500 ≤ _; omega)
  refine hgen.mono ?_
  rintro r w' ⟨rfl, hS, hE', hSt⟩
  rw [entS_wr] at hS hE'
  refine ⟨rfl, hS, KeepC.step hSt hO (fun q h1 h2 => ?_)⟩
  have r1 := ent_range hE hd.l
  have r2 := ent_range hE' hd.l
  have hlen := entC_length hd.l hd.xs
  obtain ⟨i, rfl⟩ := Nat.exists_eq_add_of_le h1
  have hi : i < (entC d).length := by omega
  rw [r1 i _ (List.getElem?_eq_getElem hi), r2 i _ (List.getElem?_eq_getElem hi)]

set_option maxRecDepth 100000 in
set_option maxHeartbeats 1600000 in
theorem wentryC {w : World} {O R : Nat → Prop} {b g : Nat} {l : List Nat} (rb o : Nat) (d : EntD) (hd : EntOk d) (h : StAt .wr w O R b g ⟨l, 0⟩) (hR : R rb) (hO : ¬ O rb) (hE : EntAt w rb o d) (hl : l.length ≤ 950000000) :
    Calls Try.prog 58 #[.agg #[ifc .wr b], .pointer (some ⟨rb, o, none⟩)] w fun r w' => r = .returned (.tuple #[]) ∧ StAt .wr w' O R b g ⟨l ++ entBy d, 0⟩ ∧ KeepC O R w w' := by
  have hrl : rb < w.heap.size := lt_of_cell hE.c0
  have hK0 : Keep (fun _ => True) w (w.alloc (.cells #[ifc .wr b] 77)) := (Keep.refl _ w).alloc _
  have hk0 : (w.alloc (.cells #[ifc .wr b] 77)).cell? ⟨w.heap.size, 0, none⟩ = some (ifc .wr b) := World.cell?_alloc_at _ _ _ _ rfl
  have HC := hide (centry_wr (w := (w.alloc (.cells #[ifc .wr b] 77)).drew) rb o d hd (h.keep hK0.drew) hR hO (hE.keep (fun x => hK0.cell hrl trivial)) hl)
  have HK0 := hide hK0
  clear hE hK0 h hl hd
  go_enter Try.func58, Try.ntmps58
  go_wp2_with fail
  generalize w.alloc (.cells #[ifc .wr b] 77) = w0 at *
  dsimp only [ifc, tyOf] at hk0
  go_region_with (go_at_call 62; refine HC.out.mono ?_; rintro e w1 ⟨rfl, h1, h2⟩; have H1 := hide h1; have H2 := hide h2; clear h1 h2)
  all_goals
    go_end0
    exact ⟨rfl, H1.out, (KeepC.of_all HK0.out.drew).trans H2.out⟩

/-- What is told of a block that is handed in. -/
structure Mine (w : World) (O R : Nat → Prop) : Prop where
  no : ∀ x, R x → ¬ O x
theorem Mine.less {w : World} {O R O' : Nat → Prop} (h : Mine w O R) {ab : Nat} (hR : R ab) (hlt : ab < w.heap.size) (hO : ∀ x, O' x → O x ∨ w.heap.size ≤ x) : ¬ O' ab := fun hx => by
  rcases hO ab hx with hx | hx
  · exact h.no ab hR hx
  · omega
theorem intsB_length (l : List Int) : (intsB l).length = 8 * l.length := by
  unfold intsB
  induction l with
  | nil => rfl
  | cons x l ih => rw [List.flatMap_cons, List.length_append, be8_length, ih, List.length_cons]; omega

theorem wlotsC {w : World} {O R : Nat → Prop} {b g : Nat} {l : List Nat} (rb o : Nat) (v : Value) (xs : List (List Int)) (hn : xs.length ≤ 255) (h9 : ∀ x ∈ xs, x.length = 9) (hM : Mine w O R) (h : StAt .wr w O R b g ⟨l, 0⟩) (hl : l.length ≤ 700000000) (hR : R rb) (hc : w.cell? ⟨rb, o, none⟩ = some v) (hv : RowsAt w v 9 (xs.map intC)) (hvR : InR R v) :
    Calls Try.prog 53 #[.agg #[ifc .wr b], .pointer (some ⟨rb, o, none⟩), .func (.func 54) #[] #[]] w fun r w' => r = .returned (.tuple #[]) ∧ StAt .wr w' O R b g ⟨l ++ listB intsB xs, 0⟩ ∧ KeepC O R w w' := by
  obtain ⟨a, cap, rfl, hcap, _, hat⟩ := hv.at
  rw [List.length_map] at hc hcap hat
  have e : l ++ listB intsB xs = l ++ [xs.length] ++ (List.range xs.length).flatMap (fun i => intsB (xs.getD i [])) := by
    unfold listB
    rw [range_flat intsB [] xs, List.append_assoc]
  rw [e]
  have hget : ∀ i (hi : i < xs.length), xs.getD i [] = xs[i] := fun i hi => by rw [List.getD_eq_getElem?_getD, List.getElem?_eq_getElem hi]; rfl
  refine wlist_lot rb o a xs.length cap hn (fun i => intsB (xs.getD i [])) 72 (by omega) h (by omega) hR hc hcap (fun hp => ?_) (fun i hi => ?_) ?_
  · obtain ⟨ab, ao, e, _⟩ := hat hp
    exact ⟨ab, ao, e⟩
  · rw [intsB_length, hget i hi, h9 _ (List.getElem_mem hi)]
    omega
  · intro i ab ao hi ea O' w' l' hO1 hO2 hK hS hl'
    obtain ⟨ab', ao', e', hX⟩ := hat (by omega)
    rw [ea] at e'
    obtain ⟨rfl, rfl⟩ : ab = ab' ∧ ao = ao' := by
      have := Option.some.inj e'
      exact ⟨congrArg Addr.block this, congrArg Addr.off this⟩
    have hRa : R ab := hvR ⟨ab, ao, none⟩ _ _ (by rw [ea]) (by first | omega | (rw [List.length_map]; omega))
    have hx := hX i _ (map_at hi)
    have hxi := ints_range hx
    have h9i := h9 _ (List.getElem_mem hi)
    have hlt := lt_of_cell (hxi 0 (by omega))
    rw [hget i hi]
    exact wlotC ab (ao + i * 9) xs[i] h9i hS hRa (hM.less hRa hlt hO2) (fun q hq => (hK.cells ab hRa hlt _).1.trans (hxi q hq)) hl'

theorem two_ints {l : List Int} (h : l.length = 2) : l = [l.getD 0 0, l.getD 1 0] := by
  match l, h with
  | [x, y], _ => rfl
theorem wholdC {w : World} {O R : Nat → Prop} {b g : Nat} {l : List Nat} (rb o : Nat) (hd : HoldD) (cs : List Value) (hn : hd.ps.length ≤ 255) (hM : Mine w O R) (h : StAt .wr w O R b g ⟨l, 0⟩) (hl : l.length ≤ 750000000) (hR : R rb) (hO : ¬ O rb) (hc : w.rangeAt rb o cs) (hv : HoldV w cs hd) (hvR : ∀ v ∈ cs, InR R v) :
    Calls Try.prog 56 #[.agg #[ifc .wr b], .pointer (some ⟨rb, o, none⟩)] w fun r w' => r = .returned (.tuple #[]) ∧ StAt .wr w' O R b g ⟨l ++ holdBy hd, 0⟩ ∧ KeepC O R w w' := by
  obtain ⟨v, rfl, ht2, hp2, hrows⟩ := hv
  obtain ⟨a, cap, rfl, hcap, _, hat⟩ := hrows.at
  have hvv := hvR (.slice a (hd.ps.map intC).length cap) (by simp)
  rw [List.length_map] at hc hcap hat hvv
  obtain ⟨c0, hc⟩ := rangeAt_cons hc
  obtain ⟨c1, hc⟩ := rangeAt_cons hc
  have hI := ints_range hc
  rw [two_ints ht2] at hI
  have hget : ∀ i (hi : i < hd.ps.length), hd.ps.getD i [] = hd.ps[i] := fun i hi => by rw [List.getD_eq_getElem?_getD, List.getElem?_eq_getElem hi]; rfl
  have e : holdBy hd = holdB hd.id hd.ps.length (fun i => be8 ((hd.ps.getD i []).getD 0 0) ++ be8 ((hd.ps.getD i []).getD 1 0)) (hd.t.getD 0 0) (hd.t.getD 1 0) := by
    unfold holdBy holdB listB
    have e1 : intsB hd.t = be8 (hd.t.getD 0 0) ++ be8 (hd.t.getD 1 0) := by
      conv => lhs; rw [two_ints ht2]
      simp [intsB]
    have e2 : hd.ps.flatMap intsB = (List.range hd.ps.length).flatMap (fun i => be8 ((hd.ps.getD i []).getD 0 0) ++ be8 ((hd.ps.getD i []).getD 1 0)) := by
      rw [← range_flat intsB [] hd.ps]
      refine flatMap_same _ fun i hi => ?_
      rw [List.mem_range] at hi
      have hlen := hp2 _ (List.getElem_mem hi)
      rw [← hget i hi] at hlen
      conv => lhs; rw [two_ints hlen]
      simp [intsB]
    rw [e1, e2]
  rw [e]
  refine whold rb o hd.id (hd.t.getD 0 0) (hd.t.getD 1 0) a hd.ps.length cap hn (fun i => ((hd.ps.getD i []).getD 0 0, (hd.ps.getD i []).getD 1 0)) h (by omega) hR hO c0 c1 hI hcap (fun hp => ?_)
  obtain ⟨ab, ao, rfl, hX⟩ := hat hp
  have hRa : R ab := hvv ⟨ab, ao, none⟩ _ _ rfl hp
  refine ⟨ab, ao, rfl, hRa, hM.no ab hRa, fun i hi => ?_⟩
  have hx := hX i _ (map_at hi)
  have hlen := hp2 _ (List.getElem_mem hi)
  have hxi := ints_range hx
  rw [← hget i hi] at hxi hlen
  rw [two_ints hlen] at hxi
  exact hxi
/-- A hold's bytes are few. -/
theorem holdBy_length {h : HoldD} (h2 : h.t.length = 2) (hp : ∀ p ∈ h.ps, p.length = 2) : (holdBy h).length = 25 + 16 * h.ps.length := by
  unfold holdBy listB
  have : (h.ps.flatMap intsB).length = 16 * h.ps.length := by
    generalize h.ps = l at *
    induction l with
    | nil => rfl
    | cons x l ih =>
      rw [List.flatMap_cons, List.length_append, intsB_length, hp x (List.mem_cons_self ..), ih (fun p hq => hp p (List.mem_cons_of_mem _ hq)), List.length_cons]
      omega
  rw [List.length_append, List.length_append, List.length_append, be8_length, intsB_length, h2, this]
  simp only [List.length_singleton]
  omega
theorem HoldV.keepC {w w' : World} {O R : Nat → Prop} {cs : List Value} {h : HoldD} (hv : HoldV w cs h) (hK : KeepC O R w w') (hvR : ∀ v ∈ cs, InR R v) : HoldV w' cs h := by
  obtain ⟨v, rfl, ht2, hp2, a, cap, rfl, h1, h2, h3, h4⟩ := hv
  refine ⟨_, rfl, ht2, hp2, a, cap, rfl, h1, h2, h3, ?_⟩
  rcases h4 with h4 | ⟨b, off, rfl, hr⟩
  · exact .inl h4
  · exact .inr ⟨b, off, rfl, fun j u hj => (hK.cells b (hvR _ (List.mem_cons_of_mem _ (List.mem_cons_self ..)) ⟨b, off, none⟩ _ _ rfl (flatten_pos hj)) (lt_of_cell (hr j u hj)) _).1.trans (hr j u hj)⟩
theorem wholdsC {w : World} {O R : Nat → Prop} {b g : Nat} {l : List Nat} (rb o : Nat) (v : Value) (xs : List HoldD) (css : List (List Value)) (hn : xs.length ≤ 255) (hp : ∀ x ∈ xs, x.ps.length ≤ 255) (hM : Mine w O R) (h : StAt .wr w O R b g ⟨l, 0⟩) (hl : l.length ≤ 700000000) (hR : R rb) (hc : w.cell? ⟨rb, o, none⟩ = some v) (hv : RowsAt w v 4 css) (hlen : css.length = xs.length) (hvR : InR R v)
    (hh : ∀ i (h1 : i < css.length) (h2 : i < xs.length), HoldV w css[i] xs[i] ∧ ∀ u ∈ css[i], InR R u) :
    Calls Try.prog 55 #[.agg #[ifc .wr b], .pointer (some ⟨rb, o, none⟩), .func (.func 56) #[] #[]] w fun r w' => r = .returned (.tuple #[]) ∧ StAt .wr w' O R b g ⟨l ++ listB holdBy xs, 0⟩ ∧ KeepC O R w w' := by
  obtain ⟨a, cap, rfl, hcap, _, hat⟩ := hv.at
  rw [hlen] at hc hcap hat
  have e : l ++ listB holdBy xs = l ++ [xs.length] ++ (List.range xs.length).flatMap (fun i => holdBy (xs.getD i ⟨0, [], []⟩)) := by
    unfold listB
    rw [range_flat holdBy ⟨0, [], []⟩ xs, List.append_assoc]
  rw [e]
  have hget : ∀ i (hi : i < xs.length), xs.getD i ⟨0, [], []⟩ = xs[i] := fun i hi => by rw [List.getD_eq_getElem?_getD, List.getElem?_eq_getElem hi]; rfl
  refine wlist_hold rb o a xs.length cap hn (fun i => holdBy (xs.getD i ⟨0, [], []⟩)) 5000 (by omega) h (by omega) hR hc hcap (fun hp => ?_) (fun i hi => ?_) ?_
  · obtain ⟨ab, ao, e, _⟩ := hat hp
    exact ⟨ab, ao, e⟩
  · rw [hget i hi]
    obtain ⟨⟨_, _, k2, k3, _⟩, _⟩ := hh i (by omega) hi
    rw [holdBy_length k2 k3]
    have := hp _ (List.getElem_mem hi)
    omega
  · intro i ab ao hi ea O' w' l' hO1 hO2 hK hS hl'
    obtain ⟨ab', ao', e', hX⟩ := hat (by omega)
    rw [ea] at e'
    obtain ⟨rfl, rfl⟩ : ab = ab' ∧ ao = ao' := by
      have := Option.some.inj e'
      exact ⟨congrArg Addr.block this, congrArg Addr.off this⟩
    have hRa : R ab := hvR ⟨ab, ao, none⟩ _ _ (by rw [ea]) (by first | omega | (rw [List.length_map]; omega))
    have hx := hX i _ (List.getElem?_eq_getElem (show i < css.length by omega))
    obtain ⟨hvi, huR⟩ := hh i (by omega) hi
    have hlt : ab < w.heap.size := by
      obtain ⟨u, e5, _⟩ := hvi
      rw [e5] at hx
      exact lt_of_cell (hx 0 _ rfl)
    rw [hget i hi]
    refine wholdC ab (ao + i * 4) xs[i] css[i] (hp _ (List.getElem_mem hi)) ⟨fun x hx hx' => ?_⟩ hS hl' hRa (hM.less hRa hlt hO2) (fun j u hj => (hK.cells ab hRa hlt _).1.trans (hx j u hj)) (hvi.keepC hK huR) huR
    rcases hO2 x hx' with h1 | h1
    · exact hM.no x hx h1
    · have := hS.1.lt x (.inr hx)
      exact absurd h1 (by have := h.1.lt x (.inr hx); omega)

theorem wwinC {w : World} {O R : Nat → Prop} {b g : Nat} {l : List Nat} (rb o : Nat) (v : Value) (xs : List EntD) (hn : xs.length ≤ 255) (hok : ∀ x ∈ xs, EntOk x) (hM : Mine w O R) (h : StAt .wr w O R b g ⟨l, 0⟩) (hl : l.length ≤ 700000000) (hR : R rb) (hc : w.cell? ⟨rb, o, none⟩ = some v) (hv : RowsAt w v 14 (xs.map entC)) (hvR : InR R v) :
    Calls Try.prog 57 #[.agg #[ifc .wr b], .pointer (some ⟨rb, o, none⟩), .func (.func 58) #[] #[]] w fun r w' => r = .returned (.tuple #[]) ∧ StAt .wr w' O R b g ⟨l ++ listB entBy xs, 0⟩ ∧ KeepC O R w w' := by
  obtain ⟨a, cap, rfl, hcap, _, hat⟩ := hv.at
  rw [List.length_map] at hc hcap hat
  have e : l ++ listB entBy xs = l ++ [xs.length] ++ (List.range xs.length).flatMap (fun i => entBy (xs.getD i E0)) := by
    unfold listB
    rw [range_flat entBy E0 xs, List.append_assoc]
  rw [e]
  have hget : ∀ i (hi : i < xs.length), xs.getD i E0 = xs[i] := fun i hi => by rw [List.getD_eq_getElem?_getD, List.getElem?_eq_getElem hi]; rfl
  refine wlist_entry rb o a xs.length cap hn (fun i => entBy (xs.getD i E0)) 400 (by omega) h (by omega) hR hc hcap (fun hp => ?_) (fun i hi => ?_) ?_
  · obtain ⟨ab, ao, e, _⟩ := hat hp
    exact ⟨ab, ao, e⟩
  · rw [hget i hi]
    have hk := hok _ (List.getElem_mem hi)
    unfold entBy
    rw [List.length_append, List.length_append, List.length_append, be8_length, intsB_length, hk.l]
    have h1 := hk.nm
    have h2 := hk.xs
    have h3 : (tiB xs[i].nm xs[i].xs).length = 1 + xs[i].nm.size + 8 * xs[i].xs.length := by
      unfold tiB
      rw [List.length_append, List.length_append, natBytes_length]
      have := intsB_length xs[i].xs
      unfold intsB at this
      rw [this]
      rfl
    split
    · simp
    · rw [List.length_append, h3, h2]
      simp only [List.length_singleton]
      omega
  · intro i ab ao hi ea O' w' l' hO1 hO2 hK hS hl'
    obtain ⟨ab', ao', e', hX⟩ := hat (by omega)
    rw [ea] at e'
    obtain ⟨rfl, rfl⟩ : ab = ab' ∧ ao = ao' := by
      have := Option.some.inj e'
      exact ⟨congrArg Addr.block this, congrArg Addr.off this⟩
    have hRa : R ab := hvR ⟨ab, ao, none⟩ _ _ (by rw [ea]) (by first | omega | (rw [List.length_map]; omega))
    have hx := hX i _ (map_at hi)
    have hk := hok _ (List.getElem_mem hi)
    have hxi := range_ent hx hk.l
    have hlt := lt_of_cell hxi.c0
    rw [hget i hi]
    exact wentryC ab (ao + i * 14) xs[i] hk hS hRa (hM.less hRa hlt hO2) (hxi.keep (fun q => (hK.cells ab hRa hlt _).1)) hl'
end Go.Proofs.Ytghgkjollafeiaa
