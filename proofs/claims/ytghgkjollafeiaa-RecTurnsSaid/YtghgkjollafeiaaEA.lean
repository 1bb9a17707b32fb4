/-
  EncodeAccount, walked.
-/
import Derived.Test.YtghgkjollafeiaaWA
namespace Go.Proofs.Ytghgkjollafeiaa
open Go.RowKit

def HasC (w : World) (x : Nat) : Prop := ∃ o u, w.cell? ⟨x, o, none⟩ = some u
theorem HasC.lt {w : World} {x : Nat} (h : HasC w x) : x < w.heap.size := by
  obtain ⟨o, u, h⟩ := h
  exact lt_of_cell h
theorem AcIn.keep {w w' : World} {cs : List Value} {d : AccD} {v1 v2 v3 : Value} {hcs : List (List Value)} (h : AcIn w cs d v1 v2 v3 hcs) (hK : ∀ x, x < w.heap.size → w'.heap[x]? = w.heap[x]?) : AcIn w' cs d v1 v2 v3 hcs :=
  ⟨h.e, h.lp, h.lt, h.ln, h.ll, h.r1.keep (fun x _ hl => hK x hl), h.hl, h.r2.keep (fun x _ hl => hK x hl), fun i h1 h2 => by
    obtain ⟨v, k1, k2, k3, k4⟩ := h.hh i h1 h2
    exact ⟨v, k1, k2, k3, k4.keep (fun x _ hl => hK x hl)⟩, h.we, h.r3.keep (fun x _ hl => hK x hl)⟩
theorem RowsAt.hasC {w : World} {v : Value} {sz : Nat} {css : List (List Value)} (h : RowsAt w v sz css) (hsz : 0 < sz) : InR (HasC w) v := fun x n c e hn => by
  obtain ⟨a, cap, e2, _, _, h3, h4⟩ := h
  rw [e2] at e
  injection e with e5 e6 e7
  rcases h4 with rfl | ⟨b, off, rfl, hr⟩
  · rw [← e6] at hn
    cases hn
  · obtain rfl := Option.some.inj e5
    cases css with
    | nil => rw [← e6] at hn; cases hn
    | cons c0 css =>
      have hl := h3 c0 (List.mem_cons_self ..)
      cases c0 with
      | nil => rw [List.length_nil] at hl; omega
      | cons u c0 => exact ⟨off + 0, u, hr 0 u rfl⟩

set_option maxRecDepth 100000 in
set_option maxHeartbeats 1600000 in
theorem encode_acc {w : World} (rb : Nat) (d : AccD) (cs : List Value) (v1 v2 v3 : Value) (hcs : List (List Value)) (hok : AccOk d) (hA : AccAt w rb d.nm d.key d.pn d.px d.t v1 d.n v2 v3) (hI : AcIn w cs d v1 v2 v3 hcs) :
    Calls Try.prog 28 #[.pointer (some ⟨rb, 0, none⟩), .func (.func 29) #[] #[]] w fun r w' => ∃ v, r = .returned v ∧ Out w w' v (accBy d) := by
  have hK : Keep (fun _ => True) w (w.alloc (.cells #[.slice none 0 0, .int .i64 0] 112)) := (Keep.refl _ w).alloc _
  have hW := wr_new w (fun x => (x < w.heap.size ∧ ¬ HasC w x) ∨ HasC w x) (fun x hx => by
    rcases hx with hx | hx
    · exact hx.1
    · exact hx.lt)
  have hA' : AccAt (w.alloc (.cells #[.slice none 0 0, .int .i64 0] 112)) rb d.nm d.key d.pn d.px d.t v1 d.n v2 v3 := AccAt.of (fun j v hj => (hK.cell (lt_of_cell hA.nm) trivial).trans (hA.range j v hj)) hA.lp hA.lt hA.ln
  have hC := waccount (w := w.alloc (.cells #[.slice none 0 0, .int .i64 0] 112)) (O := fun x => x < w.heap.size ∧ ¬ HasC w x) (R := HasC w) (b := w.heap.size) (g := 0) rb d cs v1 v2 v3 hcs hok ⟨hW, rfl⟩ ⟨0, _, hA.nm⟩ ⟨fun x hx hx' => hx'.2 hx⟩ hA' (hI.keep (fun x hx => hK.block x hx trivial)) (hI.r1.hasC (by omega)) (hI.r2.hasC (by omega)) (hI.r3.hasC (by omega)) (fun c hc u hu => by
    obtain ⟨i, hi, rfl⟩ := List.getElem_of_mem hc
    obtain ⟨v, k1, k2, k3, k4⟩ := hI.hh i hi (by rw [← hI.hl]; exact hi)
    rw [k1] at hu
    rcases List.mem_cons.1 hu with rfl | hu
    · intro x n c e; cases e
    rcases List.mem_cons.1 hu with rfl | hu
    · exact k4.hasC (by omega)
    · obtain ⟨z, _, rfl⟩ := List.mem_map.1 hu
      intro x n c e; cases e)
  have HC := hide hC
  have HK := hide hK
  clear hW hC hK hA hA' hI hok
  generalize accBy d = l at *
  go_enter Try.func28, Try.ntmps28
  go_wp2_with fail
  refine HC.out.mono ?_
  rintro e w1 ⟨rfl, ⟨hW1, _⟩, hKc⟩
  have HW := hide hW1
  have hT : Turn [] w w1 := by
    refine ⟨hKc.keep.os.trans HK.out.os, hKc.keep.tape.trans HK.out.tape, hKc.keep.output.trans HK.out.output, Nat.le_trans HK.out.size hKc.keep.size, fun x hx _ => ?_⟩
    have h0 := HK.out.block x hx trivial
    have hx1 : x < (w.alloc (.cells #[.slice none 0 0, .int .i64 0] 112)).heap.size := Nat.lt_of_lt_of_le hx HK.out.size
    by_cases hc : HasC w x
    · have hc' := hc
      obtain ⟨o, u, hu⟩ := hc
      exact (hKc.blk x hc' o u ((HK.out.cell hx trivial).trans hu)).trans h0
    · exact (hKc.keep.block x hx1 ⟨hx, hc⟩).trans h0
  have HT := hide hT
  clear hW1 hKc hT
  go_wp2_with fail
  refine (wbytes HW.out).mono ?_
  rintro e w2 ⟨v, rfl, hown, hno, rfl⟩
  have HOwn := hide (own_from (w := w) hown (fun g e h => hno g e (by
    by_cases hc : HasC w g
    · exact .inr hc
    · exact .inl ⟨h, hc⟩)))
  clear hown hno
  go_wp2_with fail
  go_ret
  exact ⟨v, rfl, HOwn.out, HT.out⟩

set_option maxRecDepth 100000 in
set_option maxHeartbeats 1600000 in
theorem EncodeAccount_any (w : World) (d : AccD) (cs : List Value) (v1 v2 v3 : Value) (hcs : List (List Value)) (hok : AccOk d) (hI : AcIn w cs d v1 v2 v3 hcs) :
    Calls Try.prog 9 #[.agg cs.toArray] w fun r w' => ∃ v, r = .returned v ∧ Out w w' v (accBy d) := by
  have hT0 : Turn [] w (w.alloc (.cells cs.toArray 28)) := (Turn.refl [] w).alloc _
  have hs0 : (w.alloc (.cells cs.toArray 28)).heap.size = w.heap.size + 1 := by simp
  have hr := rng_new w cs cs.toArray 28 rfl
  have hA : AccAt (w.alloc (.cells cs.toArray 28)) w.heap.size d.nm d.key d.pn d.px d.t v1 d.n v2 v3 := AccAt.of (by rw [← hI.e]; exact hr) hI.lp hI.lt hI.ln
  have HC := hide (encode_acc w.heap.size d cs v1 v2 v3 hcs hok hA (hI.keep (fun x hx => hT0.block x hx (by simp))))
  have HT0 := hide hT0
  clear hA hr hI hok hT0
  generalize accBy d = l at *
  go_enter Try.func9, Try.ntmps9
  go_wp2_with fail
  refine HC.out.mono ?_
  rintro e w1 ⟨v, rfl, ho, ht⟩
  obtain ⟨va, vc, rfl⟩ := own_form ho
  have H1 := hide (own_base (base' := w.heap.size) ho (by omega))
  have H2 := hide (HT0.out.trans ht)
  clear ho ht
  go_wp2_with fail
  go_ret
  exact ⟨_, rfl, H1.out, H2.out⟩
end Go.Proofs.Ytghgkjollafeiaa
