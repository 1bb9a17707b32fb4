/-
  The reference's reader: a text, the end.
-/
import Derived.Test.YtkbboingeacgjaaQTA
import Derived.Test.YtkbboingeacgjaaQPar
namespace Go.Proofs.Ytkbboingeacgjaa
open Go.RowKit

/-- Where a row from p on lies. -/
def midA (a : Option Addr) (c p : Nat) : Option Addr := if c = p then a else a.map (·.add p)
theorem slice_mid (a : Option Addr) (n c p k : Nat) (w : World) (hk : p + k ≤ c) : (Instr.slice 26 (.slice a n c) (some (.int .i64 (p : Nat))) (some (.int .i64 ((p : Int) + (k : Int)))) none).run Try.prog w = .ok (.slice (midA a c p) k (c - p)) w := by
  rw [run_slice_lh w 26 a n c (by kernel_rfl) .i64 .i64 p ((p : Int) + (k : Int)) (by omega) (by omega) (by omega)]
  have hs : (sizeOf (Try.prog.elem 26)).run Try.prog w = .ok 1 w := by go_simp
  rw [hs]
  have e : ((p : Int) + (k : Int)).toNat = p + k := by omega
  simp only [Result.andThen, sliced, Int.toNat_natCast, e, midA, Nat.mul_one, Nat.add_sub_cancel_left]
theorem midA_at {w : World} {a : Option Addr} {c p k : Nat} {B : List Nat} (h : BytesAt w a B) (hc : B.length ≤ c) (hk : p + k ≤ B.length) : BytesAt w (midA a c p) ((B.drop p).take k) := by
  unfold midA
  split
  · refine .inl ?_
    have : B.drop p = [] := List.drop_of_length_le (by omega)
    rw [this]
    simp
  · rcases h with rfl | ⟨b, off, rfl, h⟩
    · exact .inl (by simp)
    · refine .inr ⟨b, off + p, ?_, fun i hi => ?_⟩
      · simp only [Option.map_some, Addr.add_mid]
      · rw [List.length_take, List.length_drop] at hi
        have := h (p + i) (by omega)
        rw [Nat.add_assoc, this]
        congr 3
        rw [List.getD_eq_getElem?_getD, List.getD_eq_getElem?_getD, List.getElem?_take, if_pos (by omega), List.getElem?_drop]

/-- What Text answers. -/
def TxtP (w : World) (r : Nat) (a : Option Addr) (cap : Nat) (B : List Nat) (t : Sx) (e : Ending) (w' : World) : Prop := ∃ nm : ByteArray, e = .returned (.string nm) ∧ Rdr w' r a cap B (textS .pr t ByteArray.empty).1 ∧ ((textS .pr t ByteArray.empty).1.e = 0 → nm = (textS .pr t ByteArray.empty).2) ∧ Turn [r] w w'

set_option maxRecDepth 100000 in
set_option maxHeartbeats 3200000 in
theorem rtxt {w : World} {r : Nat} {a : Option Addr} {cap : Nat} {B : List Nat} {t : Sx} (h : Rdr w r a cap B t) : Calls Try.prog 32 #[.pointer (some ⟨r, 0, none⟩)] w fun e w' => TxtP w r a cap B t e w' := by
  have HC := hide (ru8 h)
  have hby := h.by
  have hS : textS .pr t ByteArray.empty = ((takeS (countS .pr t 0).1 (countS .pr t 0).2).1, textOf (takeS (countS .pr t 0).1 (countS .pr t 0).2).2) := rfl
  unfold U8P at HC
  unfold TxtP
  rw [hS]
  clear hS h
  generalize countS .pr t 0 = cs at *
  obtain ⟨s, k⟩ := cs
  dsimp only at HC hby ⊢
  go_enter Try.func32, Try.ntmps32
  go_wp2_with fail
  refine HC.out.mono ?_
  rintro e w1 ⟨rfl, hR, hT⟩
  have HT := hide hT
  have HR := hide hR
  obtain ⟨p, h1, h2, h3⟩ := hR.p
  have h0 := hR.c0
  have hc2 := hR.c2
  have f1 := hR.f1
  have f2 := hR.f2
  have hl := hR.hl
  have hcap := hR.cap
  have hwd : IntKind.i64.wrap ((B.length : Int) - (p : Int)) = (B.length : Int) - (p : Int) := by rw [IntKind.wrap_i64]; omega
  clear HC hT
  by_cases he : s.e = 0
  · have hd := h3 he
    have HE := hide he
    rw [he] at hc2
    by_cases hp : B.length < p + k
    · have HTk : Hid (takeS s k = (⟨s.l, 8⟩, List.replicate k 0)) := by
        show _ = _
        have hz : s.l.length < k := by rw [hd, List.length_drop]; omega
        unfold takeS
        rw [if_neg (by omega), if_pos hz]
      have HRn := hide (fun n => (hR.drewN n).setE 8 (by omega) s.l)
      have hcmp : ((B.length : Int) - (p : Int) < (k : Int)) := by omega
      clear h3 he hd hR
      go_upto_region 2 with fail
      go_quiet (fail)
      go_wp2_with fail
      go_ret
      refine ⟨_, rfl, ?_, ?_, ?_⟩
      · rw [HTk.out]; exact HRn.out _
      · rw [HTk.out]; exact fun k => by cases k
      · exact (HT.out.drewNr _).setCell (by simp) 2 _
    · have HTk : Hid (takeS s k = (⟨B.drop (p + k), 0⟩, (B.drop p).take k)) := by
        show _ = _
        have hz : ¬ s.l.length < k := by rw [hd, List.length_drop]; omega
        unfold takeS
        rw [if_neg (by omega), if_neg hz, hd, List.drop_drop]
      have hcmp : ¬ ((B.length : Int) - (p : Int) < (k : Int)) := by omega
      have hwk : IntKind.i64.wrap ((p : Int) + (k : Int)) = (p : Int) + (k : Int) := by rw [IntKind.wrap_i64]; omega
      clear h3 he hd hR
      go_upto_region 2 with fail
      go_quiet (fail)
      go_upto_region 6 with fail
      have hR2 := HR.out.drewN nq
      have HT2 := hide (HT.out.drewNr nq)
      have h1' : (w1.drewN nq).cell? ⟨r, 1, none⟩ = some (.int .i64 (p : Nat)) := h1
      clear h0 h1 hc2 f1 f2 HR HT
      generalize w1.drewN nq = w2 at *
      have g0 := hR2.c0
      have hcast : ((p + k : Nat) : Int) = (p : Int) + (k : Int) := by omega
      have hR0 := fun n => (hR2.drewN n).setP (p + k) (by omega) HE.out
      rw [hcast] at hR0
      have HRn := hide hR0
      have hsl := fun w' => slice_mid a B.length cap p k w' (by omega)
      have hBm := midA_at hR2.hB hcap (show p + k ≤ B.length by omega)
      have hln : ((B.drop p).take k).length = k := by rw [List.length_take, List.length_drop]; omega
      have hcv := fun n => text_at (hBm.keep (w' := w2.drewN n) (fun _ _ _ => rfl)) k (cap - p) hln
      have hf1 := hR2.f1
      clear hcast hR0 hBm hln hR2
      generalize midA a cap p = ma at *
      generalize hx : textOf ((B.drop p).take k) = tx at *
      have HX := hide hx
      clear hx
      go_quiet (fail)
      go_wp2_with fail
      go_ret
      refine ⟨tx, rfl, ?_, ?_, ?_⟩
      · rw [HTk.out]; exact HRn.out _
      · rw [HTk.out]; exact fun _ => HX.out.symm
      · exact (HT2.out.drewNr _).setCell (by simp) 1 _
  · have HTk : Hid (takeS s k = (s, List.replicate k 0)) := takeS_fault he k
    have hne : ¬ ((s.e : Nat) : Int) = 0 := by omega
    have HE := hide he
    clear h3 hR
    go_upto_region 2 with fail
    go_quiet (fail)
    go_wp2_with fail
    go_ret
    refine ⟨_, rfl, ?_, ?_, HT.out.drewNr _⟩
    · rw [HTk.out]; exact HR.out.drewN _
    · rw [HTk.out]; exact fun k => absurd k HE.out

/-- What End answers. -/
def EndP (w : World) (r : Nat) (a : Option Addr) (cap : Nat) (B : List Nat) (t : Sx) (e : Ending) (w' : World) : Prop := e = .returned (.int .i64 (endS t : Nat)) ∧ Rdr w' r a cap B t ∧ ∃ n, w' = w.drewN n

set_option maxRecDepth 100000 in
set_option maxHeartbeats 3200000 in
theorem rend {w : World} {r : Nat} {a : Option Addr} {cap : Nat} {B : List Nat} {t : Sx} (h : Rdr w r a cap B t) : Calls Try.prog 35 #[.pointer (some ⟨r, 0, none⟩)] w fun e w' => EndP w r a cap B t e w' := by
  have H := hide h
  obtain ⟨p, h1, h2, h3⟩ := h.p
  have h0 := h.c0
  have hc2 := h.c2
  have hl := h.hl
  by_cases he : t.e = 0
  · have hd := h3 he
    have HE := hide he
    rw [he] at hc2
    by_cases hp : p < B.length
    · have HT : Hid (endS t = 9) := by
        show _ = _
        unfold endS
        rw [if_neg (fun k => by rw [hd] at k; have := congrArg List.length k; rw [List.length_drop, List.length_nil] at this; omega)]
        unfold refuseS
        rw [if_pos he]
      clear h3 h he hd
      go_enter Try.func35, Try.ntmps35
      go_upto_region 1 with fail
      go_quiet (fail)
      go_wp2_with fail
      go_ret
      rw [EndP, HT.out]
      exact ⟨rfl, H.out.drewN _, _, rfl⟩
    · have HT : Hid (endS t = 0) := by
        show _ = _
        unfold endS
        rw [if_pos (by rw [hd]; exact List.drop_of_length_le (by omega))]
        exact he
      clear h3 h he hd
      go_enter Try.func35, Try.ntmps35
      go_upto_region 1 with fail
      go_quiet (fail)
      go_wp2_with fail
      go_ret
      rw [EndP, HT.out]
      exact ⟨rfl, H.out.drewN _, _, rfl⟩
  · have HT : Hid (endS t = t.e) := by
      show _ = _
      unfold endS
      split
      · rfl
      · unfold refuseS
        rw [if_neg he]
    have hne : ¬ ((t.e : Nat) : Int) = 0 := by omega
    clear h3 h
    go_enter Try.func35, Try.ntmps35
    go_upto_region 1 with fail
    go_quiet (fail)
    go_wp2_with fail
    go_ret
    rw [EndP, HT.out]
    exact ⟨rfl, H.out.drewN _, _, rfl⟩
end Go.Proofs.Ytkbboingeacgjaa
