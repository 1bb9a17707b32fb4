/-
  The reference's reader: a byte, an int, a text, the end.
-/
import Derived.Test.YtkbboingeacgjaaQRd
import Derived.Deep.QuietTactic
import Derived.Deep.CutBlock
namespace Go.Proofs.Ytkbboingeacgjaa
open Go.RowKit

/-- A reader in its block: its bytes, what is left of them, its fault. -/
structure Rdr (w : World) (r : Nat) (a : Option Addr) (cap : Nat) (B : List Nat) (t : Sx) : Prop where
  c0 : w.cell? ⟨r, 0, none⟩ = some (.slice a B.length cap)
  p : ∃ p : Nat, w.cell? ⟨r, 1, none⟩ = some (.int .i64 (p : Nat)) ∧ p ≤ B.length ∧ (t.e = 0 → t.l = B.drop p)
  c2 : w.cell? ⟨r, 2, none⟩ = some (.int .i64 (t.e : Nat))
  f1 : w.frozen? ⟨r, 1, none⟩ = false
  f2 : w.frozen? ⟨r, 2, none⟩ = false
  hB : BytesAt w a B
  ne : ∀ x, B ≠ [] → a = some x → x.block ≠ r
  hl : B.length ≤ 1000000
  cap : B.length ≤ cap
  lt : ∀ x ∈ B, x < 256
theorem Rdr.at {w : World} {r : Nat} {a : Option Addr} {cap : Nat} {B : List Nat} {t : Sx} (h : Rdr w r a cap B t) : r < w.heap.size := lt_of_cell h.c0
/-- The reader's block has turned, no other one. -/
theorem Rdr.drewN {w : World} {r : Nat} {a : Option Addr} {cap : Nat} {B : List Nat} {t : Sx} (h : Rdr w r a cap B t) (n : Nat) : Rdr (w.drewN n) r a cap B t :=
  ⟨h.c0, h.p, h.c2, h.f1, h.f2, h.hB.keep (fun _ _ _ => rfl), h.ne, h.hl, h.cap, h.lt⟩
theorem Rdr.keep {w w' : World} {r : Nat} {a : Option Addr} {cap : Nat} {B : List Nat} {t : Sx} (h : Rdr w r a cap B t) (hk : ∀ x, x < w.heap.size → w'.heap[x]? = w.heap[x]?) : Rdr w' r a cap B t :=
  have hr := hk r h.at
  have hc : ∀ o, w'.cell? ⟨r, o, none⟩ = w.cell? ⟨r, o, none⟩ := fun o => World.cell?_of_block (a := ⟨r, o, none⟩) hr
  have hf : ∀ o, w'.frozen? ⟨r, o, none⟩ = w.frozen? ⟨r, o, none⟩ := fun o => World.frozen?_of_block (a := ⟨r, o, none⟩) hr
  ⟨(hc 0).trans h.c0, by obtain ⟨p, h1, h2⟩ := h.p; exact ⟨p, (hc 1).trans h1, h2⟩, (hc 2).trans h.c2, (hf 1).trans h.f1, (hf 2).trans h.f2, h.hB.keep (fun x hx e => hk _ (h.hB.lt x hx e)), h.ne, h.hl, h.cap, h.lt⟩
theorem Rdr.as {w : World} {r : Nat} {a : Option Addr} {cap : Nat} {B : List Nat} {t t' : Sx} (h : Rdr w r a cap B t) (he : t'.e = t.e) (hl : t.e = 0 → t'.l = t.l) : Rdr w r a cap B t' :=
  ⟨h.c0, by obtain ⟨p, h1, h2, h3⟩ := h.p; exact ⟨p, h1, h2, fun e => (hl (by omega)).trans (h3 (by omega))⟩, by rw [he]; exact h.c2, h.f1, h.f2, h.hB, h.ne, h.hl, h.cap, h.lt⟩
theorem set_other {w : World} {b o o' : Nat} (v : Value) (h : o' ≠ o) : (w.setCell ⟨b, o, none⟩ v).cell? ⟨b, o', none⟩ = w.cell? ⟨b, o', none⟩ := World.cell?_setCell_other _ _ _ _ (fun e => h (congrArg Addr.off e).symm)
theorem Rdr.setE {w : World} {r : Nat} {a : Option Addr} {cap : Nat} {B : List Nat} {t : Sx} (h : Rdr w r a cap B t) (e : Nat) (he : e ≠ 0) (l : List Nat) : Rdr (w.setCell ⟨r, 2, none⟩ (.int .i64 (e : Nat))) r a cap B ⟨l, e⟩ := by
  obtain ⟨p, h1, h2, _⟩ := h.p
  refine ⟨(set_other _ (by omega)).trans h.c0, ⟨p, (set_other _ (by omega)).trans h1, h2, fun k => absurd k he⟩, World.cell?_setCell_same _ _ _ h.c2, ?_, ?_, h.hB.keep (fun x hx k => Below.heap_setCell w ⟨r, 2, none⟩ _ _ (h.ne x hx k)), h.ne, h.hl, h.cap, h.lt⟩
  · rw [World.frozen?_setCell]; exact h.f1
  · rw [World.frozen?_setCell]; exact h.f2
theorem Rdr.setP {w : World} {r : Nat} {a : Option Addr} {cap : Nat} {B : List Nat} {t : Sx} (h : Rdr w r a cap B t) (p : Nat) (hp : p ≤ B.length) (he : t.e = 0) : Rdr (w.setCell ⟨r, 1, none⟩ (.int .i64 (p : Nat))) r a cap B ⟨B.drop p, 0⟩ := by
  obtain ⟨p0, h1, _, _⟩ := h.p
  refine ⟨(set_other _ (by omega)).trans h.c0, ⟨p, World.cell?_setCell_same _ _ _ h1, hp, fun _ => rfl⟩, ?_, ?_, ?_, h.hB.keep (fun x hx k => Below.heap_setCell w ⟨r, 1, none⟩ _ _ (h.ne x hx k)), h.ne, h.hl, h.cap, h.lt⟩
  · rw [set_other _ (by omega), h.c2, he]
  · rw [World.frozen?_setCell]; exact h.f1
  · rw [World.frozen?_setCell]; exact h.f2
theorem Turn.drewNr {S : List Nat} {u w : World} (h : Turn S u w) (n : Nat) : Turn S u (w.drewN n) := ⟨h.os, h.tape, h.output, h.size, h.block⟩

/-- What U8 answers. -/
def U8P (w : World) (r : Nat) (a : Option Addr) (cap : Nat) (B : List Nat) (t : Sx) (e : Ending) (w' : World) : Prop := e = .returned (.int .i64 ((countS .pr t 0).2 : Nat)) ∧ Rdr w' r a cap B (countS .pr t 0).1 ∧ Turn [r] w w'

set_option maxRecDepth 100000 in
set_option maxHeartbeats 3200000 in
theorem ru8 {w : World} {r : Nat} {a : Option Addr} {cap : Nat} {B : List Nat} {t : Sx} (h : Rdr w r a cap B t) : Calls Try.prog 31 #[.pointer (some ⟨r, 0, none⟩)] w fun e w' => U8P w r a cap B t e w' := by
  have H := hide h
  obtain ⟨p, h1, h2, h3⟩ := h.p
  have h0 := h.c0
  have hc2 := h.c2
  have f1 := h.f1
  have f2 := h.f2
  have hl := h.hl
  by_cases he : t.e = 0
  · have hd := h3 he
    have HE := hide he
    rw [he] at hc2
    by_cases hp : B.length ≤ p
    · have HT : Hid (countS .pr t 0 = (⟨t.l, 8⟩, 0)) := by
        show ((takeS t 1).1, (takeS t 1).2.headD 0) = _
        have hz : t.l.length < 1 := by rw [hd, List.length_drop]; omega
        unfold takeS
        rw [if_neg (by omega), if_pos hz]
        rfl
      have HR := hide (h.setE 8 (by omega) t.l)
      clear h3 h he hd
      go_enter Try.func31, Try.ntmps31
      go_upto_region 1 with fail
      go_quiet (fail)
      go_wp2_with fail
      go_ret
      rw [U8P, HT.out]
      exact ⟨rfl, HR.out.drewN _, ((Turn.refl [r] w).setCell (by simp) 2 _).drewNr _⟩
    · have hpl : p < B.length := by omega
      have HT : Hid (countS .pr t 0 = (⟨B.drop (p + 1), 0⟩, B[p])) := by
        show ((takeS t 1).1, (takeS t 1).2.headD 0) = _
        have hz : ¬ t.l.length < 1 := by rw [hd, List.length_drop]; omega
        unfold takeS
        rw [if_neg (by omega), if_neg hz, hd, List.drop_drop, ← List.getElem_cons_drop hpl]
        rfl
      obtain ⟨ab, ao, rfl, hcp⟩ := h.hB.at hpl
      have hne : ab ≠ r := h.ne _ (fun e => by rw [e] at hpl; cases hpl) rfl
      have hcast : ((p + 1 : Nat) : Int) = (p : Int) + 1 := by omega
      have hR0 := fun n => (h.drewN n).setP (p + 1) (by omega) HE.out
      rw [hcast] at hR0
      have HR := hide hR0
      clear hcast hR0
      have HX := hide (h.lt _ (List.getElem_mem hpl))
      have hcap := h.cap
      generalize B[p] = x at *
      clear h3 h he hd
      go_enter Try.func31, Try.ntmps31
      go_upto_region 1 with fail
      go_quiet (fail)
      go_upto_region 6 with fail
      have hR := HR.out nq
      have g0 := hR.c0
      have g1 : ((w.drewN nq).setCell ⟨r, 1, none⟩ (.int .i64 ((p : Int) + 1))).cell? ⟨r, 1, none⟩ = some (.int .i64 ((p : Int) + 1)) := World.cell?_setCell_same _ _ _ h1
      have gp : ((w.drewN nq).setCell ⟨r, 1, none⟩ (.int .i64 ((p : Int) + 1))).cell? ⟨ab, ao + p, none⟩ = some (.int .u8 (x : Nat)) := (World.cell?_of_block (a := ⟨ab, ao + p, none⟩) (Below.heap_setCell (w.drewN nq) ⟨r, 1, none⟩ _ ab hne)).trans hcp
      have hwp : IntKind.i64.wrap (p : Int) = (p : Int) := by rw [IntKind.wrap_i64]; omega
      have hwx : IntKind.i64.wrap (x : Int) = (x : Int) := by have := HX.out; rw [IntKind.wrap_i64]; omega
      have HR2 := hide hR
      have HT2 : Hid (Turn [r] w ((w.drewN nq).setCell ⟨r, 1, none⟩ (.int .i64 ((p : Int) + 1)))) := ((Turn.refl [r] w).drewNr nq).setCell (by simp) 1 _
      clear hR HR h0 h1 hc2 f1 f2 hcp
      generalize (w.drewN nq).setCell ⟨r, 1, none⟩ (.int .i64 ((p : Int) + 1)) = w2 at *
      go_quiet (fail)
      go_wp2_with fail
      go_ret
      rw [U8P, HT.out]
      exact ⟨rfl, HR2.out.drewN _, HT2.out.drewNr _⟩
  · have HT : Hid (countS .pr t 0 = (t, 0)) := by
      show ((takeS t 1).1, (takeS t 1).2.headD 0) = _
      unfold takeS
      rw [if_pos he]
      rfl
    have hne : ¬ ((t.e : Nat) : Int) = 0 := by omega
    clear h3 h
    go_enter Try.func31, Try.ntmps31
    go_upto_region 1 with fail
    go_quiet (fail)
    go_wp2_with fail
    go_ret
    rw [U8P, HT.out]
    exact ⟨rfl, H.out.drewN _, (Turn.refl [r] w).drewNr _⟩

/-- Where eight bytes are read one by one. -/
def Mid (t : Sx) (j : Nat) (s : Sx) (V : Nat) : Prop := (t.e = 0 ∧ j ≤ t.l.length → s = ⟨t.l.drop j, 0⟩ ∧ V = beNum (t.l.take j)) ∧ (¬ (t.e = 0 ∧ j ≤ t.l.length) → s.e = if t.e = 0 then 8 else t.e)
theorem takeS_fault {s : Sx} (h : s.e ≠ 0) (n : Nat) : takeS s n = (s, List.replicate n 0) := by unfold takeS; rw [if_pos h]
theorem Mid.next {t s : Sx} {j V : Nat} (h : Mid t j s V) : Mid t (j + 1) (countS .pr s 0).1 (V * 256 + (countS .pr s 0).2) := by
  show Mid t (j + 1) (takeS s 1).1 (V * 256 + (takeS s 1).2.headD 0)
  by_cases h0 : t.e = 0 ∧ j ≤ t.l.length
  · obtain ⟨rfl, rfl⟩ := h.1 h0
    by_cases h1 : j + 1 ≤ t.l.length
    · have ht : takeS ⟨t.l.drop j, 0⟩ 1 = (⟨t.l.drop (j + 1), 0⟩, [t.l[j]]) := by
        unfold takeS
        rw [if_neg (by simp), if_neg (by simp; omega)]
        show ((⟨(t.l.drop j).drop 1, 0⟩ : Sx), (t.l.drop j).take 1) = _
        rw [List.drop_drop, ← List.getElem_cons_drop (show j < t.l.length by omega)]
        rfl
      rw [ht]
      refine ⟨fun _ => ⟨rfl, ?_⟩, fun k => absurd ⟨h0.1, h1⟩ k⟩
      rw [List.take_succ_eq_append_getElem (by omega), beNum_snoc]
      rfl
    · have ht : takeS ⟨t.l.drop j, 0⟩ 1 = (⟨t.l.drop j, 8⟩, [0]) := by
        unfold takeS
        rw [if_neg (by simp), if_pos (by simp; omega)]
        rfl
      rw [ht]
      exact ⟨fun k => absurd k.2 h1, fun _ => by rw [if_pos h0.1]⟩
  · have hs := h.2 h0
    have hne : s.e ≠ 0 := by rw [hs]; split <;> omega
    rw [takeS_fault hne]
    exact ⟨fun k => absurd ⟨k.1, by omega⟩ h0, fun _ => hs⟩
theorem beNum_zeros : ∀ n, beNum (List.replicate n 0) = 0
  | 0 => rfl
  | n + 1 => by rw [List.replicate_succ', beNum_snoc, beNum_zeros n]
theorem Mid.done {t s : Sx} {V : Nat} (h : Mid t 8 s V) : s.e = (takeS t 8).1.e ∧ (s.e = 0 → s = (takeS t 8).1 ∧ V = beNum (takeS t 8).2) ∧ (s.e ≠ 0 → i64of (beNum (takeS t 8).2) = 0) := by
  by_cases h0 : t.e = 0 ∧ 8 ≤ t.l.length
  · obtain ⟨rfl, rfl⟩ := h.1 h0
    have ht : takeS t 8 = (⟨t.l.drop 8, 0⟩, t.l.take 8) := by unfold takeS; rw [if_neg (by omega), if_neg (by omega)]
    rw [ht]
    exact ⟨rfl, fun _ => ⟨rfl, rfl⟩, fun k => absurd rfl k⟩
  · have hs := h.2 h0
    have hne : s.e ≠ 0 := by rw [hs]; split <;> omega
    by_cases he : t.e = 0
    · have ht : takeS t 8 = (⟨t.l, 8⟩, List.replicate 8 0) := by unfold takeS; rw [if_neg (by omega), if_pos (by omega)]
      rw [ht]
      rw [if_pos he] at hs
      exact ⟨hs, fun k => absurd k hne, fun _ => by rw [beNum_zeros]; rfl⟩
    · rw [takeS_fault he]
      rw [if_neg he] at hs
      exact ⟨hs, fun k => absurd k hne, fun _ => by rw [beNum_zeros]; rfl⟩
theorem Rdr.by {w : World} {r : Nat} {a : Option Addr} {cap : Nat} {B : List Nat} {t : Sx} (h : Rdr w r a cap B t) : (countS .pr t 0).2 < 256 := by
  show (takeS t 1).2.headD 0 < 256
  by_cases he : t.e = 0
  · obtain ⟨p, _, _, h3⟩ := h.p
    refine headD_lt (takeS_lt t 1 (fun x hx => ?_))
    rw [h3 he] at hx
    exact h.lt x (List.mem_of_mem_drop hx)
  · rw [takeS_fault he]
    simp

/-- What Int answers. -/
def IntP (w : World) (r : Nat) (a : Option Addr) (cap : Nat) (B : List Nat) (t : Sx) (e : Ending) (w' : World) : Prop := e = .returned (.int .i64 (numS .pr t 0).2) ∧ Rdr w' r a cap B (numS .pr t 0).1 ∧ Turn [r] w w'

set_option maxRecDepth 100000 in
set_option maxHeartbeats 3200000 in
theorem ri64 {w : World} {r : Nat} {a : Option Addr} {cap : Nat} {B : List Nat} {t : Sx} (h : Rdr w r a cap B t) : Calls Try.prog 33 #[.pointer (some ⟨r, 0, none⟩)] w fun e w' => IntP w r a cap B t e w' := by
  have H := hide h
  have HM : Hid (Mid t 0 t 0) := ⟨fun k => ⟨by rw [List.drop_zero]; obtain ⟨l, e⟩ := t; obtain rfl : e = 0 := k.1; rfl, rfl⟩, fun k => by rw [if_neg (fun e => k ⟨e, Nat.zero_le _⟩)]⟩
  clear h
  go_enter Try.func33, Try.ntmps33
  go_wp2_with fail
  go_loopw [3, 4] (fun v i wr => ∃ (j V : Nat) (s : Sx), j ≤ 8 ∧ i = .int .i64 (j : Nat) ∧ v = .int .u64 (V : Nat) ∧ Hid (V < 256 ^ j) ∧ Hid (Mid t j s V) ∧ Hid (Rdr wr r a cap B s) ∧ Hid (Turn [r] w wr)) (fun _ i _ => 8 - (intOf i).toNat)
  case atStart => exact ⟨0, 0, t, by omega, rfl, rfl, show 0 < 256 ^ 0 by decide, HM, H, Turn.refl [r] w⟩
  case round =>
    obtain ⟨j, V, s, hj, rfl, rfl, HV, HMj, HR, HT⟩ := hrel
    by_cases hlt : j < 8
    · have hy := HV.out
      have hp : 256 ^ j ≤ 256 ^ 7 := Nat.pow_le_pow_right (by omega) (by omega)
      have hz := HR.out.by
      have HN := hide HMj.out.next
      have HC := hide (ru8 HR.out)
      have hP1 : 256 ^ (j + 1) = 256 ^ j * 256 := Nat.pow_succ ..
      have HV2 : Hid (V * 256 + (countS .pr s 0).2 < 256 ^ (j + 1)) := by show _ < _; rw [hP1]; omega
      have hor := u64_or_nat (V * 256) (countS .pr s 0).2 (by omega) (by omega)
      rw [shl_or V (countS .pr s 0).2 hz] at hor
      have hor2 : bits .or .u64 ((V : Int) * 256) ((countS .pr s 0).2 : Int) = ((V * 256 + (countS .pr s 0).2 : Nat) : Int) := by
        rw [← hor]
        congr 1
      have hy2 : V * 256 + (countS .pr s 0).2 < 18446744073709551616 := by omega
      have hV : V < 72057594037927936 := by omega
      clear hor hP1 hp hy
      unfold U8P at HC
      generalize countS .pr s 0 = cs at *
      obtain ⟨s2, z⟩ := cs
      dsimp only at hz HN HC HV2 hor2 hy2
      go_wp2_with fail
      refine HC.out.mono ?_
      rintro e w2 ⟨rfl, hR2, hT2⟩
      have HR2 := hide hR2
      have HT2 := hide (HT.out.trans hT2)
      clear hR2 hT2
      go_wp2_with fail
      go_roundw
      case rel => exact ⟨j + 1, V * 256 + z, s2, hlt, by go_num, by go_num, HV2, HN, HR2, HT2⟩
      case measure => simp [intOf]; omega
    · obtain rfl : j = 8 := by omega
      obtain ⟨m1, m2, m3⟩ := HMj.out.done
      have hc2 := HR.out.c2
      by_cases he : s.e = 0
      · obtain ⟨rfl, rfl⟩ := m2 he
        have hi64 : IntKind.i64.wrap (beNum (takeS t 8).2 : Int) = i64of (beNum (takeS t 8).2) := by
          have := HV.out
          rw [IntKind.wrap_i64]
          unfold i64of
          split <;> omega
        have HQ : Hid (∀ e', e' = Ending.returned (.int .i64 (i64of (beNum (takeS t 8).2))) → IntP w r a cap B t e' wr) := fun e' h => ⟨h, HR.out, HT.out⟩
        rw [he] at hc2
        clear m1 m2 m3 he
        generalize i64of (beNum (takeS t 8).2) = z at *
        generalize beNum (takeS t 8).2 = y at *
        go_wp2_with fail
        go_ret
        exact HQ.out _ rfl
      · have hne : ¬ ((s.e : Nat) : Int) = 0 := by omega
        have HQ : Hid (∀ e', e' = Ending.returned (.int .i64 0) → IntP w r a cap B t e' wr) := fun e' h => ⟨by rw [h]; show _ = Ending.returned (.int .i64 (i64of (beNum (takeS t 8).2))); rw [m3 he], HR.out.as m1.symm (fun k => absurd k he), HT.out⟩
        clear m1 m2 m3
        go_wp2_with fail
        go_ret
        exact HQ.out _ rfl
end Go.Proofs.Ytkbboingeacgjaa
